/-
  Texts laid together: GFrw, GEa, GEb, Ac.
-/
import Derived.Test.YthlgohplljcgfaaGreatDoorPkESN31
import Derived.Deep.RegionHeld3
import Derived.Deep.QuietTactic
import Derived.BigQuiet
import Derived.Test.YthlgohplljcgfaaGreatDoorPkESN0
import Derived.LaidEql
import Derived.Stop.Asserts
import Derived.RowKitTokens
import Derived.Deep.MidRow
import Derived.Below
import Derived.Test.YthlgohplljcgfaaGreatDoorPkESN1
/-
  What Frame answers, the program's and the specification's, and what the program reads at one place.
-/
namespace Go.Proofs.YthlgohplljcgfaaGreatDoor
open Go.RowKit
set_option linter.unusedVariables false

theorem varB_le (n : Nat) : (varB n).size ≤ 10 := by
  have h := M.varL_len n
  have e : (varB n).size = (M.varL n).length := by unfold varB; simp [ByteArray.size]
  omega

theorem l01Var_B (x : Int) (n : Nat) (w : World) (hx : x = (n : Int)) (hn : n ≤ 1000000000) :
    Calls Tryz.prog 129 #[.int .i64 x] w fun e w' => e = .returned (.string (varB n)) ∧ Below w.heap.size w w' := by
  subst hx
  exact l01Var_any n w hn

theorem recordSizeOk_any (n : Int) (w : World) : Calls Tryz.prog 172 #[.int .i64 n] w fun e w' => e = .returned (.bool (decide (1 ≤ n ∧ n ≤ 9000))) ∧ w' = w := by
  by_cases h1 : 1 ≤ n
  · by_cases h2 : n ≤ 9000
    · go_enter Tryz.func172, Tryz.ntmps172
      go_wp2
      go_ret
      exact ⟨by simp [h1, h2], rfl⟩
    · go_enter Tryz.func172, Tryz.ntmps172
      go_wp2
      go_ret
      exact ⟨by simp [h2], rfl⟩
  · go_enter Tryz.func172, Tryz.ntmps172
    go_wp2
    go_ret
    exact ⟨by simp; omega, rfl⟩

theorem Tab.drew {w : World} (h : Tab w) : Tab w.drew := fun i hi => h i hi
theorem bytes_ne {a b : ByteArray} (h : ¬ a = b) : (a.toList == b.toList) = false := by
  simp only [beq_eq_false_iff_ne]
  intro he
  apply h
  apply ByteArray.ext
  apply Array.toList_inj.1
  simpa [ByteArray.toList_eq] using he

theorem sFrame_no (t : ByteArray) (w : World) (hm : t.size ≤ 1048576) (h : ¬ (1 ≤ t.size ∧ t.size ≤ 9000)) :
    Calls Tryz.prog 105 #[.string t] w fun e w' => e = .returned (.tuple #[.string ⟨#[]⟩, .bool false]) ∧ Below w.heap.size w w' := by
  have hd : decide ((1 : Int) ≤ (t.size : Int) ∧ (t.size : Int) ≤ 9000) = false := by simp; omega
  go_enter Tryz.func105, Tryz.ntmps105
  go_wp2_with fail
  refine (l01In_any _ _ _ _).mono ?_
  rintro e w1 ⟨rfl, rfl⟩
  rw [hd]
  go_wp2
  go_ret2
  exact ⟨rfl, Below.refl _ _⟩

set_option maxRecDepth 100000 in
set_option maxHeartbeats 1000000 in
theorem sFrame_yes (t : ByteArray) (w : World) (h1 : 1 ≤ t.size) (h2 : t.size ≤ 9000) :
    Calls Tryz.prog 105 #[.string t] w fun e w' => e = .returned (.tuple #[.string (frB t), .bool true]) ∧ Below w.heap.size w w' := by
  have hd : decide ((1 : Int) ≤ (t.size : Int) ∧ (t.size : Int) ≤ 9000) = true := by simp; omega
  have hl := sumN_lt t
  have h4 := fourB_size (sumN t)
  have hv := varB_le t.size
  go_enter Tryz.func105, Tryz.ntmps105
  go_wp2_with fail
  refine (l01In_any _ _ _ _).mono ?_
  rintro e w1 ⟨rfl, rfl⟩
  rw [hd]
  go_wp2_with fail
  refine (l01Var_B _ t.size _ rfl (by omega)).mono ?_
  rintro e w2 ⟨rfl, hb2⟩
  go_wp2_with fail
  refine (sSumOf_any t _ (by omega)).mono ?_
  rintro e w3 ⟨rfl, rfl⟩
  go_wp2_with fail
  refine (l02Four_any (sumN t) _ hl).mono ?_
  rintro e w4 ⟨rfl, hb4⟩
  go_wp2
  go_ret2
  exact ⟨rfl, hb2.trans (hb4.mono hb2.size)⟩

/-- the record and its sum, cut out -/
theorem run_rec (s : ByteArray) (q n : Nat) (h : q + 4 + n ≤ s.size) (w : World) :
    (Instr.slice 9 (.string s) (some (.int .i64 ((q : Int) + 4))) (some (.int .i64 ((q : Int) + 4 + (n : Int)))) none).run Tryz.prog w = .ok (.string (piece s (q + 4) n)) w := by
  have h1 := run_piece s (q + 4) n h w
  have e : ((q + 4 : Nat) : Int) = (q : Int) + 4 := by omega
  rw [e] at h1
  exact h1
theorem run_sum (s : ByteArray) (q : Nat) (h : q + 4 ≤ s.size) (w : World) :
    (Instr.slice 9 (.string s) (some (.int .i64 (q : Int))) (some (.int .i64 ((q : Int) + 4))) none).run Tryz.prog w = .ok (.string (piece s q 4)) w := run_piece s q 4 h w

theorem ReadVar_noneN (s : ByteArray) (p : Nat) (w : World) (hs : s.size ≤ 1048576) (hp : p ≤ s.size) (h : M.readVar s.data.toList p = none) :
    Calls Tryz.prog 137 #[.string s, .int .i64 p] w fun e w' => e = .returned (.tuple #[.int .i64 0, .int .i64 0, .bool false]) ∧ w' = w := by
  have hc := ReadVar_in s p w hs hp
  rw [h] at hc
  exact hc
theorem ReadVar_someN (s : ByteArray) (p n q : Nat) (w : World) (hs : s.size ≤ 1048576) (hp : p ≤ s.size) (h : M.readVar s.data.toList p = some (n, q)) :
    Calls Tryz.prog 137 #[.string s, .int .i64 p] w fun e w' => e = .returned (.tuple #[.int .i64 n, .int .i64 q, .bool true]) ∧ w' = w := by
  have hc := ReadVar_in s p w hs hp
  rw [h] at hc
  exact hc

/-- the three results of readFrame -/
def recOut : Option (ByteArray × Nat) → Array Value
  | none => #[.string ⟨#[]⟩, .int .i64 0, .bool false]
  | some (t, q) => #[.string t, .int .i64 q, .bool true]
theorem rec_none {o : Option (ByteArray × Nat)} (h : o = none) : Ending.returned (.tuple #[.string ⟨#[]⟩, .int .i64 0, .bool false]) = .returned (.tuple (recOut o)) := by rw [h]; rfl
theorem rec_some {o : Option (ByteArray × Nat)} {t : ByteArray} {q : Nat} {b : Int} (h : o = some (t, q)) (hb : b = (q : Int)) : Ending.returned (.tuple #[.string t, .int .i64 b, .bool true]) = .returned (.tuple (recOut o)) := by rw [h, hb]; rfl

set_option maxRecDepth 100000 in
set_option maxHeartbeats 1000000 in
theorem readFrame_any (s : ByteArray) (p : Nat) (w : World) (hs : s.size ≤ 1048576) (hp : p ≤ s.size) (hT : Tab w) :
    Calls Tryz.prog 150 #[.string s, .int .i64 p] w fun e w' => e = .returned (.tuple (recOut (recAt s p))) ∧ Below w.heap.size w w' := by
  cases hv : M.readVar s.data.toList p with
  | none =>
    have HR : Hid (recAt s p = none) := recAt_none hv
    have HV : Hid (M.readVar s.data.toList p = none) := hv
    clear hv
    go_enter Tryz.func150, Tryz.ntmps150
    go_wp2_with fail
    refine (ReadVar_noneN s p _ hs hp HV.out).mono ?_
    rintro e w1 ⟨rfl, rfl⟩
    go_wp2
    go_ret3
    exact ⟨rec_none HR.out, Below.refl _ _⟩
  | some x =>
    obtain ⟨n, q⟩ := x
    have HV : Hid (M.readVar s.data.toList p = some (n, q)) := hv
    obtain ⟨hq, hn⟩ := read_bound s p n q hv
    clear hv
    by_cases hz : 1 ≤ n ∧ n ≤ 9000
    · have hd : decide ((1 : Int) ≤ (n : Int) ∧ (n : Int) ≤ 9000) = true := by simp; omega
      by_cases hr : q + 4 + n ≤ s.size
      · have hr' : ¬ ((s.size : Int) - (q : Int) < 4 + (n : Int)) := by omega
        have hrec := run_rec s q n hr
        have hsum := run_sum s q (by omega)
        have hps := piece_size s (q + 4) n
        have hl := sumN_lt (piece s (q + 4) n)
        by_cases he : fourB (sumN (piece s (q + 4) n)) = piece s q 4
        · have HR : Hid (recAt s p = some (piece s (q + 4) n, q + 4 + n)) := recAt_yes HV.out ⟨hz.1, hz.2, hr⟩ he
          clear hz
          go_enter Tryz.func150, Tryz.ntmps150
          go_wp2_with fail
          refine (ReadVar_someN s p n q _ hs hp HV.out).mono ?_
          rintro e w1 ⟨rfl, rfl⟩
          go_wp2_with fail
          refine (recordSizeOk_any _ _).mono ?_
          rintro e w1 ⟨rfl, rfl⟩
          rw [hd]
          go_wp2
          go_region_held3 (fun _ => True) (trivial) ((first | (go_at_call 173; refine (SumOf_any (piece s (q + 4) n) _ (by omega) hT.drew).mono ?_; rintro e w1 ⟨rfl, rfl⟩) | (go_at_call 174; refine (inBytes_any (sumN (piece s (q + 4) n)) _ hl).mono ?_; rintro e w2 ⟨rfl, hb⟩)))
          go_wp2_with fail
          refine (Clone_any _ _ (by omega)).mono ?_
          rintro e w3 ⟨rfl, hb3⟩
          go_wp2
          go_ret3
          have hb' := (Below.refl _ _).drew.trans hb
          exact ⟨rec_some HR.out (by omega), hb'.trans (hb3.mono hb'.size)⟩
        · have HR : Hid (recAt s p = none) := recAt_other HV.out he
          have hne := bytes_ne he
          clear hz he
          go_enter Tryz.func150, Tryz.ntmps150
          go_wp2_with fail
          refine (ReadVar_someN s p n q _ hs hp HV.out).mono ?_
          rintro e w1 ⟨rfl, rfl⟩
          go_wp2_with fail
          refine (recordSizeOk_any _ _).mono ?_
          rintro e w1 ⟨rfl, rfl⟩
          rw [hd]
          go_wp2
          go_region_held3 (fun _ => True) (trivial) ((first | (go_at_call 173; refine (SumOf_any (piece s (q + 4) n) _ (by omega) hT.drew).mono ?_; rintro e w1 ⟨rfl, rfl⟩) | (go_at_call 174; refine (inBytes_any (sumN (piece s (q + 4) n)) _ hl).mono ?_; rintro e w2 ⟨rfl, hb⟩)))
          go_wp2
          go_ret3
          exact ⟨rec_none HR.out, (Below.refl _ _).drew.trans hb⟩
      · have HR : Hid (recAt s p = none) := recAt_no HV.out (by omega)
        have hr' : (s.size : Int) - (q : Int) < 4 + (n : Int) := by omega
        clear hz hr
        go_enter Tryz.func150, Tryz.ntmps150
        go_wp2_with fail
        refine (ReadVar_someN s p n q _ hs hp HV.out).mono ?_
        rintro e w1 ⟨rfl, rfl⟩
        go_wp2_with fail
        refine (recordSizeOk_any _ _).mono ?_
        rintro e w1 ⟨rfl, rfl⟩
        rw [hd]
        go_wp2
        go_ret3
        exact ⟨rec_none HR.out, Below.refl _ _⟩
    · have HR : Hid (recAt s p = none) := recAt_no HV.out (by omega)
      have hd : decide ((1 : Int) ≤ (n : Int) ∧ (n : Int) ≤ 9000) = false := by simp; omega
      clear hz
      go_enter Tryz.func150, Tryz.ntmps150
      go_wp2_with fail
      refine (ReadVar_someN s p n q _ hs hp HV.out).mono ?_
      rintro e w1 ⟨rfl, rfl⟩
      go_wp2_with fail
      refine (recordSizeOk_any _ _).mono ?_
      rintro e w1 ⟨rfl, rfl⟩
      rw [hd]
      go_wp2
      go_ret3
      exact ⟨rec_none HR.out, Below.refl _ _⟩

end Go.Proofs.YthlgohplljcgfaaGreatDoor
/-
  errors.As at a target of the program's own type logFault, by contracts: of no error it is false; of a logFault it is true, and the target holds it. So what logCodeOf answers.
-/
namespace Go.Proofs.YthlgohplljcgfaaGreatDoor
open Go.RowKit Go.Extern.Stop Go.Stop Go.Extern
set_option linter.unusedVariables false
set_option linter.unusedSimpArgs false

namespace E
theorem as_nil (t : Value) (w : World) :
    Calls Tryz.prog 121 #[.nilIface, t] w fun e w' => e = .returned (.bool false) ∧ w' = w := by
  go_enter Tryz.func121, Tryz.ntmps121
  go_wp2
  go_ret
  exact ⟨rfl, rfl⟩

theorem valueOfP (t : Addr) (w : World) : (ReflectliteValue.unpack (.iface 154 (.pointer (some t)))).run Tryz.prog w
    = .ok (.agg #[.pointer (some ⟨5, 154, none⟩), .pointer (some ⟨w.heap.size, 0, none⟩), .int .u64 150]) (w.alloc (.cells #[.pointer (some t)] 154)) := by kernel_rfl
theorem typeP (a : Addr) (w : World) : (ReflectliteValue.methodAny (ReflectliteValue.valueError "reflectlite.Value.Type" 0) (fun t _ _ _ => ReflectliteType.toType t) #[.agg #[.pointer (some ⟨5, 154, none⟩), .pointer (some a), .int .u64 150]]).run Tryz.prog w
    = .ok (.iface 202 (.agg #[.pointer (some ⟨5, 154, none⟩)])) w := by kernel_rfl
theorem methodKind (h : Value) (w : World) : (Go.method 393 202 (.agg #[h]) "Kind").run Tryz.prog w = .ok (240, h) w := by kernel_rfl
theorem kindP (w : World) : ((ReflectliteType.abiMethod fun t => (fun a : Nat => Value.int IntKind.u8 (a : Int)) <$> Rtype.kind t) #[.pointer (some ⟨5, 154, none⟩)]).run Tryz.prog w = .ok (.int .u8 22) w := by kernel_rfl
theorem kindE (w : World) : ((ReflectliteType.abiMethod fun t => (fun a : Nat => Value.int IntKind.u8 (a : Int)) <$> Rtype.kind t) #[.pointer (some ⟨5, 152, none⟩)]).run Tryz.prog w = .ok (.int .u8 25) w := by kernel_rfl

theorem rlm (z : Sem Value) (f : TypeId → Addr → Nat → Nat → Sem Value) (v : Value) :
    ReflectliteValue.method z f #[v] = (do match ← ReflectliteValue.parts v with | none => z | some (t, a, fl) => f t a fl (fl % 32)) := rfl
theorem partsP (a : Addr) (w : World) : (ReflectliteValue.parts (.agg #[.pointer (some ⟨5, 154, none⟩), .pointer (some a), .int .u64 150])).run Tryz.prog w = .ok (some (154, a, 150)) w := by kernel_rfl
theorem isNilP (a p : Addr) (W : World) (ha : W.cell? a = some (.pointer (some p))) :
    (ReflectliteValue.method (ReflectliteValue.valueError "reflectlite.Value.IsNil" 0) ReflectliteValue.isNil #[.agg #[.pointer (some ⟨5, 154, none⟩), .pointer (some a), .int .u64 150]]).run Tryz.prog W = .ok (.bool false) W := by
  rw [rlm]
  simp only [Sem.run_bind, partsP, Result.andThen]
  simp [ReflectliteValue.isNil, loadVar, isAgg, underlying, Tryz.underlying154, ha, Result.andThen]

theorem methodElem (h : Value) (w : World) : (Go.method 393 202 (.agg #[h]) "Elem").run Tryz.prog w = .ok (251, .agg #[h]) w := by kernel_rfl
theorem methodImplements (h : Value) (w : World) : (Go.method 393 202 (.agg #[h]) "Implements").run Tryz.prog w = .ok (252, .agg #[h]) w := by kernel_rfl
theorem methodAssignableTo (h : Value) (w : World) : (Go.method 393 202 (.agg #[h]) "AssignableTo").run Tryz.prog w = .ok (249, .agg #[h]) w := by kernel_rfl
theorem elemP (w : World) : (ReflectliteType.method ReflectliteType.elem #[.agg #[.pointer (some ⟨5, 154, none⟩)]]).run Tryz.prog w = .ok (.iface 202 (.agg #[.pointer (some ⟨5, 152, none⟩)])) w := by kernel_rfl
theorem implementsE (w : World) : (ReflectliteType.relation "Implements" ReflectliteType.implements_ #[.agg #[.pointer (some ⟨5, 152, none⟩)], .iface 202 (.agg #[.pointer (some ⟨5, 115, none⟩)])]).run Tryz.prog w = .ok (.bool true) w := by kernel_rfl
theorem typeOfE (v : Value) (w : World) : (ReflectliteType.typeOf #[.iface 152 v]).run Tryz.prog w = .ok (.iface 202 (.agg #[.pointer (some ⟨5, 152, none⟩)])) w := by kernel_rfl
theorem assignableE (w : World) : (ReflectliteType.relation "AssignableTo" ReflectliteType.assignableTo #[.agg #[.pointer (some ⟨5, 152, none⟩)], .iface 202 (.agg #[.pointer (some ⟨5, 152, none⟩)])]).run Tryz.prog w = .ok (.bool true) w := by kernel_rfl
theorem valueOfE (c : Int) (w : World) : (ReflectliteValue.unpack (.iface 152 (.agg #[.int .i64 c]))).run Tryz.prog w
    = .ok (.agg #[.pointer (some ⟨5, 152, none⟩), .pointer (some ⟨w.heap.size, 0, none⟩), .int .u64 153]) (w.alloc (.cells #[.int .i64 c] 152)) := by kernel_rfl

theorem elemOfP (w : World) : (Rtype.elem? 154).run Tryz.prog w = .ok (some 152) w := by kernel_rfl
theorem mkE (p : Addr) (w : World) : (ReflectliteValue.mk 152 p ReflectliteValue.flagAddr).run Tryz.prog w = .ok (.agg #[.pointer (some ⟨5, 152, none⟩), .pointer (some p), .int .u64 409]) w := by kernel_rfl
theorem elemV (a p : Addr) (W : World) (ha : W.cell? a = some (.pointer (some p))) :
    (ReflectliteValue.method (ReflectliteValue.valueError "reflectlite.Value.Elem" 0) ReflectliteValue.elem #[.agg #[.pointer (some ⟨5, 154, none⟩), .pointer (some a), .int .u64 150]]).run Tryz.prog W
      = .ok (.agg #[.pointer (some ⟨5, 152, none⟩), .pointer (some p), .int .u64 409]) W := by
  rw [rlm]
  simp only [Sem.run_bind, partsP, Result.andThen]
  simp [ReflectliteValue.elem, loadVar, isAgg, underlying, Tryz.underlying154, ha, Result.andThen, elemOfP, mkE]
theorem rls (v x : Value) : ReflectliteValue.set #[v, x] = (do
    let (some (dst, a, fl), some (src, b, _)) := (← ReflectliteValue.parts v, ← ReflectliteValue.parts x)
      | unsupported (.noEntry "extern/(internal/reflectlite.Value).Set.zeroValue")
    if fl / ReflectliteValue.flagAddr % 2 == 0 then unsupported (.noEntry "extern/(internal/reflectlite.Value).Set.unaddressable")
    let val ← loadVar src b
    if ← Rtype.directlyAssignable dst src then storeVar dst a val
    else if ← Rtype.implements dst src then
      if (← Rtype.kind src) == 20 then
        match val with
        | .nilIface => unsupported (.noEntry "extern/reflectlite: a nil value of one interface type handed on as a value of another")
        | _ => storeVar dst a val
      else storeVar dst a (.iface src val)
    else panicString ("reflectlite.Set: value of type " ++ (← Rtype.spelt src) ++ " is not assignable to type " ++ (← Rtype.spelt dst))
    pure (.tuple #[])) := rfl
theorem partsEa (a : Addr) (w : World) : (ReflectliteValue.parts (.agg #[.pointer (some ⟨5, 152, none⟩), .pointer (some a), .int .u64 409])).run Tryz.prog w = .ok (some (152, a, 409)) w := by kernel_rfl
theorem partsE (a : Addr) (w : World) : (ReflectliteValue.parts (.agg #[.pointer (some ⟨5, 152, none⟩), .pointer (some a), .int .u64 153])).run Tryz.prog w = .ok (some (152, a, 153)) w := by kernel_rfl
theorem directE (w : World) : (Rtype.directlyAssignable 152 152).run Tryz.prog w = .ok true w := by kernel_rfl
theorem sizeE (w : World) : (sizeOf 152).run Tryz.prog w = .ok 1 w := by kernel_rfl
theorem setE (tb b : Nat) (c : Int) (old : Value) (W : World) (hb : W.cell? ⟨b, 0, none⟩ = some (.int .i64 c)) (ht : W.cell? ⟨tb, 0, none⟩ = some old) (hf : W.frozen? ⟨tb, 0, none⟩ = false) :
    (ReflectliteValue.set #[.agg #[.pointer (some ⟨5, 152, none⟩), .pointer (some ⟨tb, 0, none⟩), .int .u64 409], .agg #[.pointer (some ⟨5, 152, none⟩), .pointer (some ⟨b, 0, none⟩), .int .u64 153]]).run Tryz.prog W
      = .ok (.tuple #[]) (W.setCell ⟨tb, 0, none⟩ (.int .i64 c)) := by
  have hl := run_loadVar_mid (P := Tryz.prog) W b 0 152 [.int .i64 c] _ (fun j v hv => by
    match j, hv with
    | 0, hv => cases hv; exact hb) Tryz.underlying152 rfl (by kernel_rfl)
  rw [rls]
  simp only [Sem.run_bind, partsEa, partsE, Result.andThen]
  simp [ReflectliteValue.flagAddr, hl, Result.andThen, directE, storeVar, Value.cells, storeCells, Addr.add, sizeE, isAgg, underlying, Tryz.underlying152]
  rw [run_store Tryz.prog W ⟨tb, 0, none⟩ _ _ (by rfl)]
  simp [ht, hf]
end E

end Go.Proofs.YthlgohplljcgfaaGreatDoor
/-
  errors.As of a logFault at a target of that type; what logCodeOf answers.
-/
namespace Go.Proofs.YthlgohplljcgfaaGreatDoor
open Go.RowKit Go.Extern.Stop Go.Stop Go.Extern
set_option linter.unusedVariables false
set_option linter.unusedSimpArgs false

/-- the library's variable errors.errorType holds what its text lays -/
def Eh (w : World) : Prop := w.cell? ⟨0, 0, none⟩ = some (.iface 202 (.agg #[.pointer (some ⟨5, 115, none⟩)]))
theorem Eh.lt {w : World} (h : Eh w) : 0 < w.heap.size := by
  unfold Eh at h
  rcases Nat.lt_or_ge 0 w.heap.size with h1 | h1
  · exact h1
  · simp [World.cell?, Array.getElem?_eq_none h1] at h
theorem Eh.below {B : Nat} {w w' : World} (h : Eh w) (hb : Below B w w') (hB : 0 < B) : Eh w' := (hb.cell (p := ⟨0, 0, none⟩) hB).trans h
theorem Eh.later {w w' : World} (h : Eh w) (hb : Below w.heap.size w w') : Eh w' := h.below hb h.lt
theorem Eh.drew {w : World} (h : Eh w) : Eh w.drew := h
theorem Eh.alloc {w : World} (h : Eh w) (o : Obj) : Eh (w.alloc o) := (World.cell?_alloc_lt _ _ ⟨0, 0, none⟩ h.lt).trans h

namespace E
set_option maxHeartbeats 4000000 in
theorem as_hit (c : Int) (tb : Nat) (old : Value) (w : World) (hg : Eh w) (ht0 : w.cell? ⟨tb, 0, none⟩ = some old) (hf0 : w.frozen? ⟨tb, 0, none⟩ = false) :
    Calls Tryz.prog 121 #[.iface 152 (.agg #[.int .i64 c]), .iface 154 (.pointer (some ⟨tb, 0, none⟩))] w fun ev w' => ev = .returned (.bool true) ∧ w' = ((((w.alloc (.cells #[.pointer (some ⟨tb, 0, none⟩)] 154)).alloc (.cells #[.pointer (some ⟨5, 154, none⟩), .pointer (some ⟨w.heap.size, 0, none⟩), .int .u64 150] 180)).alloc (.cells #[.pointer (some ⟨5, 154, none⟩), .pointer (some ⟨w.heap.size, 0, none⟩), .int .u64 150] 180)).alloc (.cells #[.int .i64 c] 152)).setCell ⟨tb, 0, none⟩ (.int .i64 c) := by
  have h6 := @run_callFunc_extern Tryz.prog 145 _ (fun args => ReflectliteValue.unpack (args.getD 0 (.tuple #[]))) Tryz.func145 (by kernel_rfl) (by kernel_rfl) (by kernel_rfl) (by kernel_rfl)
  have h7 := @run_callFunc_extern Tryz.prog 146 _ (ReflectliteValue.methodAny (ReflectliteValue.valueError "reflectlite.Value.Type" 0) (fun t _ _ _ => ReflectliteType.toType t)) Tryz.func146 (by kernel_rfl) (by kernel_rfl) (by kernel_rfl) (by kernel_rfl)
  have h8 := @run_callFunc_extern Tryz.prog 147 _ (ReflectliteValue.method (ReflectliteValue.valueError "reflectlite.Value.IsNil" 0) ReflectliteValue.isNil) Tryz.func147 (by kernel_rfl) (by kernel_rfl) (by kernel_rfl) (by kernel_rfl)
  have h27 := @run_callFunc_extern Tryz.prog 240 _ (ReflectliteType.abiMethod fun t => do pure (.int .u8 (← Rtype.kind t))) Tryz.func240 (by kernel_rfl) (by kernel_rfl) (by kernel_rfl) (by kernel_rfl)
  have h37 := @run_callFunc_extern Tryz.prog 251 _ (ReflectliteType.method ReflectliteType.elem) Tryz.func251 (by kernel_rfl) (by kernel_rfl) (by kernel_rfl) (by kernel_rfl)
  have h38 := @run_callFunc_extern Tryz.prog 252 _ (ReflectliteType.relation "Implements" ReflectliteType.implements_) Tryz.func252 (by kernel_rfl) (by kernel_rfl) (by kernel_rfl) (by kernel_rfl)
  have h10 := @run_callFunc_extern Tryz.prog 169 _ ReflectliteType.typeOf Tryz.func169 (by kernel_rfl) (by kernel_rfl) (by kernel_rfl) (by kernel_rfl)
  have h35 := @run_callFunc_extern Tryz.prog 249 _ (ReflectliteType.relation "AssignableTo" ReflectliteType.assignableTo) Tryz.func249 (by kernel_rfl) (by kernel_rfl) (by kernel_rfl) (by kernel_rfl)
  have h11 := @run_callFunc_extern Tryz.prog 170 _ (ReflectliteValue.method (ReflectliteValue.valueError "reflectlite.Value.Elem" 0) ReflectliteValue.elem) Tryz.func170 (by kernel_rfl) (by kernel_rfl) (by kernel_rfl) (by kernel_rfl)
  have h12 := @run_callFunc_extern Tryz.prog 171 _ ReflectliteValue.set Tryz.func171 (by kernel_rfl) (by kernel_rfl) (by kernel_rfl) (by kernel_rfl)
  have tO := typeOfE
  have mA := methodAssignableTo
  have a25 := assignableE
  have v25 := valueOfE
  have f6 := valueOfP
  have f7 := typeP
  have mK := methodKind
  have mE := methodElem
  have mI := methodImplements
  have k27 := kindP
  have k25 := kindE
  have e27 := elemP
  have i25 := implementsE
  have n8 := isNilP ⟨w.heap.size, 0, none⟩ ⟨tb, 0, none⟩ ((w.alloc (.cells #[.pointer (some ⟨tb, 0, none⟩)] 154)).alloc (.cells #[.pointer (some ⟨5, 154, none⟩), .pointer (some ⟨w.heap.size, 0, none⟩), .int .u64 150] 180)) (by simp)
  have hg2 : ((w.alloc (.cells #[.pointer (some ⟨tb, 0, none⟩)] 154)).alloc (.cells #[.pointer (some ⟨5, 154, none⟩), .pointer (some ⟨w.heap.size, 0, none⟩), .int .u64 150] 180)).cell? ⟨0, 0, none⟩ = some (.iface 202 (.agg #[.pointer (some ⟨5, 115, none⟩)])) := (hg.alloc _).alloc _
  have htl : tb < w.heap.size := by
    rcases Nat.lt_or_ge tb w.heap.size with h | h
    · exact h
    · simp [World.cell?, Array.getElem?_eq_none h] at ht0
  have el := elemV ⟨w.heap.size, 0, none⟩ ⟨tb, 0, none⟩ (((w.alloc (.cells #[.pointer (some ⟨tb, 0, none⟩)] 154)).alloc (.cells #[.pointer (some ⟨5, 154, none⟩), .pointer (some ⟨w.heap.size, 0, none⟩), .int .u64 150] 180)).alloc (.cells #[.pointer (some ⟨5, 154, none⟩), .pointer (some ⟨w.heap.size, 0, none⟩), .int .u64 150] 180)) (by rw [World.cell?_alloc_lt _ _ ⟨w.heap.size, 0, none⟩ (by simp; omega)]; simp)
  have st := setE tb (w.heap.size + 1 + 1 + 1) c old ((((w.alloc (.cells #[.pointer (some ⟨tb, 0, none⟩)] 154)).alloc (.cells #[.pointer (some ⟨5, 154, none⟩), .pointer (some ⟨w.heap.size, 0, none⟩), .int .u64 150] 180)).alloc (.cells #[.pointer (some ⟨5, 154, none⟩), .pointer (some ⟨w.heap.size, 0, none⟩), .int .u64 150] 180)).alloc (.cells #[.int .i64 c] 152))
    (by rw [World.cell?_alloc_at _ _ _ _ (by simp)]; rfl)
    (by rw [World.cell?_alloc_lt _ _ ⟨tb, 0, none⟩ (by simp; omega), World.cell?_alloc_lt _ _ ⟨tb, 0, none⟩ (by simp; omega), World.cell?_alloc_lt _ _ ⟨tb, 0, none⟩ (by simp; omega), World.cell?_alloc_lt _ _ ⟨tb, 0, none⟩ htl]; exact ht0)
    (by rw [World.frozen?_alloc_old _ _ ⟨tb, 0, none⟩ (by simp; omega), World.frozen?_alloc_old _ _ ⟨tb, 0, none⟩ (by simp; omega), World.frozen?_alloc_old _ _ ⟨tb, 0, none⟩ (by simp; omega), World.frozen?_alloc_old _ _ ⟨tb, 0, none⟩ (Nat.ne_of_lt htl)]; exact hf0)
  go_enter Tryz.func121, Tryz.ntmps121
  go_wp2
  refine wp_loop_rounds 1 ?_
  rw [rounds_succ]
  go_wp2
  go_ret
  exact ⟨rfl, rfl⟩
end E

def faultV (c : Int) : Value := .iface 152 (.agg #[.int .i64 c])

theorem logCodeOf_nil (w : World) : Calls Tryz.prog 80 #[.nilIface] w fun e w' => e = .returned (.int .i64 0) ∧ Below w.heap.size w w' := by
  have HB : Hid (Below w.heap.size w (w.alloc (.cells #[.int .i64 0] 152))) := (Below.refl _ _).alloc (Nat.le_refl _) _
  go_enter Tryz.func80, Tryz.ntmps80
  go_wp2_with (go_at_call 121; refine (E.as_nil _ _).mono ?_; rintro e w' ⟨rfl, rfl⟩)
  go_ret
  exact ⟨rfl, HB.out⟩

theorem logCodeOf_hit (c : Int) (w : World) (hg : Eh w) : Calls Tryz.prog 80 #[faultV c] w fun e w' => e = .returned (.int .i64 c) ∧ Below w.heap.size w w' := by
  have hgA : Eh (w.alloc (.cells #[.int .i64 0] 152)) := hg.alloc _
  have HG : Hid (Eh (w.alloc (.cells #[.int .i64 0] 152))) := hgA
  have htA : (w.alloc (.cells #[.int .i64 0] 152)).cell? ⟨w.heap.size, 0, none⟩ = some (.int .i64 0) := by simp
  have hfA : (w.alloc (.cells #[.int .i64 0] 152)).frozen? ⟨w.heap.size, 0, none⟩ = false := by simp
  unfold faultV
  clear hg hgA
  go_enter Tryz.func80, Tryz.ntmps80
  go_wp2_with fail
  refine (E.as_hit c _ (.int .i64 0) _ HG.out htA hfA).mono ?_
  rintro e w' ⟨rfl, hw⟩
  have hb : Below w.heap.size w w' := by
    rw [hw]
    have b0 : Below w.heap.size w (w.alloc (.cells #[.int .i64 0] 152)) := (Below.refl _ _).alloc (Nat.le_refl _) _
    have b1 := b0.alloc b0.size (.cells #[.pointer (some ⟨w.heap.size, 0, none⟩)] 154)
    have b2 := b1.alloc b1.size (.cells #[.pointer (some ⟨5, 154, none⟩), .pointer (some ⟨(w.alloc (.cells #[.int .i64 0] 152)).heap.size, 0, none⟩), .int .u64 150] 180)
    have b3 := b2.alloc b2.size (.cells #[.pointer (some ⟨5, 154, none⟩), .pointer (some ⟨(w.alloc (.cells #[.int .i64 0] 152)).heap.size, 0, none⟩), .int .u64 150] 180)
    have b4 := b3.alloc b3.size (.cells #[.int .i64 c] 152)
    exact b4.setCell (p := ⟨w.heap.size, 0, none⟩) (Nat.le_refl _) _
  have hc : w'.cell? ⟨w.heap.size, 0, none⟩ = some (.int .i64 c) := by
    rw [hw]
    refine (World.rangeAt_setCells_same _ w.heap.size 0 [.int .i64 c] (fun j hj => ?_)) 0 _ rfl
    have : j = 0 := by simpa using hj
    subst this
    refine ⟨?_, ?_⟩
    · rw [Nat.add_zero, World.cell?_alloc_lt _ _ ⟨w.heap.size, 0, none⟩ (by simp; omega), World.cell?_alloc_lt _ _ ⟨w.heap.size, 0, none⟩ (by simp; omega), World.cell?_alloc_lt _ _ ⟨w.heap.size, 0, none⟩ (by simp; omega), World.cell?_alloc_lt _ _ ⟨w.heap.size, 0, none⟩ (by simp), htA]
      rfl
    · rw [Nat.add_zero, World.frozen?_alloc_old _ _ ⟨w.heap.size, 0, none⟩ (by simp; omega), World.frozen?_alloc_old _ _ ⟨w.heap.size, 0, none⟩ (by simp; omega), World.frozen?_alloc_old _ _ ⟨w.heap.size, 0, none⟩ (by simp; omega), World.frozen?_alloc_old _ _ ⟨w.heap.size, 0, none⟩ (by simp), hfA]
  clear hw
  go_wp2
  go_ret
  exact ⟨rfl, hb⟩

end Go.Proofs.YthlgohplljcgfaaGreatDoor
/-
  An act that a law is handed: counted and copied.
-/
namespace Go.Proofs.YthlgohplljcgfaaGreatDoor
open Go.RowKit
set_option linter.unusedVariables false
set_option linter.unusedSimpArgs false

end Go.Proofs.YthlgohplljcgfaaGreatDoor
