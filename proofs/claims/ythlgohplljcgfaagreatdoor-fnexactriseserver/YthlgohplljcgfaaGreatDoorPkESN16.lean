/-
  Texts laid together: Mr, Ms, So, Sr.
-/
import Derived.Test.YthlgohplljcgfaaGreatDoorPkESN15
import Derived.Shelf.SlSortCmp.WholeK
import Derived.Test.YthlgohplljcgfaaGreatDoorProg
import Derived.Test.YthlgohplljcgfaaGreatDoorPkESN8
import Derived.Test.YthlgohplljcgfaaGreatDoorPkESN7
/-
  Leaves in a map, step by step: made of a row, put, dropped; and a row copied.
-/
namespace Go.Proofs.YthlgohplljcgfaaGreatDoor
open Go.RowKit Go.BigFrame Go.Sort Go.Maps
set_option linter.unusedVariables false
set_option linter.unusedSimpArgs false

theorem leafSetOf_no (v : Value) (ga oa : Nat) (L : List Le) (w : World) (hv : RS 2 lcs w v ga oa L) (hsm : SmallL L) (hd : LV.leavesB L = false) :
    Calls Tryz.prog 196 #[v] w fun e w' => e = .returned (.tuple #[.map none, .bool false]) ∧ Below w.heap.size w w' := by
  have HC := LeavesOk_any v ga oa L _ hv hsm
  rw [hd] at HC
  obtain ⟨a, cap, rfl⟩ := hv.shape
  clear hv
  go_enter Tryz.func196, Tryz.ntmps196
  go_wp2_with fail
  refine HC.mono ?_
  rintro e w1 ⟨rfl, hb1⟩
  go_wp2
  go_ret2
  exact ⟨rfl, hb1⟩

def SoR (w : World) (b : Nat) (L : List Le) (i : Value) (wr : World) : Prop := ∃ m : Nat, m ≤ L.length ∧ i = .int .i64 m ∧ Hid (LM w.heap.size w wr b (L.take m))

set_option maxRecDepth 100000 in
set_option maxHeartbeats 1000000 in
theorem leafSetOf_yes (v : Value) (ga oa : Nat) (L : List Le) (w : World) (hv : RS 2 lcs w v ga oa L) (hsm : SmallL L) (hd : LV.leavesB L = true) :
    Calls Tryz.prog 196 #[v] w fun e w' => ∃ b, e = .returned (.tuple #[.map (some b), .bool true]) ∧ LM w.heap.size w w' b L := by
  have HC := LeavesOk_any v ga oa L _ hv hsm
  rw [hd] at HC
  have HV : Hid (RS 2 lcs w v ga oa L) := hv
  obtain ⟨a, cap, rfl, hl, hA, _⟩ := hv
  obtain ⟨n, hn⟩ : ∃ n, L.length = n := ⟨_, rfl⟩
  rw [hn] at HC HV ⊢
  have HA : Hid (0 < n → a = some ⟨ga, oa, none⟩) := fun h => (hA (by omega)).1
  have HD : Hid (LV.LOk L) := LV.leavesB_iff.1 hd
  have hmm := run_makeLeaves n
  clear hA hd hsm
  go_enter Tryz.func196, Tryz.ntmps196
  go_wp2_with fail
  refine HC.mono ?_
  rintro e w1 ⟨rfl, hb1⟩
  have HST : Hid (SoR w w1.heap.size L (.int .i64 0) (w1.alloc (.map #[] 0))) := ⟨0, by omega, rfl, LM.made _ w w1 hb1 hb1.size⟩
  clear HC hb1
  go_wp2
  clear hmm
  go_loopw [15] (fun i wr => SoR w w1.heap.size L i wr) (fun i _ => n - (intOf i).toNat)
  case atStart => exact HST.out
  case round =>
    obtain ⟨m, hm, rfl, HI⟩ := hrel
    clear HST
    rw [hn] at hm
    by_cases hlt : m < n
    · have ea := HA.out (by omega)
      subst ea
      obtain ⟨c0, c1⟩ := (HV.out.later HI.out.2.2.1).leaf m (by omega)
      obtain ⟨X, hX⟩ : ∃ X, L[m]'(by omega) = X := ⟨_, rfl⟩
      rw [hX] at c0 c1
      have hxs : X.n.size ≤ 12 := (LV.leB_sizes (HD.out.2.1 X (by rw [← hX]; exact List.getElem_mem _))).1.2
      have hpt : LV.put (L.take m) X = L.take (m + 1) := by rw [← hX]; exact LV.put_take HD.out (by omega)
      have HF : Hid (LM w.heap.size w (wr.alloc (.cells #[.string X.n, .string X.v] 134)) w1.heap.size (L.take m) ∧ LV.LOk (L.take m) ∧ LV.put (L.take m) X = L.take (m + 1)) :=
        ⟨HI.out.later ((Below.refl _ _).alloc (Nat.le_refl _) _), LV.ok_take HD.out m, hpt⟩
      have i1 : (m : Int) < (n : Int) := by omega
      have i2 : (0 : Int) ≤ (m : Int) := by omega
      clear HI HA HV HD hX hpt
      go_wp2_with (at_mapUpdate; refine wp_leafStore rfl _ _ _ rfl w1.heap.size X rfl rfl rfl w.heap.size w (L.take m) HF.out.1 HF.out.2.1 (by omega) ?_; intro w2 hm2 hg2)
      have HG : Hid (LM w.heap.size w w2 w1.heap.size (L.take (m + 1))) := by rw [HF.out.2.2] at hm2; exact hm2
      clear hm2 hg2 HF c0 c1
      go_wp2
      go_roundw
      case rel => exact ⟨m + 1, by omega, by go_num, HG⟩
      case measure => simp [intOf]; omega
    · have hme : n = m := by omega
      have e1 : L.take m = L := List.take_of_length_le (by omega)
      rw [e1] at HI
      subst hme
      clear HA HV HD
      go_wp2
      go_ret2
      exact ⟨_, rfl, HI.out⟩

end Go.Proofs.YthlgohplljcgfaaGreatDoor
/-
  A leaf put into the map, and dropped from it.
-/
namespace Go.Proofs.YthlgohplljcgfaaGreatDoor
open Go.RowKit Go.BigFrame Go.Sort Go.Maps
set_option linter.unusedVariables false
set_option linter.unusedSimpArgs false

theorem wp_leafLook {w : World} {ops : Array Oper} {rest : List Oper} {o : Oper} {a : Act} {Q : Exit → Act → World → Prop} (hgd : o.guard = none) (m x : Operand) (hop : o.op = Op.lookup 236 m x true)
    (b : Nat) (y : ByteArray) (hm : a.eval m = .map (some b)) (hx : a.eval x = .string y) (B : Nat) (w0 : World) (L : List Le) (h : LM B w0 w b L) (hs : y.size ≤ 2000000)
    (hK : ∀ f : Le, wpList Tryz.prog ops Q rest (a.put o.dst (.tuple #[.agg #[.string f.n, .string f.v], .bool (LV.find L y).isSome])) w) : wpList Tryz.prog ops Q (o :: rest) a w := by
  refine wpList_plain hgd fun K' hK' => ?_
  obtain ⟨f, hrun⟩ := h.look y hs
  unfold Oper.wp
  simp [execOp, hop, hm, hx, hrun, Result.andThen]
  exact hK' _ _ (hK f)

set_option maxRecDepth 100000 in
set_option maxHeartbeats 1000000 in
theorem dropL_any (B : Nat) (w0 w : World) (b : Nat) (L : List Le) (x : ByteArray) (hS : LM B w0 w b L) (hx : x.size ≤ 1048576) :
    Calls Tryz.prog 197 #[.map (some b), .string x] w fun e w' => e = .returned (.bool (LV.find L x).isSome) ∧ LM B w0 w' b (if (LV.find L x).isSome then LV.wout L x else L) := by
  have hbl : ∀ (f : Le), LM B w0 (w.alloc (.cells #[.string f.n, .string f.v] 134)) b L := fun f => hS.later ((Below.refl _ _).alloc (Nat.le_refl _) _)
  have hbz : LM B w0 (w.alloc (.cells #[.string ⟨#[]⟩, .string ⟨#[]⟩] 134)) b L := hS.later ((Below.refl _ _).alloc (Nat.le_refl _) _)
  have HS : Hid (LM B w0 w b L) := hS
  cases hR : (LV.find L x).isSome
  · have HR : Hid ((LV.find L x).isSome = false) := hR
    have HB : Hid (∀ (f : Le), LM B w0 (w.alloc (.cells #[.string f.n, .string f.v] 134)) b L) := hbl
    clear hS hR hbl
    go_enter Tryz.func197, Tryz.ntmps197
    go_wp2_with (at_lookup; refine wp_leafLook rfl _ _ rfl b x rfl rfl B w0 L (by first | exact HS.out | exact hbz) (by omega) ?_; intro f0; rw [HR.out])
    go_ret
    exact ⟨rfl, HB.out f0⟩
  · have HR : Hid ((LV.find L x).isSome = true) := hR
    have HB : Hid (∀ (f : Le), LM B w0 (w.alloc (.cells #[.string f.n, .string f.v] 134)) b L) := hbl
    clear hS hR hbl
    go_enter Tryz.func197, Tryz.ntmps197
    go_wp2_with (first | (at_lookup; refine wp_leafLook rfl _ _ rfl b x rfl rfl B w0 L (by first | exact HS.out | exact hbz) (by omega) ?_; intro f0; rw [HR.out]) | (at_delete; refine wp_leafDel rfl _ _ rfl b x rfl rfl B w0 L (HB.out f0) (by omega) ?_; intro w2 hm2 hg2))
    have HM : Hid (LM B w0 w2 b (LV.wout L x)) := hm2
    clear hm2 hg2
    go_wp2
    go_ret
    exact ⟨rfl, HM.out⟩

set_option maxRecDepth 100000 in
set_option maxHeartbeats 1000000 in
theorem putL_any (B : Nat) (w0 w : World) (b : Nat) (L : List Le) (f : Le) (hS : LM B w0 w b L) (hL : LV.LOk L) (hn : f.n.size ≤ 1048576) (hv : f.v.size ≤ 1048576) :
    Calls Tryz.prog 199 #[.map (some b), .agg #[.string f.n, .string f.v]] w fun e w' => e = .returned (.bool (LV.putB L f)) ∧ LM B w0 w' b (LV.putR L f) := by
  have hbz : LM B w0 ((w.alloc (.cells #[.string f.n, .string f.v] 134)).alloc (.cells #[.string ⟨#[]⟩, .string ⟨#[]⟩] 134)) b L := hS.later (((Below.refl _ _).alloc (Nat.le_refl _) _).alloc (by simp) _)
  have hb1 : LM B w0 (w.alloc (.cells #[.string f.n, .string f.v] 134)) b L := hS.later ((Below.refl _ _).alloc (Nat.le_refl _) _)
  have HB : Hid (∀ (g : Le), LM B w0 ((w.alloc (.cells #[.string f.n, .string f.v] 134)).alloc (.cells #[.string g.n, .string g.v] 134)) b L) := fun g => hS.later (((Below.refl _ _).alloc (Nat.le_refl _) _).alloc (by simp) _)
  have HL : Hid (LV.LOk L) := hL
  have HOK : Hid (∀ W, Calls Tryz.prog 203 #[.agg #[.string f.n, .string f.v]] W fun e w' => e = .returned (.bool (LV.leB f)) ∧ Below W.heap.size W w') := fun W => leafOk_any f W hn hv
  have HPB : Hid (LV.putB L f = (LV.leB f && ((LV.find L f.n).isSome || decide (L.length < 24)))) := by unfold LV.putB; rw [LV.leavesB_iff.2 hL, Bool.true_and]; rfl
  have HPR : Hid (LV.putR L f = if LV.putB L f then LV.put L f else L) := rfl
  clear hS hL
  obtain ⟨R, hR⟩ : ∃ R, (LV.find L f.n).isSome = R := ⟨_, rfl⟩
  have HR : Hid ((LV.find L f.n).isSome = R) := hR
  go_enter Tryz.func199, Tryz.ntmps199
  go_wp2_with (at_lookup; refine wp_leafLook rfl _ _ rfl b f.n rfl rfl B w0 L (by first | exact hbz | exact hb1) (by omega) ?_; intro f0; rw [HR.out])
  refine (HOK.out _).mono ?_
  rintro e w3 ⟨rfl, hb3⟩
  have hbx : BL ((w.alloc (.cells #[.string f.n, .string f.v] 134)).alloc (.cells #[.string f0.n, .string f0.v] 134)) w.heap.size f.n f.v := alloc_snd _ _ _ rfl
  have HX : Hid (LM B w0 w3 b L ∧ BL w3 w.heap.size f.n f.v) := ⟨(HB.out f0).later hb3, hbx.later hb3⟩
  have x0 := HX.out.2.c0
  have x1 := HX.out.2.c1
  have hln := fun ty => HX.out.1.len HL.out.2.2 ty
  clear hb3 hbx HB hbz hb1 HOK HR
  have hpb := HPB.out
  rw [hR] at hpb
  cases hf : LV.leB f
  · rw [hf, Bool.false_and] at hpb
    have HQ : Hid (LV.putB L f = false ∧ LV.putR L f = L) := ⟨hpb, by rw [HPR.out, hpb]; rfl⟩
    clear HPB HPR HL hln hR hpb
    go_wp2
    go_ret
    exact ⟨by rw [HQ.out.1]; rfl, by rw [HQ.out.2]; exact HX.out.1⟩
  · rw [hf, Bool.true_and] at hpb
    cases R
    · rw [Bool.false_or] at hpb
      by_cases h24 : L.length < 24
      · rw [decide_eq_true h24] at hpb
        have HQ : Hid (LV.putB L f = true ∧ LV.putR L f = LV.put L f) := ⟨hpb, by rw [HPR.out, hpb]; rfl⟩
        have q : ¬ (24 : Int) ≤ (L.length : Int) := by omega
        clear HPB HPR hR hpb
        go_wp2_with (at_mapUpdate; refine wp_leafStore rfl _ _ _ rfl b f rfl rfl rfl B w0 L HX.out.1 HL.out (by omega) ?_; intro w4 hm4 hg4)
        have HM : Hid (LM B w0 w4 b (LV.put L f)) := hm4
        clear hm4 hg4 HX x0 x1 hln
        go_wp2
        go_ret
        exact ⟨by rw [HQ.out.1]; rfl, by rw [HQ.out.2]; exact HM.out⟩
      · rw [decide_eq_false h24] at hpb
        have HQ : Hid (LV.putB L f = false ∧ LV.putR L f = L) := ⟨hpb, by rw [HPR.out, hpb]; rfl⟩
        have q : (24 : Int) ≤ (L.length : Int) := by omega
        clear HPB HPR hR hpb
        go_wp2
        go_ret
        exact ⟨by rw [HQ.out.1]; rfl, by rw [HQ.out.2]; exact HX.out.1⟩
    · rw [Bool.true_or] at hpb
      have HQ : Hid (LV.putB L f = true ∧ LV.putR L f = LV.put L f) := ⟨hpb, by rw [HPR.out, hpb]; rfl⟩
      clear HPB HPR hR hpb
      go_wp2_with (at_mapUpdate; refine wp_leafStore rfl _ _ _ rfl b f rfl rfl rfl B w0 L HX.out.1 HL.out (by omega) ?_; intro w4 hm4 hg4)
      have HM : Hid (LM B w0 w4 b (LV.put L f)) := hm4
      clear hm4 hg4 HX x0 x1 hln
      go_wp2
      go_ret
      exact ⟨by rw [HQ.out.1]; rfl, by rw [HQ.out.2]; exact HM.out⟩

end Go.Proofs.YthlgohplljcgfaaGreatDoor
/-
  The library's own contract on slices.SortFunc, laid at this program: a table of numbers and one theorem.
-/
namespace Go.Proofs
open Go.Shelf
def Tryz.sortLe_ren : Go.Shelf.Ren := ⟨fun | 6 => 201 | 15 => 205 | 14 => 204 | 28 => 216 | 29 => 217 | 20 => 208 | 21 => 209 | 22 => 210 | 23 => 211 | 24 => 212 | 25 => 213 | 26 => 214 | 27 => 215 | 46 => 219 | 47 => 220 | 48 => 221 | 49 => 222 | 50 => 223 | 57 => 225 | n => n, fun | 22 => 59 | 24 => 134 | 25 => 244 | 3 => 3 | 39 => 85 | 0 => 0 | 53 => 167 | 55 => 232 | 4 => 4 | 46 => 250 | 45 => 249 | 50 => 254 | 5 => 5 | 9 => 9 | 66 => 258 | 70 => 262 | 76 => 264 | 77 => 265 | n => n, fun | n => n⟩
theorem Tryz.sortLe : Go.Proofs.SlLaysF0.n6 Tryz.prog Tryz.sortLe_ren := {
  mixed := by kernel_rfl
  f6 := ⟨Tryz.f201.name, by decide, Tryz.func201.trans (congrArg some (by kernel_rfl))⟩
  f14 := ⟨Tryz.f204.name, by decide, Tryz.func204.trans (congrArg some (by kernel_rfl))⟩
  f15 := Tryz.func205.trans (congrArg some (by kernel_rfl))
  f20 := ⟨Tryz.f208.name, by decide, Tryz.func208.trans (congrArg some (by kernel_rfl))⟩
  f21 := ⟨Tryz.f209.name, by decide, Tryz.func209.trans (congrArg some (by kernel_rfl))⟩
  f22 := ⟨Tryz.f210.name, by decide, Tryz.func210.trans (congrArg some (by kernel_rfl))⟩
  f23 := ⟨Tryz.f211.name, by decide, Tryz.func211.trans (congrArg some (by kernel_rfl))⟩
  f24 := ⟨Tryz.f212.name, by decide, Tryz.func212.trans (congrArg some (by kernel_rfl))⟩
  f25 := ⟨Tryz.f213.name, by decide, Tryz.func213.trans (congrArg some (by kernel_rfl))⟩
  f26 := ⟨Tryz.f214.name, by decide, Tryz.func214.trans (congrArg some (by kernel_rfl))⟩
  f27 := ⟨Tryz.f215.name, by decide, Tryz.func215.trans (congrArg some (by kernel_rfl))⟩
  f28 := Tryz.func216.trans (congrArg some (by kernel_rfl))
  f29 := Tryz.func217.trans (congrArg some (by kernel_rfl))
  f46 := ⟨Tryz.f219.name, by decide, Tryz.func219.trans (congrArg some (by kernel_rfl))⟩
  f47 := Tryz.func220.trans (congrArg some (by kernel_rfl))
  f48 := Tryz.func221.trans (congrArg some (by kernel_rfl))
  f49 := ⟨Tryz.f222.name, by decide, Tryz.func222.trans (congrArg some (by kernel_rfl))⟩
  f50 := ⟨Tryz.f223.name, by decide, Tryz.func223.trans (congrArg some (by kernel_rfl))⟩
  f57 := ⟨Tryz.f225.name, by decide, Tryz.func225.trans (congrArg some (by kernel_rfl))⟩
  t0 := Tryz.underlying0
  a0 := Tryz.isAgg0
  z0 := Tryz.sizeOf0
  v0 := Tryz.zeroValue0
  t3 := Tryz.underlying3
  a3 := Tryz.isAgg3
  z3 := Tryz.sizeOf3
  v3 := Tryz.zeroValue3
  t4 := Tryz.underlying4
  a4 := Tryz.isAgg4
  z4 := Tryz.sizeOf4
  v4 := Tryz.zeroValue4
  t5 := Tryz.underlying5
  a5 := Tryz.isAgg5
  z5 := Tryz.sizeOf5
  v5 := Tryz.zeroValue5
  t9 := Tryz.underlying9
  a9 := Tryz.isAgg9
  z9 := Tryz.sizeOf9
  v9 := Tryz.zeroValue9
  t22 := Tryz.underlying59
  a22 := Tryz.isAgg59
  z22 := Tryz.sizeOf59
  v22 := Tryz.zeroValue59
  t25 := Tryz.underlying244
  a25 := Tryz.isAgg244
  z25 := Tryz.sizeOf244
  v25 := Tryz.zeroValue244
  t39 := Tryz.underlying85
  a39 := Tryz.isAgg85
  z39 := Tryz.sizeOf85
  v39 := Tryz.zeroValue85
  t45 := Tryz.underlying249
  a45 := Tryz.isAgg249
  z45 := Tryz.sizeOf249
  v45 := Tryz.zeroValue249
  t46 := Tryz.underlying250
  a46 := Tryz.isAgg250
  z46 := Tryz.sizeOf250
  v46 := Tryz.zeroValue250
  t50 := Tryz.underlying254
  a50 := Tryz.isAgg254
  z50 := Tryz.sizeOf254
  v50 := Tryz.zeroValue254
  t53 := Tryz.underlying167
  a53 := Tryz.isAgg167
  z53 := Tryz.sizeOf167
  v53 := Tryz.zeroValue167
  t55 := Tryz.underlying232
  a55 := Tryz.isAgg232
  z55 := Tryz.sizeOf232
  v55 := Tryz.zeroValue232
  t66 := Tryz.underlying258
  a66 := Tryz.isAgg258
  z66 := Tryz.sizeOf258
  v66 := Tryz.zeroValue258
  t70 := Tryz.underlying262
  a70 := Tryz.isAgg262
  z70 := Tryz.sizeOf262
  v70 := Tryz.zeroValue262
  t76 := Tryz.underlying264
  a76 := Tryz.isAgg264
  z76 := Tryz.sizeOf264
  v76 := Tryz.zeroValue264
  t77 := Tryz.underlying265
  a77 := Tryz.isAgg265
  z77 := Tryz.sizeOf265
  v77 := Tryz.zeroValue265 }
end Go.Proofs
/-
  Leaves sorted by their names: the library's own contract on slices.SortFunc at this program's leaves.
-/
namespace Go.Proofs.YthlgohplljcgfaaGreatDoor
open Go.RowKit Go.Shelf Go.Lib
open Go.Sort (SWO PermIn SortedIn HoldsK flatK get_flatK grow holdsK_grow holdsK_putRowK holdsK_ahead)
set_option linter.unusedVariables false
set_option linter.unusedSimpArgs false

/-- a leaf as a pair, for the library's words -/
def pr (f : Le) : ByteArray × ByteArray := (f.n, f.v)
def lf (p : ByteArray × ByteArray) : Le := ⟨p.1, p.2⟩
def pcs (p : ByteArray × ByteArray) : List Value := [.string p.1, .string p.2]
def pcf (p q : ByteArray × ByteArray) : Int := LV.cmpN p.1 q.1
theorem ltOf_pcf (p q : ByteArray × ByteArray) : ltOf pcf p q = F.ltN p.1 q.1 := by
  unfold ltOf pcf
  rw [Bool.eq_iff_iff, decide_eq_true_eq]
  exact LV.cmpN_lt _ _
theorem swo_pcf : SWO (ltOf pcf) := {
  irrefl := fun x => by rw [ltOf_pcf]; exact F.ltN_irrefl _
  trans := fun x y z h1 h2 => by rw [ltOf_pcf] at *; exact F.ltN_trans h1 h2
  ntrans := fun x y z h1 h2 => by
    rw [ltOf_pcf] at *
    cases h : F.ltN x.1 z.1
    · rfl
    · rcases F.ltN_tri x.1 y.1 with h3 | h3 | h3
      · rw [h3] at h1; cases h1
      · rw [h3, h2] at h; cases h
      · rw [F.ltN_trans h3 h] at h2; cases h2 }

theorem cmpLays_any (blk off size : Nat) (w : World) : CmpLays Tryz.prog 202 #[] pcs 2 pcf blk off size w :=
  fun _ _ _ _ x y => compareNames_grow (lf x) (lf y) _

theorem holds_of {w : World} {v : Value} {g : Nat} {l : List Le} (h : RW 2 lcs w v g l) : HoldsK pcs 2 w g 0 (l.map pr).toArray := by
  intro t ht
  have ht' : t < l.length * 2 := by simpa using ht
  have hq : t / 2 < l.length := by omega
  have e : (flatK pcs 2 (l.map pr).toArray)[t]! = (lcs l[t / 2])[t % 2]! := by
    rw [get_flatK _ _ _ t (by simpa using ht')]
    have : (l.map pr).toArray[t / 2]! = pr l[t / 2] := by simp [hq]
    rw [this]
    rfl
  obtain ⟨⟨a, c, _, _, _, hc⟩, hth⟩ := h
  have hm : t % 2 < 2 := Nat.mod_lt _ (by omega)
  have et : t = t / 2 * 2 + t % 2 := by omega
  rw [e]
  refine ⟨?_, ?_⟩
  · have := hc (t / 2) hq (t % 2) _ (List.getElem?_eq_getElem (by rw [lcs_len]; exact hm))
    rw [Nat.zero_add] at this ⊢
    rw [← et] at this
    rw [this, getElem!_pos (lcs l[t / 2]) (t % 2) (by rw [lcs_len]; exact hm)]
    rfl
  · have := (hth (t / 2) hq (t % 2) hm).2
    rw [← et] at this
    rw [Nat.zero_add]
    exact this

theorem row_of_holds {w : World} {g n cap : Nat} {d : Array (ByteArray × ByteArray)} (h : HoldsK pcs 2 w g 0 d) (hn : d.size = n) (hl : n ≤ 1100000) (hg : g < w.heap.size) : RW 2 lcs w (.slice (some ⟨g, 0, none⟩) n cap) g (d.toList.map lf) := by
  subst hn
  have key : ∀ j i, j < d.size → i < 2 → w.cell? ⟨g, j * 2 + i, none⟩ = some ((lcs (lf d[j]!))[i]!) ∧ w.frozen? ⟨g, j * 2 + i, none⟩ = false := by
    intro j i hj hi
    have h1 := h (j * 2 + i) (by simp; omega)
    rw [get_flatK _ _ _ _ (by omega), show (j * 2 + i) / 2 = j by omega, show (j * 2 + i) % 2 = i by omega, Nat.zero_add] at h1
    exact h1
  refine ⟨⟨some ⟨g, 0, none⟩, cap, by simp, by simpa using hl, fun _ => ⟨rfl, hg⟩, fun j hj i u hu => ?_⟩, fun j hj i hi => ?_⟩
  · have hj' : j < d.size := by simpa using hj
    have hi : i < 2 := by have := (List.getElem?_eq_some_iff.1 hu).1; rw [lcs_len] at this; exact this
    have hk := (key j i hj' hi).1
    rw [Nat.zero_add, hk]
    have e : (d.toList.map lf)[j]'hj = lf d[j]! := by simp [hj']
    rw [e, List.getElem?_eq_getElem (by rw [lcs_len]; exact hi)] at hu
    rw [← hu, getElem!_pos (lcs (lf d[j]!)) i (by rw [lcs_len]; exact hi)]
  · have hj' : j < d.size := by simpa using hj
    have hk := key j i hj' hi
    exact ⟨by rw [hk.1]; rfl, hk.2⟩

theorem grown_sort (w : World) (g n : Nat) (d : Array (ByteArray × ByteArray)) (os : Array Obj) : w.grownBy (sortWorldK pcs 2 w g 0 n d os) (some g) := by
  refine ⟨rfl, rfl, rfl, ?_, fun i hi hne => ?_⟩
  · simp [sortWorldK, grow, Go.Sort.putRowK, Go.Sort.putRow, Go.Sort.mapBlock, Go.Sort.ahead]
  · have hne' : g ≠ i := fun e => hne (by rw [e])
    simp [sortWorldK, grow, Go.Sort.putRowK, Go.Sort.putRow, Go.Sort.mapBlock, Go.Sort.ahead, Array.getElem?_append, hi, Array.getElem_modify, hne']

/-- what is sorted, told by its names -/
theorem sorted_is {l L : List Le} {d' : Array (ByteArray × ByteArray)} (hL : LV.Srt L) (hm : ∀ f, f ∈ l ↔ f ∈ L) (hnd : l.Pairwise (fun a b => a.n ≠ b.n)) (hp : PermIn 0 (l.map pr).toArray.size (l.map pr).toArray d') (hs : SortedIn (ltOf pcf) 0 (l.map pr).toArray.size d') : d'.toList.map lf = L := by
  obtain ⟨hsz, _, hperm⟩ := hp
  have hsz' : d'.size = l.length := by simpa using hsz
  have hperm' : d'.toList.Perm (l.map pr) := by
    have e1 : d'.extract 0 (l.map pr).toArray.size = d' := by rw [← hsz]; exact Array.extract_size
    have e2 : (l.map pr).toArray.extract 0 (l.map pr).toArray.size = (l.map pr).toArray := Array.extract_size
    rw [e1, e2] at hperm
    simpa using hperm
  have hpl : (d'.toList.map lf).Perm l := by
    have := hperm'.map lf
    have e : (l.map pr).map lf = l := by
      rw [List.map_map]
      exact List.map_id'' (fun f => rfl) l
    rw [e] at this
    exact this
  have hnd' : (d'.toList.map lf).Pairwise (fun a b => a.n ≠ b.n) := hpl.symm.pairwise hnd (fun {a b} h => Ne.symm h)
  refine LV.srt_ext ?_ hL (fun f => by rw [hpl.mem_iff]; exact hm f)
  unfold LV.Srt
  rw [List.pairwise_iff_getElem] at hnd' ⊢
  intro i j hi hj hij
  have hi' : i < d'.size := by simpa using hi
  have hj' : j < d'.size := by simpa using hj
  have h1 := hs i j (Nat.zero_le _) hij (by simp; omega)
  rw [ltOf_pcf] at h1
  have h2 := hnd' i j hi hj hij
  have ei : (d'.toList.map lf)[i] = lf d'[i]! := by simp [hi']
  have ej : (d'.toList.map lf)[j] = lf d'[j]! := by simp [hj']
  rw [ei, ej] at h2 ⊢
  rcases F.ltN_tri (lf d'[i]!).n (lf d'[j]!).n with h3 | h3 | h3
  · exact h3
  · exact absurd h3 h2
  · have h4 : F.ltN (d'[j]!).1 (d'[i]!).1 = true := h3
    rw [h1] at h4
    cases h4

theorem sort_any (g cap : Nat) (l L : List Le) (w : World) (h : RW 2 lcs w (.slice (some ⟨g, 0, none⟩) l.length cap) g l) (hg : g < w.heap.size) (hL : LV.Srt L) (hm : ∀ f, f ∈ l ↔ f ∈ L) (hnd : l.Pairwise (fun a b => a.n ≠ b.n)) (hl : l.length ≤ 100000) :
    Calls Tryz.prog 201 #[.slice (some ⟨g, 0, none⟩) l.length cap, .func (.func 202) #[] #[]] w fun e w' => e = .returned (.tuple #[]) ∧ l.length = L.length ∧ RW 2 lcs w' (.slice (some ⟨g, 0, none⟩) L.length cap) g L ∧ w.grownBy w' (some g) := by
  have eg : ∀ args w, (callFunc 202 args).run Tryz.prog w = .ok (.enter 202 args) w := enters_of Tryz.func202 (by kernel_rfl) rfl
  have hH := holds_of h
  have hcon := AnyQ.slices_SortFunc Tryz.sortLe 2 Tryz.isAgg134 Tryz.sizeOf134 pcs (fun _ => rfl) (fun x v hv => by simp [pcs] at hv; rcases hv with rfl | rfl <;> rfl) pcf swo_pcf 202 #[] g 0 cap (l.map pr).toArray w eg (cmpLays_any g 0 (l.map pr).toArray.size w) hH hg (by simp; omega)
  change Calls Tryz.prog 201 _ _ _ at hcon
  have e1 : (l.map pr).toArray.size = l.length := by simp
  rw [e1] at hcon
  refine hcon.mono ?_
  rintro e w' ⟨rfl, d', n, os, hp, hs, rfl⟩
  have hd : d'.toList.map lf = L := sorted_is hL hm hnd (by rw [e1]; exact hp) (by rw [e1]; exact hs)
  have hlen : l.length = L.length := by
    have h1 : (d'.toList.map lf).length = L.length := by rw [hd]
    rw [List.length_map, Array.length_toList, hp.1, e1] at h1
    exact h1
  have hh : HoldsK pcs 2 (sortWorldK pcs 2 w g 0 n d' os) g 0 d' := holdsK_grow pcs 2 _ _ _ _ _ (by simpa [Go.Sort.putRowK] using hg) (holdsK_putRowK pcs 2 _ _ _ _ _ (holdsK_ahead pcs 2 _ n _ _ _ hH) (by rw [hp.1]))
  have hgs := (grown_sort w g n d' os).size
  have hr := row_of_holds (cap := cap) hh (show d'.size = L.length by rw [hp.1, e1, hlen]) (by omega) (by omega)
  rw [hd] at hr
  exact ⟨rfl, hlen, hr, grown_sort w g n d' os⟩

end Go.Proofs.YthlgohplljcgfaaGreatDoor
