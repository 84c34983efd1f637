/-
  Texts laid together: Dl, Fa, GUn, GIt.
-/
import Derived.Test.YthlgohplljcgfaaGreatDoorPkESN1
import Derived.Deep.RegionHeld3
import Derived.Test.YthlgohplljcgfaaGreatDoorPkESN29
import Derived.Test.YthlgohplljcgfaaGreatDoorPkESN32
import Derived.Test.YthlgohplljcgfaaGreatDoorPkESN5
import Derived.Test.YthlgohplljcgfaaGreatDoorPkESN6
import Derived.RangeFuncNested
import Derived.RangeFuncBox
import Derived.RangeFuncBound
import Derived.RangeFuncCalls
import Derived.RangeFuncLeaves
import Derived.Shelf.Abstract
import Derived.Shelf.RegionOpen
import Derived.OwnWalkIn
import Derived.TacticsInMore
import Derived.LoopNIn
import Derived.LoopIn
import Derived.Maps.AppendAt
/-
  The walk of the law FnExactDiskOk: it answers true of every disk.
-/
namespace Go.Proofs.YthlgohplljcgfaaGreatDoor
open Go.RowKit Go.BigFrame Go.Sort
set_option linter.unusedVariables false
set_option linter.unusedSimpArgs false

theorem DkIn.shape {w : World} {B : Nat} {v : Value} {l : List Fl} (h : DkIn w B v l) : ∃ a c g, v = .agg #[.slice a l.length c] ∧ RW 3 fcs w (.slice a l.length c) g l ∧ B ≤ g := by
  obtain ⟨s, g, rfl, hr, hb⟩ := h
  obtain ⟨a, c, rfl⟩ := hr.1.shape
  exact ⟨a, c, g, rfl, hr, hb⟩

end Go.Proofs.YthlgohplljcgfaaGreatDoor
/-
  The text of a file: the program's and the specification's answers, and the law's walk.
-/
namespace Go.Proofs.YthlgohplljcgfaaGreatDoor
open Go.RowKit Go.BigFrame Go.Sort
set_option linter.unusedVariables false
set_option linter.unusedSimpArgs false

def FaR (L : List Fl) (x : ByteArray) (B : Nat) (w : World) (i : Value) (wr : World) : Prop := ∃ m : Nat, m ≤ L.length ∧ i = .int .i64 m ∧ Hid (∀ j (h : j < L.length), j < m → L[j].n ≠ x) ∧ Below B w wr
theorem fa_step {L : List Fl} {x : ByteArray} {m : Nat} (hm : m < L.length) (h : ∀ j (h : j < L.length), j < m → L[j].n ≠ x) (h1 : L[m].n ≠ x) : ∀ j (h : j < L.length), j < m + 1 → L[j].n ≠ x := by
  intro j hj hlt
  rcases Nat.lt_or_ge j m with h2 | h2
  · exact h j hj h2
  · have : j = m := by omega
    subst this
    exact h1

set_option maxRecDepth 100000 in
set_option maxHeartbeats 1000000 in
theorem FileAt_any (v : Value) (ga oa : Nat) (L : List Fl) (x : ByteArray) (w : World) (hv : RS 3 fcs w v ga oa L) (hs : SmallF L) :
    Calls Tryz.prog 120 #[.agg #[v], .string x] w fun e w' => e = .returned (.tuple #[.string (F.fileT L x), .bool (F.fileO L x)]) ∧ Below w.heap.size w w' := by
  obtain ⟨T, hT⟩ : ∃ T, F.fileT L x = T := ⟨_, rfl⟩
  obtain ⟨R, hR⟩ : ∃ R, F.fileO L x = R := ⟨_, rfl⟩
  have hb0 : Below w.heap.size w (w.alloc (.cells #[v] 28)) := (Below.refl _ _).alloc (Nat.le_refl _) _
  have HV := hv.later hb0
  obtain ⟨a, cap, rfl, hl, hA, _⟩ := hv
  obtain ⟨n, hn⟩ : ∃ n, L.length = n := ⟨_, rfl⟩
  rw [hn] at hl hA HV hb0 ⊢
  have HB : Hid (Below w.heap.size w (w.alloc (.cells #[.slice a n cap] 28)) ∧ RS 3 fcs (w.alloc (.cells #[.slice a n cap] 28)) (.slice a n cap) ga oa L) := ⟨hb0, HV⟩
  have HA : Hid (0 < n → a = some ⟨ga, oa, none⟩) := fun h => (hA h).1
  have HR : Hid (F.fileT L x = T ∧ F.fileO L x = R) := ⟨hT, hR⟩
  have HS : Hid (SmallF L) := hs
  rw [hR, hT]
  clear hA HV hb0 hT hR hs
  go_enter Tryz.func120, Tryz.ntmps120
  go_wp2
  go_loopw [11] (fun i wr => FaR L x (w.alloc (.cells #[.slice a n cap] 28)).heap.size (w.alloc (.cells #[.slice a n cap] 28)) i wr) (fun i _ => n - (intOf i).toNat)
  case atStart => exact ⟨0, by omega, rfl, fun j _ h => by omega, Below.refl _ _⟩
  case round =>
    obtain ⟨m, hm, rfl, HU, hbel⟩ := hrel
    rw [hn] at hm
    by_cases hlt : m < n
    · have ea := HA.out (by omega)
      subst ea
      obtain ⟨c0, c1, c2⟩ := (HB.out.2.later hbel).file m (by omega)
      have i1 : (m : Int) < (n : Int) := by omega
      have i2 : (0 : Int) ≤ (m : Int) := by omega
      obtain ⟨X, hX⟩ : ∃ X, L[m]'(by omega) = X := ⟨_, rfl⟩
      rw [hX] at c0 c1 c2
      have HX : Hid (L[m]'(by omega) = X) := hX
      have hxs := (HS.out X (by rw [← hX]; exact List.getElem_mem _)).2
      have HW : Hid (Below (w.alloc (.cells #[.slice (some ⟨ga, oa, none⟩) n cap] 28)).heap.size (w.alloc (.cells #[.slice (some ⟨ga, oa, none⟩) n cap] 28)) (wr.alloc (.cells #[.string X.n, .string X.t, .int .i64 X.k] 108))) := hbel.alloc hbel.size _
      clear hX hbel HS
      by_cases hk : X.n = x
      · have hf := F.find_at (L := L) (x := x) (m := m) (by omega) HU.out (by rw [HX.out]; exact hk)
        rw [HX.out] at hf
        obtain ⟨rfl, rfl⟩ : T = X.t ∧ R = true := ⟨by rw [← HR.out.1]; unfold F.fileT; rw [hf], by rw [← HR.out.2]; unfold F.fileO; rw [hf]; rfl⟩
        have hbf := HB.out.1.trans (HW.out.mono HB.out.1.size)
        have q : (X.n.toList == x.toList) = true := by rw [hk]; simp
        clear HU HX HR HB HA hk hf
        go_wp2_with fail
        refine (strClone_any X.t _ hxs).mono ?_
        rintro e w2 ⟨rfl, hb2⟩
        have hb3 := hbf.trans (hb2.mono hbf.size)
        go_wp2
        try rw [Exit.noGoto_ret]
        go_ret2
        exact ⟨rfl, hb3⟩
      · have HU2 : Hid (∀ j (h : j < L.length), j < m + 1 → L[j].n ≠ x) := fa_step (by omega) HU.out (by rw [HX.out]; exact hk)
        have q : (X.n.toList == x.toList) = false := F.list_ne hk
        clear HU HX HR HB HA hk
        go_wp2
        go_roundw
        case rel => exact ⟨m + 1, by omega, by go_num, HU2, HW.out⟩
        case measure => simp [intOf]; omega
    · have hme : m = n := by omega
      have hf := F.find_no (L := L) (x := x) (fun j hj => HU.out j hj (by omega))
      obtain ⟨rfl, rfl⟩ : T = ⟨#[]⟩ ∧ R = false := ⟨by rw [← HR.out.1]; unfold F.fileT; rw [hf], by rw [← HR.out.2]; unfold F.fileO; rw [hf]; rfl⟩
      have hbf := HB.out.1.trans (hbel.mono HB.out.1.size)
      subst hme
      clear HU HR HB HA hf
      go_wp2
      go_ret2
      exact ⟨rfl, hbf⟩

set_option maxRecDepth 100000 in
set_option maxHeartbeats 1000000 in
theorem l06At_any (v : Value) (ga oa : Nat) (L : List Fl) (x : ByteArray) (w : World) (hv : RS 3 fcs w v ga oa L) :
    Calls Tryz.prog 103 #[.agg #[v], .string x] w fun e w' => ∃ r : Int, e = .returned (.int .i64 r) ∧ ((r = -1 ∧ F.find L x = none) ∨ ∃ (m : Nat) (h : m < L.length), r = (m : Int) ∧ F.find L x = some L[m]) ∧ Below w.heap.size w w' := by
  have hb0 : Below w.heap.size w (w.alloc (.cells #[v] 28)) := (Below.refl _ _).alloc (Nat.le_refl _) _
  have HV := hv.later hb0
  obtain ⟨a, cap, rfl, hl, hA, _⟩ := hv
  obtain ⟨n, hn⟩ : ∃ n, L.length = n := ⟨_, rfl⟩
  rw [hn] at hl hA HV hb0
  have HB : Hid (Below w.heap.size w (w.alloc (.cells #[.slice a n cap] 28)) ∧ RS 3 fcs (w.alloc (.cells #[.slice a n cap] 28)) (.slice a n cap) ga oa L) := ⟨hb0, HV⟩
  have HA : Hid (0 < n → a = some ⟨ga, oa, none⟩) := fun h => (hA h).1
  clear hA HV hb0
  rw [show Value.slice a L.length cap = Value.slice a n cap by rw [hn]]
  go_enter Tryz.func103, Tryz.ntmps103
  go_wp2
  go_loopw [5] (fun i wr => FaR L x (w.alloc (.cells #[.slice a n cap] 28)).heap.size (w.alloc (.cells #[.slice a n cap] 28)) i wr) (fun i _ => n - (intOf i).toNat)
  case atStart => exact ⟨0, by omega, rfl, fun j _ h => by omega, Below.refl _ _⟩
  case round =>
    obtain ⟨m, hm, rfl, HU, hbel⟩ := hrel
    rw [hn] at hm
    have d0 : wr.cell? ⟨w.heap.size, 0, none⟩ = some (.slice a n cap) := (hbel.cell (p := ⟨w.heap.size, 0, none⟩) (by simp)).trans (by simp)
    by_cases hlt : m < n
    · have ea := HA.out (by omega)
      subst ea
      obtain ⟨c0, c1, c2⟩ := (HB.out.2.later hbel).file m (by omega)
      have i1 : (m : Int) < (n : Int) := by omega
      have i2 : (0 : Int) ≤ (m : Int) := by omega
      obtain ⟨X, hX⟩ : ∃ X, L[m]'(by omega) = X := ⟨_, rfl⟩
      rw [hX] at c0 c1 c2
      have HX : Hid (L[m]'(by omega) = X) := hX
      clear hX c1 c2
      by_cases hk : X.n = x
      · have hf := F.find_at (L := L) (x := x) (m := m) (by omega) HU.out (by rw [HX.out]; exact hk)
        have hbf := HB.out.1.trans (hbel.mono HB.out.1.size)
        have HF : Hid (∃ (m' : Nat) (h : m' < L.length), (m : Int) = (m' : Int) ∧ F.find L x = some L[m']) := ⟨m, by omega, rfl, hf⟩
        have q : (X.n.toList == x.toList) = true := by rw [hk]; simp
        clear HU HX HB HA hk hf
        go_wp2
        try rw [Exit.noGoto_ret]
        go_ret
        exact ⟨_, rfl, .inr HF.out, hbf⟩
      · have HU2 : Hid (∀ j (h : j < L.length), j < m + 1 → L[j].n ≠ x) := fa_step (by omega) HU.out (by rw [HX.out]; exact hk)
        have q : (X.n.toList == x.toList) = false := F.list_ne hk
        clear HU HX HB HA hk
        go_wp2
        go_roundw
        case rel => exact ⟨m + 1, by omega, by go_num, HU2, hbel⟩
        case measure => simp [intOf]; omega
    · have hme : m = n := by omega
      have hf := F.find_no (L := L) (x := x) (fun j hj => HU.out j hj (by omega))
      have hbf := HB.out.1.trans (hbel.mono HB.out.1.size)
      subst hme
      have HF : Hid (F.find L x = none) := hf
      clear HU HB HA hf
      go_wp2
      go_ret
      exact ⟨_, rfl, .inl ⟨rfl, HF.out⟩, hbf⟩

set_option maxRecDepth 100000 in
set_option maxHeartbeats 1000000 in
theorem sFileAt_any (v : Value) (ga oa : Nat) (L : List Fl) (x : ByteArray) (w : World) (hv : RS 3 fcs w v ga oa L) :
    Calls Tryz.prog 64 #[.agg #[v], .string x] w fun e w' => e = .returned (.tuple #[.string (F.fileT L x), .bool (F.fileO L x)]) ∧ Below w.heap.size w w' := by
  have hb0 : Below w.heap.size w (w.alloc (.cells #[v] 28)) := (Below.refl _ _).alloc (Nat.le_refl _) _
  have HC := l06At_any v ga oa L x _ (hv.later hb0)
  have HV := hv
  obtain ⟨a, cap, rfl, hl, hA, hcc⟩ := hv
  clear hcc
  have HA : Hid (0 < L.length → a = some ⟨ga, oa, none⟩) := fun h => (hA h).1
  clear hA
  cases hf : F.find L x with
  | none =>
    have e1 : F.fileT L x = ⟨#[]⟩ := by unfold F.fileT; rw [hf]
    have e2 : F.fileO L x = false := by unfold F.fileO; rw [hf]; rfl
    rw [e1, e2]
    go_enter Tryz.func64, Tryz.ntmps64
    go_wp2_with fail
    refine HC.mono ?_
    rintro e w1 ⟨r, rfl, hr, hb1⟩
    obtain rfl : r = -1 := by
      rcases hr with ⟨h, _⟩ | ⟨m, h, _, h2⟩
      · exact h
      · rw [hf] at h2; cases h2
    have hb2 := hb0.trans (hb1.mono hb0.size)
    clear hr HC HV HA
    go_wp2
    go_ret2
    exact ⟨rfl, hb2⟩
  | some X =>
    have e1 : F.fileT L x = X.t := by unfold F.fileT; rw [hf]
    have e2 : F.fileO L x = true := by unfold F.fileO; rw [hf]; rfl
    rw [e1, e2]
    go_enter Tryz.func64, Tryz.ntmps64
    go_wp2_with fail
    refine HC.mono ?_
    rintro e w1 ⟨r, rfl, hr, hb1⟩
    obtain ⟨m, hm, rfl, hmX⟩ : ∃ (m : Nat) (h : m < L.length), r = (m : Int) ∧ L[m] = X := by
      rcases hr with ⟨_, h⟩ | ⟨m, h, h1, h2⟩
      · rw [hf] at h; cases h
      · rw [hf] at h2; exact ⟨m, h, h1, (Option.some.inj h2).symm⟩
    have hb2 := hb0.trans (hb1.mono hb0.size)
    obtain ⟨c0, c1, c2⟩ := ((HV.later hb0).later hb1).file m hm
    rw [hmX] at c0 c1 c2
    have d0 : w1.cell? ⟨w.heap.size, 0, none⟩ = some (.slice a L.length cap) := (hb1.cell (p := ⟨w.heap.size, 0, none⟩) (by simp)).trans (by simp)
    have ea := HA.out (by omega)
    subst ea
    have i1 : (m : Int) < (L.length : Int) := by omega
    have i2 : (0 : Int) ≤ (m : Int) := by omega
    clear hr HC HV HA hmX
    go_wp2
    go_ret2
    exact ⟨rfl, hb2⟩

end Go.Proofs.YthlgohplljcgfaaGreatDoor
/-
  What the specification's Unframe answers: the records of the whole frames that the file begins with.
-/
namespace Go.Proofs.YthlgohplljcgfaaGreatDoor
open Go.RowKit
set_option linter.unusedVariables false

def framesOf (s : ByteArray) : List (ByteArray × Nat) := if s.size ≤ 20000 then frames s else []
theorem framesOf_big {s : ByteArray} (h : 20000 < s.size) : framesOf s = [] := if_neg (by omega)
theorem framesOf_small {s : ByteArray} (h : s.size ≤ 20000) : framesOf s = frames s := if_pos h

/-- what Unframe leaves -/
def UnP (w : World) (s : ByteArray) (e : Ending) (w' : World) : Prop := ∃ v, e = .returned (.tuple #[v, .int .i64 ((endOf (framesOf s) : Nat) : Int)]) ∧ OS w.heap.size w w' v (textsOf (framesOf s))
theorem UnP.stop {w w' : World} {s : ByteArray} {p : Nat} {pre : List (ByteArray × Nat)} {v : Value} (hs : s.size ≤ 20000) (h : FI s p pre) (hr : recAt s p = none) (ho : OS w.heap.size w w' v (textsOf pre)) : UnP w s (.returned (.tuple #[v, .int .i64 (p : Int)])) w' := by
  refine ⟨v, ?_, ?_⟩
  · rw [framesOf_small hs, h.stop hr, h.ends]
  · rw [framesOf_small hs, h.stop hr]
    exact ho

theorem UnP.big {w w' : World} {s : ByteArray} {v : Value} (h : framesOf s = []) (ho : OS w.heap.size w w' v []) : UnP w s (.returned (.tuple #[v, .int .i64 0])) w' := by
  refine ⟨v, ?_, ?_⟩
  · rw [h]; rfl
  · rw [h]; exact ho

theorem sReadVar_noneN (s : ByteArray) (p : Nat) (w : World) (hs : s.size ≤ 1048576) (hp : p ≤ s.size) (h : M.readVar s.data.toList p = none) :
    Calls Tryz.prog 104 #[.string s, .int .i64 p] w fun e w' => e = .returned (.tuple #[.int .i64 0, .int .i64 0, .bool false]) ∧ Below w.heap.size w w' := by
  have hc := sReadVar_in s p w hs hp
  rw [h] at hc
  exact hc
theorem sReadVar_someN (s : ByteArray) (p n q : Nat) (w : World) (hs : s.size ≤ 1048576) (hp : p ≤ s.size) (h : M.readVar s.data.toList p = some (n, q)) :
    Calls Tryz.prog 104 #[.string s, .int .i64 p] w fun e w' => e = .returned (.tuple #[.int .i64 n, .int .i64 q, .bool true]) ∧ Below w.heap.size w w' := by
  have hc := sReadVar_in s p w hs hp
  rw [h] at hc
  exact hc

def cutBG (s : ByteArray) (b k : Nat) : ByteArray := s.extract b k
theorem run_frame (s : ByteArray) (p q n : Nat) (hp : p ≤ q) (h : q + 4 + n ≤ s.size) (w : World) :
    (Instr.slice 9 (.string s) (some (.int .i64 (p : Int))) (some (.int .i64 ((q : Int) + 4 + (n : Int)))) none).run Tryz.prog w = .ok (.string (cutBG s p (q + 4 + n))) w := by
  rw [run_slice_string w 9 s .i64 .i64 _ _ Tryz.underlying9 (by omega) (by omega) (by omega)]
  have e : ((q : Int) + 4 + (n : Int)).toNat = q + 4 + n := by omega
  rw [e]
  rfl

def URel (w : World) (s : ByteArray) (v x : Value) (wr : World) : Prop :=
  ∃ (p : Nat) (pre : List (ByteArray × Nat)), x = .int .i64 (p : Int) ∧ p ≤ s.size ∧ OS w.heap.size w wr v (textsOf pre) ∧ Hid (FI s p pre)

theorem new_text (w : World) (t : ByteArray) : (w.alloc (.cells #[.string t] 9)).cell? ⟨w.heap.size, 0, none⟩ = some (.string t) := by simp

set_option maxRecDepth 100000 in
set_option maxHeartbeats 2000000 in
theorem sUnframe_any (s : ByteArray) (w : World) (hm : s.size ≤ 1048576) : Calls Tryz.prog 65 #[.string s] w (UnP w s) := by
  by_cases hl : 20000 < s.size
  · have HB : Hid (framesOf s = []) := framesOf_big hl
    go_enter Tryz.func65, Tryz.ntmps65
    go_wp2
    go_ret2
    exact UnP.big HB.out (OS.made w)
  · go_enter Tryz.func65, Tryz.ntmps65
    go_wp2
    go_loopw [4, 5] (fun v x wr => URel w s v x wr) (fun _ x _ => s.size - (intOf x).toNat)
    case atStart => exact ⟨0, [], rfl, by omega, OS.made w, FI.start s⟩
    case round =>
      obtain ⟨p, pre, rfl, hp, hown, HF⟩ := hrel
      by_cases hlt : p < s.size
      · cases hv : M.readVar s.data.toList p with
        | none =>
          have HV : Hid (M.readVar s.data.toList p = none) := hv
          clear hv
          go_wp2_with fail
          refine (sReadVar_noneN s p _ (by omega) hp HV.out).mono ?_
          rintro e w1 ⟨rfl, hb1⟩
          have ho1 := hown.later hb1
          go_wp2
          go_ret2
          exact UnP.stop (by omega) HF.out (recAt_none HV.out) ho1
        | some x =>
          obtain ⟨n, q⟩ := x
          have HV : Hid (M.readVar s.data.toList p = some (n, q)) := hv
          obtain ⟨hq, hn⟩ := read_bound s p n q hv
          have hpq := read_past _ _ _ _ hv
          clear hv
          by_cases hr : q + 4 + n ≤ s.size
          · have hr' : ¬ ((s.size : Int) - (q : Int) - 4 < (n : Int)) := by omega
            have hrec := run_rec s q n hr
            have hcut := run_frame s p q n (by omega) hr
            have hps := piece_len s (q + 4) n hr
            have HPS : Hid ((piece s (q + 4) n).size = n) := hps
            clear hps
            by_cases hz : 1 ≤ n ∧ n ≤ 9000
            · obtain ⟨hz1, hz2⟩ := hz
              by_cases he : fourB (sumN (piece s (q + 4) n)) = piece s q 4
              · have HR : Hid (recAt s p = some (piece s (q + 4) n, q + 4 + n)) := recAt_yes HV.out ⟨hz1, hz2, hr⟩ he
                have hfr : cutBG s p (q + 4 + n) = frB (piece s (q + 4) n) := ((frame_iff hp HV.out hr).2 he).symm
                rw [hfr] at hcut
                clear hfr he
                generalize hX : piece s (q + 4) n = X at *
                have HX : Hid (piece s (q + 4) n = X) := hX
                clear hX
                go_wp2_with fail
                refine (sReadVar_someN s p n q _ (by omega) hp HV.out).mono ?_
                rintro e w1 ⟨rfl, hb1⟩
                have ho1 := hown.later hb1
                go_wp2_with fail
                refine (sFrame_yes X _ (by rw [HPS.out]; exact hz1) (by rw [HPS.out]; exact hz2)).mono ?_
                rintro e w2 ⟨rfl, hb2⟩
                have ho2 := ho1.later hb2
                have hlen := HF.out.len
                go_wp2_with (at_builtin; refine wp_appS rfl _ _ rfl w.heap.size w _ (textsOf pre) rfl (ho2.alloc _) ⟨w2.heap.size, 0, none⟩ X rfl ?c1 ?c2 ?_)
                case c1 => exact new_text _ _
                case c2 => rw [textsOf_len]; omega
                intro v' w3 hown'
                go_wp2
                go_roundw
                case rel => exact ⟨q + 4 + n, pre ++ [(X, q + 4 + n)], by go_num, hr, by rw [textsOf_snoc]; exact hown', HF.out.step HR.out⟩
                case measure => simp [intOf]; omega
              · have HR : Hid (recAt s p = none) := recAt_other HV.out he
                have hne : ¬ frB (piece s (q + 4) n) = cutBG s p (q + 4 + n) := fun h => he ((frame_iff hp HV.out hr).1 h)
                have hnb := bytes_ne hne
                clear hne he
                go_wp2_with fail
                refine (sReadVar_someN s p n q _ (by omega) hp HV.out).mono ?_
                rintro e w1 ⟨rfl, hb1⟩
                have ho1 := hown.later hb1
                go_wp2_with fail
                refine (sFrame_yes _ _ (by rw [HPS.out]; exact hz1) (by rw [HPS.out]; exact hz2)).mono ?_
                rintro e w2 ⟨rfl, hb2⟩
                have ho2 := ho1.later hb2
                go_wp2
                go_ret2
                exact UnP.stop (by omega) HF.out HR.out ho2
            · have HR : Hid (recAt s p = none) := recAt_no HV.out (fun h => hz ⟨h.1, h.2.1⟩)
              have HZ : Hid (¬ (1 ≤ (piece s (q + 4) n).size ∧ (piece s (q + 4) n).size ≤ 9000)) := by unfold Hid; rw [HPS.out]; exact hz
              clear hz
              go_wp2_with fail
              refine (sReadVar_someN s p n q _ (by omega) hp HV.out).mono ?_
              rintro e w1 ⟨rfl, hb1⟩
              have ho1 := hown.later hb1
              go_wp2_with fail
              refine (sFrame_no _ _ (by rw [HPS.out]; omega) HZ.out).mono ?_
              rintro e w2 ⟨rfl, hb2⟩
              have ho2 := ho1.later hb2
              go_wp2
              go_ret2
              exact UnP.stop (by omega) HF.out HR.out ho2
          · have hr' : (s.size : Int) - (q : Int) - 4 < (n : Int) := by omega
            have HR : Hid (recAt s p = none) := recAt_no HV.out (fun h => hr h.2.2)
            clear hr
            go_wp2_with fail
            refine (sReadVar_someN s p n q _ (by omega) hp HV.out).mono ?_
            rintro e w1 ⟨rfl, hb1⟩
            have ho1 := hown.later hb1
            go_wp2
            go_ret2
            exact UnP.stop (by omega) HF.out HR.out ho1
      · have hpe : p = s.size := by omega
        subst hpe
        have HR : Hid (recAt s s.size = none) := recAt_end s
        go_wp2
        go_ret2
        exact UnP.stop (by omega) HF.out HR.out hown

end Go.Proofs.YthlgohplljcgfaaGreatDoor
/-
  The program's reader of frames, a function that is handed a yield: it hands over each record with the place behind its frame.
-/
namespace Go.Proofs.YthlgohplljcgfaaGreatDoor
open Go.RowKit Go.Shelf
set_option linter.unusedVariables false
attribute [local go_sem] Oper.semAt_some

abbrev encF (x : ByteArray × Nat) : Array Value := #[.string x.1, .int .i64 (x.2 : Int)]

/-- what a round keeps: all that lay below n, and the box of the file -/
def KpF (n b : Nat) (W W' : World) : Prop := Below n W W' ∧ W'.cell? ⟨b, 0, none⟩ = W.cell? ⟨b, 0, none⟩

theorem readFrame_none (s : ByteArray) (p : Nat) (w : World) (hs : s.size ≤ 1048576) (hp : p ≤ s.size) (hT : Tab w) (h : recAt s p = none) :
    Calls Tryz.prog 150 #[.string s, .int .i64 p] w fun e w' => e = .returned (.tuple #[.string ⟨#[]⟩, .int .i64 0, .bool false]) ∧ Below w.heap.size w w' := by
  have hc := readFrame_any s p w hs hp hT
  rw [h] at hc
  exact hc
theorem readFrame_some (s : ByteArray) (p : Nat) (t : ByteArray) (q : Nat) (w : World) (hs : s.size ≤ 1048576) (hp : p ≤ s.size) (hT : Tab w) (h : recAt s p = some (t, q)) :
    Calls Tryz.prog 150 #[.string s, .int .i64 p] w fun e w' => e = .returned (.tuple #[.string t, .int .i64 q, .bool true]) ∧ Below w.heap.size w w' := by
  have hc := readFrame_any s p w hs hp hT
  rw [h] at hc
  exact hc

set_option maxRecDepth 100000 in
set_option maxHeartbeats 1000000 in
theorem whole_stops (n : Nat) (hn : 1 ≤ n) (s : ByteArray) (hs : s.size ≤ 20000) (Bn n0 : Nat) (w : World) (hBn : Bn < w.heap.size) (hn0 : n0 ≤ w.heap.size) (hg : 3 < n0) (hc : w.cell? ⟨Bn, 0, none⟩ = some (.string s)) (hT : Tab w) :
    SeqStopsK Fence.wide n Tryz.prog 149 #[.pointer (some ⟨Bn, 0, none⟩)] encF (KpF n0 Bn) (fun ys => ys = frames s) (fun _ => True) s.size w := fun l J Jx W hW hJ hJx hY h0 => by
  have hc0 : W.cell? ⟨Bn, 0, none⟩ = some (.string s) := (hW.cell (p := ⟨Bn, 0, none⟩) hBn).trans hc
  have hT0 : Tab W := hT.later hW (by omega)
  refine callsIn_of_wp Tryz.func149 rfl trivial ?_ rfl
  simp only [Tryz.ntmps149, List.size_toArray, List.length_cons, List.length_nil, Nat.reduceAdd, Nat.reduceSub, Array.replicate_succ, Array.replicate_zero, List.push_toArray, List.append_toArray, List.nil_append, List.cons_append]
  gi_wp2
  gi_loopw [3] (fun x wr => ∃ (p : Nat) (pre : List (ByteArray × Nat)), x = .int .i64 (p : Int) ∧ p ≤ s.size ∧ wr.cell? ⟨Bn, 0, none⟩ = some (.string s) ∧ Hid (FI s p pre) ∧ Hid (Tab wr) ∧ Hid (J pre wr) ∧ w.heap.size ≤ wr.heap.size)
    (fun x _ => s.size - (intOf x).toNat)
  case atStart => exact ⟨0, [], rfl, by omega, hc0, FI.start s, hT0, h0, hW.size⟩
  case round =>
    obtain ⟨p, pre, rfl, hp, hcw, HF, HT, HJ, hsz⟩ := hrel
    cases hr : recAt s p with
    | none =>
      have HR : Hid (recAt s p = none) := hr
      clear hr
      gi_wp2_with (refine ⟨trivial, ?_⟩; gi_at_call 150; refine (callsIn_wide.2 (readFrame_none s p _ (by omega) hp HT.out HR.out)).mono ?_; rintro e w1 ⟨rfl, hb1⟩)
      refine ⟨fun _ h => (by cases h), ?_⟩
      gi_wp2
      refine bodyPost_ret (results_none rfl _ _ _) rfl ?_
      exact ⟨⟨_, rfl⟩, .inl ⟨pre, (HF.out.stop HR.out).symm, hJ _ _ _ none HJ.out (grown_below hb1) (fun r e => by cases e)⟩⟩
    | some x =>
      obtain ⟨t, q⟩ := x
      have HR : Hid (recAt s p = some (t, q)) := hr
      obtain ⟨hpq, hq⟩ := recAt_lt hr
      have hlen := HF.out.len
      clear hr
      gi_wp2_with (refine ⟨trivial, ?_⟩; gi_at_call 150; refine (callsIn_wide.2 (readFrame_some s p t q _ (by omega) hp HT.out HR.out)).mono ?_; rintro e w1 ⟨rfl, hb1⟩)
      obtain ⟨fn, tmps, assign, body, hy, hR⟩ := hY pre (t, q) w1 (hJ _ _ _ none HJ.out (grown_below hb1) (fun r e => by cases e)) (by omega)
      dsimp only [encF] at hy
      gi_wp2
      rw [hy]
      trace_state
      gi_wp2
      refine hR.mono ?_
      rintro e W3 (⟨rfl, hJ3, hk3⟩ | ⟨rfl, hJx3⟩)
      · have hcw3 : W3.cell? ⟨Bn, 0, none⟩ = some (.string s) := hk3.2.trans ((hb1.cell (p := ⟨Bn, 0, none⟩) (by show Bn < wr.heap.size; omega)).trans hcw)
        have HT3 : Hid (Tab W3) := (HT.out.later hb1 HT.out.pos).later hk3.1 hg
        have hs3 : w.heap.size ≤ W3.heap.size := Nat.le_trans hsz (Nat.le_trans hb1.size hk3.1.size)
        gi_wp2
        go_roundw
        case rel => exact ⟨q, pre ++ [(t, q)], rfl, hq, hcw3, HF.out.step HR.out, HT3, hJ3, hs3⟩
        case measure => simp [intOf]; omega
      · gi_wp2
        refine bodyPost_ret (results_none rfl _ _ _) rfl ?_
        exact ⟨⟨_, rfl⟩, .inr ⟨pre ++ [(t, q)], trivial, hJx3⟩⟩

theorem wholeFrames_any (s : ByteArray) (w : World) :
    Calls Tryz.prog 122 #[.string s] w fun e w' => e = .returned (.func (.func 149) #[] #[.pointer (some ⟨w.heap.size, 0, none⟩)]) ∧ w' = w.alloc (.cells #[.string s] 9) := by
  have hmf : ∀ (fn : Fn) (first cap : Array Value) (w : World), (Instr.makeFunc fn first cap).run Tryz.prog w = .ok (.func fn first cap) w := fun _ _ _ _ => rfl
  go_enter Tryz.func122, Tryz.ntmps122
  go_wp2
  go_ret
  exact ⟨rfl, rfl⟩

end Go.Proofs.YthlgohplljcgfaaGreatDoor
