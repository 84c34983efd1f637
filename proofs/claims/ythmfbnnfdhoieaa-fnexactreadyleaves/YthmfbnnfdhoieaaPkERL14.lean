/-
  Texts laid together: Cc, Nc, Ch, Ci.
-/
import Derived.Test.YthmfbnnfdhoieaaPkERL11
import Derived.Laws.RangeAny
import Derived.Lib.OthersKept
import Derived.Lib.QuietBelow
import Derived.Test.YthmfbnnfdhoieaaPkERL9
/-
  When a change is right: the program's and the specification's answers. Names are gone through rune by rune.
-/
namespace Go.Proofs.Ythmfbnnfdhoieaa
open Go.RowKit Go.BigFrame Go.Sort
set_option linter.unusedVariables false
set_option linter.unusedSimpArgs false

theorem nameB_high {b : UInt8} (h : 128 ≤ b.toNat) : nameB b = false := by
  unfold nameB
  rw [decide_eq_false]
  omega
theorem iterPos_of {w : World} {k p : Nat} {s : ByteArray} (h : w.heap[k]? = some (.stringIter s p)) : w.iterPos k = p := by simp [World.iterPos, h]

/-- the first runes, all of one byte each, may be in a name; the reader stands behind them -/
def CnRel (s : ByteArray) (w : World) (g : Nat) (wr : World) : Prop := ∃ k : Nat, k ≤ s.size ∧ wr.heap[g]? = some (.stringIter s k) ∧ Hid (∀ j (h : j < s.size), j < k → nameB s[j] = true) ∧ Below w.heap.size w wr

theorem drops_any (x : Ug) (w : World) : Calls Try.prog 55 #[.agg #[.int .i64 x.i, .string x.n, .string x.v]] w fun e w' => e = .returned (.bool x.v.toList.isEmpty) ∧ Below w.heap.size w w' := by
  obtain ⟨i, n, v⟩ := x
  have HB : Hid (Below w.heap.size w (w.alloc (.cells #[.int .i64 i, .string n, .string v] 79))) := (Below.refl _ _).alloc (Nat.le_refl _) _
  simp only
  cases hv : v.toList.isEmpty
  all_goals
    go_enter Try.func55, Try.ntmps55
    go_wp2
    go_ret
    exact ⟨rfl, HB.out⟩

end Go.Proofs.Ythmfbnnfdhoieaa
/-
  A leaf dropped from a list: the specification's answer.
-/
namespace Go.Proofs.Ythmfbnnfdhoieaa
open Go.RowKit Go.BigFrame Go.Sort
set_option linter.unusedVariables false
set_option linter.unusedSimpArgs false

set_option maxRecDepth 100000 in
set_option maxHeartbeats 2000000 in
theorem sLeafDropN_any (p : Option Addr) (cap : Nat) (ga oa : Nat) (L : List Le) (x : ByteArray) (w : World) (hv : RS 2 lcs w (.slice p L.length cap) ga oa L) (hnil : p = none → cap = 0) (hsm : SmallL L) (hL : L.length ≤ 1048576) :
    Calls Try.prog 50 #[.slice p L.length cap, .string x] w (LqN (LV.dropR L x) (LV.dropB L x) w) := by
  have HV : Hid (RS 2 lcs w (.slice p L.length cap) ga oa L ∧ SmallL L) := ⟨hv, hsm⟩
  have h0 := sLeafGet_any _ ga oa L x w hv
  have HDB : Hid (LV.dropB L x = (LV.leavesB L && LV.getB L x)) := rfl
  have HNO : Hid (∀ W v', OL w.heap.size w W v' L → LV.dropB L x = false → LqN (LV.dropR L x) (LV.dropB L x) w (.returned (.tuple #[v', .bool false])) W) := fun W v' ho hf => by
    rw [dropR_no hf, hf]
    obtain ⟨gz, hrz, hgz, _⟩ := ho.rw (by omega)
    obtain ⟨az, cz, rfl⟩ := ho.shape
    exact ⟨az, cz, gz, rfl, hrz, hgz, ho.2.1, ho.nil0⟩
  have HYE : Hid (∀ V W v', Below w.heap.size w V → OL V.heap.size V W v' (LV.wout L x) → LV.dropB L x = true → LqN (LV.dropR L x) (LV.dropB L x) w (.returned (.tuple #[v', .bool true])) W) := fun V W v' hV ho hf => by
    rw [dropR_yes hf, hf]
    obtain ⟨gz, hrz, hgz, _⟩ := ho.rw (by have := LV.len_wout_le L x; omega)
    obtain ⟨az, cz, rfl⟩ := ho.shape
    exact ⟨az, cz, gz, rfl, hrz, by have := hV.size; omega, hV.trans (ho.2.1.mono hV.size), ho.nil0⟩
  have HOK : Hid (∀ W, Below w.heap.size w W → Calls Try.prog 60 #[.slice p L.length cap] W fun e w' => e = .returned (.bool (LV.leavesB L)) ∧ Below W.heap.size W w') := fun W hW => sLeavesOk_any _ ga oa L W (hv.later hW) hsm
  have HWO : Hid (∀ W, Below w.heap.size w W → Calls Try.prog 61 #[.slice p L.length cap, .string x] W fun e w' => ∃ u, e = .returned u ∧ OL W.heap.size W w' u (LV.wout L x)) := fun W hW => l09Without_any _ ga oa L x W (hv.later hW)
  clear hv hsm
  generalize LV.getV L x = T at *
  go_enter Try.func50, Try.ntmps50
  go_wp2_with fail
  refine h0.mono ?_
  rintro e w1 ⟨rfl, hb1⟩
  clear h0
  go_wp2_with fail
  refine (HOK.out _ hb1).mono ?_
  rintro e w2 ⟨rfl, hb2⟩
  have b2 := hb1.trans (hb2.mono hb1.size)
  clear hb1 hb2 HOK
  have ho6 : OL w.heap.size w (w2.alloc (.cells #[] 62)) (.slice (some ⟨w2.heap.size, 0, none⟩) 0 0) [] := OL.made _ w w2 b2 b2.size
  have hrs6 := HV.out.1.later (b2.alloc b2.size (.cells #[] 62))
  cases hR1 : LV.leavesB L
  · rw [hR1, Bool.false_and] at HDB
    clear HWO HV
    go_wp2_with (at_builtin; refine wp_rowL rfl _ _ rfl w.heap.size w w2.heap.size rfl ho6 p ga oa cap L rfl hrs6 hnil ?_)
    intro v' w7 ho7
    have HF2 : Hid (LqN (LV.dropR L x) (LV.dropB L x) w (.returned (.tuple #[v', .bool false])) w7) := HNO.out w7 v' ho7 HDB.out
    clear ho7 ho6 hrs6 HNO HYE b2
    go_wp2
    go_ret2
    exact HF2.out
  · rw [hR1, Bool.true_and] at HDB
    cases hR2 : LV.getB L x
    · rw [hR2] at HDB
      clear HWO HV
      go_wp2_with (at_builtin; refine wp_rowL rfl _ _ rfl w.heap.size w w2.heap.size rfl ho6 p ga oa cap L rfl hrs6 hnil ?_)
      intro v' w7 ho7
      have HF2 : Hid (LqN (LV.dropR L x) (LV.dropB L x) w (.returned (.tuple #[v', .bool false])) w7) := HNO.out w7 v' ho7 HDB.out
      clear ho7 ho6 hrs6 HNO HYE b2
      go_wp2
      go_ret2
      exact HF2.out
    · rw [hR2] at HDB
      clear ho6 hrs6 HV
      go_wp2_with fail
      refine (HWO.out _ b2).mono ?_
      rintro e w3 ⟨u, rfl, ho3⟩
      have HF2 : Hid (LqN (LV.dropR L x) (LV.dropB L x) w (.returned (.tuple #[u, .bool true])) w3) := HYE.out w2 w3 u b2 ho3 HDB.out
      clear ho3 HNO HYE b2 HWO
      go_wp2
      go_ret2
      exact HF2.out
theorem sLeafDrop_any (p : Option Addr) (cap : Nat) (ga oa : Nat) (L : List Le) (x : ByteArray) (w : World) (hv : RS 2 lcs w (.slice p L.length cap) ga oa L) (hnil : p = none → cap = 0) (hsm : SmallL L) (hL : L.length ≤ 1048576) :
    Calls Try.prog 50 #[.slice p L.length cap, .string x] w (LqP (LV.dropR L x) (LV.dropB L x) w) := (sLeafDropN_any p cap ga oa L x w hv hnil hsm hL).mono fun _ _ h => h.plain

end Go.Proofs.Ythmfbnnfdhoieaa
/-
  A change done to a list, and changes done one behind the other: plain facts; the specification's answer to one.
-/
namespace Go.Proofs.Ythmfbnnfdhoieaa
open Go.RowKit Go.BigFrame Go.Sort
set_option linter.unusedVariables false
set_option linter.unusedSimpArgs false

namespace UV
/-- what a change leaves of a list -/
noncomputable def apU (L : List Le) (x : Ug) : List Le := if x.v.toList.isEmpty = true then LV.dropR L x.n else LV.putR L ⟨x.n, x.v⟩
/-- .. and changes, one behind the other -/
noncomputable def apA (L : List Le) (A : List Ug) : List Le := A.foldl apU L
theorem apA_step (L : List Le) (A : List Ug) {m : Nat} (h : m < A.length) : apA L (A.take (m + 1)) = apU (apA L (A.take m)) A[m] := by
  unfold apA
  rw [List.take_succ_eq_append_getElem h, List.foldl_append]
  rfl
theorem apA_all (L : List Le) (A : List Ug) : apA L (A.take A.length) = apA L A := by rw [List.take_length]
theorem drop_len (L : List Le) (x : ByteArray) : (LV.dropR L x).length ≤ L.length := by
  unfold LV.dropR
  split
  · exact LV.len_wout_le L x
  · exact Nat.le_refl _
theorem put_len {L : List Le} {f : Le} (hl : L.length ≤ 1048576) : (LV.putR L f).length ≤ 1048576 := by
  cases h : LV.putB L f
  · rw [putR_no h]; exact hl
  · rw [putR_yes h]
    have := LV.putB_spec L f
    rw [h] at this
    have h2 : LV.leavesB (LV.put L f) = true := (Bool.and_eq_true_iff.1 this.symm).2
    have := (LV.leavesB_iff.1 h2).1
    omega
theorem ap_len {L : List Le} {x : Ug} (hl : L.length ≤ 1048576) : (apU L x).length ≤ 1048576 := by
  unfold apU
  split
  · exact Nat.le_trans (drop_len L x.n) hl
  · exact put_len hl
end UV
theorem small_drop {L : List Le} {x : ByteArray} (h : SmallL L) : SmallL (LV.dropR L x) := by
  unfold LV.dropR
  split
  · exact fun f hf => h f (List.mem_filter.1 hf).1
  · exact h
theorem small_putR {L : List Le} {f : Le} (h : SmallL L) (hn : f.n.size ≤ 1048576) (hv : f.v.size ≤ 1048576) : SmallL (LV.putR L f) := by
  unfold LV.putR
  split
  · exact small_put h hn hv
  · exact h
theorem small_ap {L : List Le} {x : Ug} (h : SmallL L) (hn : x.n.size ≤ 1048576) (hv : x.v.size ≤ 1048576) : SmallL (UV.apU L x) := by
  unfold UV.apU
  split
  · exact small_drop h
  · exact small_putR h hn hv

/-- a list answered; where it is nil it has no room -/
def ApP (M : List Le) (w : World) (e : Ending) (w' : World) : Prop := ∃ a cap g, e = .returned (.slice a M.length cap) ∧ RW 2 lcs w' (.slice a M.length cap) g M ∧ w.heap.size ≤ g ∧ Below w.heap.size w w'
def ApN (M : List Le) (w : World) (e : Ending) (w' : World) : Prop := ∃ a cap g, e = .returned (.slice a M.length cap) ∧ RW 2 lcs w' (.slice a M.length cap) g M ∧ w.heap.size ≤ g ∧ Below w.heap.size w w' ∧ (a = none → cap = 0)
theorem ApN.plain {M : List Le} {w w' : World} {e : Ending} (h : ApN M w e w') : ApP M w e w' := by
  obtain ⟨a, cap, g, h1, h2, h3, h4, _⟩ := h
  exact ⟨a, cap, g, h1, h2, h3, h4⟩

set_option maxRecDepth 100000 in
set_option maxHeartbeats 1000000 in
theorem sApplyChange_any (p : Option Addr) (cap : Nat) (ga oa : Nat) (L : List Le) (x : Ug) (w : World) (hv : RS 2 lcs w (.slice p L.length cap) ga oa L) (hnil : p = none → cap = 0) (hsm : SmallL L) (hL : L.length ≤ 1048576) (hn : x.n.size ≤ 1048576) (hvs : x.v.size ≤ 1048576) :
    Calls Try.prog 39 #[.slice p L.length cap, .agg #[.int .i64 x.i, .string x.n, .string x.v]] w (ApN (UV.apU L x) w) := by
  have HW : Hid (BU (w.alloc (.cells #[.int .i64 x.i, .string x.n, .string x.v] 79)) w.heap.size x ∧ Below w.heap.size w (w.alloc (.cells #[.int .i64 x.i, .string x.n, .string x.v] 79))) := ⟨BU.new w x, (Below.refl _ _).alloc (Nat.le_refl _) _⟩
  have HP : Hid (∀ W, Below w.heap.size w W → Calls Try.prog 51 #[.slice p L.length cap, .string x.n, .string x.v] W (LqN (LV.putR L ⟨x.n, x.v⟩) (LV.putB L ⟨x.n, x.v⟩) W)) := fun W hW => sLeafPutN_any p cap ga oa L x.n x.v W (hv.later hW) hnil hsm hL hn hvs
  have HR : Hid (∀ W, Below w.heap.size w W → Calls Try.prog 50 #[.slice p L.length cap, .string x.n] W (LqN (LV.dropR L x.n) (LV.dropB L x.n) W)) := fun W hW => sLeafDropN_any p cap ga oa L x.n W (hv.later hW) hnil hsm hL
  generalize L.length = n at *
  unfold LqN at HP HR
  unfold UV.apU
  clear hv hsm hn hvs hnil hL
  generalize LV.putB L ⟨x.n, x.v⟩ = b1 at *
  generalize LV.dropB L x.n = b2 at *
  obtain ⟨i, N, V⟩ := x
  simp only at HW HP HR ⊢
  have z1 := HW.out.1.c1
  have z2 := HW.out.1.c2
  simp only at z1 z2
  cases hd : V.toList.isEmpty
  · rw [if_neg (by simp)]
    generalize LV.putR L ⟨N, V⟩ = M at *
    clear HR
    obtain ⟨k, hk⟩ : ∃ k, M.length = k := ⟨_, rfl⟩
    rw [hk] at HP
    have HF : Hid (∀ W e, (∃ a cap g, e = .returned (.slice a k cap) ∧ RW 2 lcs W (.slice a k cap) g M ∧ w.heap.size ≤ g ∧ Below w.heap.size w W ∧ (a = none → cap = 0)) → ApN M w e W) := fun W e h => by unfold ApN; rw [hk]; exact h
    clear hk
    go_enter Try.func39, Try.ntmps39
    go_wp2_with fail
    refine (HP.out _ HW.out.2).mono ?_
    rintro e w2 ⟨a2, c2, g2, rfl, hr2, hg2, hb2, hz2⟩
    have HE := hide (HF.out w2 _ ⟨a2, c2, g2, rfl, hr2, by have := HW.out.2.size; omega, HW.out.2.trans (hb2.mono HW.out.2.size), hz2⟩)
    clear HP HW hr2 hg2 hb2 z1 z2 HF hz2
    go_wp2
    go_ret
    exact HE.out
  · rw [if_pos rfl]
    generalize LV.dropR L N = M at *
    clear HP
    obtain ⟨k, hk⟩ : ∃ k, M.length = k := ⟨_, rfl⟩
    rw [hk] at HR
    have HF : Hid (∀ W e, (∃ a cap g, e = .returned (.slice a k cap) ∧ RW 2 lcs W (.slice a k cap) g M ∧ w.heap.size ≤ g ∧ Below w.heap.size w W ∧ (a = none → cap = 0)) → ApN M w e W) := fun W e h => by unfold ApN; rw [hk]; exact h
    clear hk
    go_enter Try.func39, Try.ntmps39
    go_wp2_with fail
    refine (HR.out _ HW.out.2).mono ?_
    rintro e w2 ⟨a2, c2, g2, rfl, hr2, hg2, hb2, hz2⟩
    have HE := hide (HF.out w2 _ ⟨a2, c2, g2, rfl, hr2, by have := HW.out.2.size; omega, HW.out.2.trans (hb2.mono HW.out.2.size), hz2⟩)
    clear HR HW hr2 hg2 hb2 z1 z2 HF hz2
    go_wp2
    go_ret
    exact HE.out

end Go.Proofs.Ythmfbnnfdhoieaa
/-
  Changes done one behind the other: the specification's answer.
-/
namespace Go.Proofs.Ythmfbnnfdhoieaa
open Go.RowKit Go.BigFrame Go.Sort
set_option linter.unusedVariables false
set_option linter.unusedSimpArgs false

theorem small_apA {L : List Le} {A : List Ug} (h : SmallL L) (hA : ∀ x ∈ A, x.n.size ≤ 1048576 ∧ x.v.size ≤ 1048576) (m : Nat) : SmallL (UV.apA L (A.take m)) := by
  induction m with
  | zero => simpa [UV.apA] using h
  | succ m ih =>
    rcases Nat.lt_or_ge m A.length with hm | hm
    · rw [UV.apA_step L A hm]
      have := hA A[m] (List.getElem_mem _)
      exact small_ap ih this.1 this.2
    · rw [List.take_of_length_le (by omega)]
      rw [List.take_of_length_le hm] at ih
      exact ih
theorem UV.apA_len {L : List Le} {A : List Ug} (h : L.length ≤ 1048576) (m : Nat) : (UV.apA L (A.take m)).length ≤ 1048576 := by
  induction m with
  | zero => simpa [UV.apA] using h
  | succ m ih =>
    rcases Nat.lt_or_ge m A.length with hm | hm
    · rw [UV.apA_step L A hm]
      exact UV.ap_len ih
    · rw [List.take_of_length_le (by omega)]
      rw [List.take_of_length_le hm] at ih
      exact ih

/-- so many are done -/
def AaS (w : World) (M : List Le) (u : Value) (wr : World) : Prop := ∃ g, RW 2 lcs wr u g M ∧ w.heap.size ≤ g ∧ Below w.heap.size w wr
def AaN (w : World) (L : List Le) (A : List Ug) (u i : Value) (wr : World) : Prop := ∃ (m : Nat) (a : Option Addr) (c : Nat), m ≤ A.length ∧ i = .int .i64 (m : Int) ∧ u = .slice a (UV.apA L (A.take m)).length c ∧ (a = none → c = 0) ∧ Hid (AaS w (UV.apA L (A.take m)) u wr)
def AaR (w : World) (L : List Le) (A : List Ug) (u i : Value) (wr : World) : Prop := ∃ (m : Nat) (a : Option Addr) (c : Nat), m ≤ A.length ∧ i = .int .i64 (m : Int) ∧ u = .slice a (UV.apA L (A.take m)).length c ∧ Hid (AaS w (UV.apA L (A.take m)) u wr)

set_option maxRecDepth 100000 in
set_option maxHeartbeats 1000000 in
theorem sApplyAll_any (p : Option Addr) (cap : Nat) (ga oa : Nat) (L : List Le) (q : Value) (gq oq : Nat) (A : List Ug) (w : World) (hv : RS 2 lcs w (.slice p L.length cap) ga oa L) (hnil : p = none → cap = 0) (hsm : SmallL L) (hL : L.length ≤ 1048576) (hq : RS 3 ucs w q gq oq A) (hA : ∀ x ∈ A, x.n.size ≤ 1048576 ∧ x.v.size ≤ 1048576) :
    Calls Try.prog 17 #[.slice p L.length cap, q] w (ApN (UV.apA L A) w) := by
  have HQ : Hid (RS 3 ucs w q gq oq A) := hq
  have HSM : Hid (∀ m (h : m < A.length), SmallL (UV.apA L (A.take m)) ∧ (UV.apA L (A.take m)).length ≤ 1048576 ∧ (A[m]'h).n.size ≤ 1048576 ∧ (A[m]'h).v.size ≤ 1048576) := fun m h => ⟨small_apA hsm hA m, UV.apA_len hL m, hA _ (List.getElem_mem h)⟩
  obtain ⟨aq, cq, rfl, hlq, hAq, _⟩ := hq
  obtain ⟨n, hn⟩ : ∃ n, A.length = n := ⟨_, rfl⟩
  have HA : Hid (0 < n → aq = some ⟨gq, oq, none⟩) := by rw [← hn]; exact fun h => (hAq h).1
  rw [hn] at hlq HQ ⊢
  have ho6 : OL w.heap.size w (w.alloc (.cells #[] 62)) (.slice (some ⟨w.heap.size, 0, none⟩) 0 0) [] := OL.made _ w w (Below.refl _ _) (Nat.le_refl _)
  have hrs6 := hv.later ((Below.refl w.heap.size w).alloc (Nat.le_refl _) (.cells #[] 62))
  have HF : Hid (∀ W, AaN w L A (.slice none 0 0) (.int .i64 0) W → True) := fun _ _ => trivial
  clear hv hsm hA hAq HF
  go_enter Try.func17, Try.ntmps17
  go_wp2_with (at_builtin; refine wp_rowL rfl _ _ rfl w.heap.size w w.heap.size rfl ho6 p ga oa cap L rfl hrs6 hnil ?_)
  intro v' w7 ho7
  have HST : Hid (AaN w L A v' (.int .i64 0) w7) := by
    obtain ⟨gz, hrz, hgz, _⟩ := ho7.rw (by omega)
    obtain ⟨az, cz, rfl⟩ := ho7.shape
    exact ⟨0, az, cz, Nat.zero_le _, rfl, rfl, ho7.nil0, ⟨gz, hrz, hgz, ho7.2.1⟩⟩
  clear ho7 ho6 hrs6 hnil hL
  go_wp2
  go_loopw [5, 6] (fun u i wr => AaN w L A u i wr) (fun _ i _ => n - (intOf i).toNat)
  case atStart => exact HST.out
  case round =>
    obtain ⟨m, au, cu, hm, rfl, rfl, hz, HI⟩ := hrel
    clear HST
    rw [hn] at hm
    obtain ⟨gu, hru, hgu, hbu⟩ := HI.out
    by_cases hlt : m < n
    · have ea := HA.out (by omega)
      subst ea
      obtain ⟨c0, c1, c2⟩ := (HQ.out.later hbu).chg m (by omega)
      have hs := HSM.out m (by omega)
      have hst := UV.apA_step L A (m := m) (by omega)
      obtain ⟨X, hX⟩ : ∃ X, A[m]'(by omega) = X := ⟨_, rfl⟩
      rw [hX] at c0 c1 c2 hs hst
      have HC := hide (sApplyChange_any au cu gu 0 _ X wr hru.1 hz hs.1 hs.2.1 hs.2.2.1 hs.2.2.2)
      have HJ : Hid (UV.apA L (A.take (m + 1)) = UV.apU (UV.apA L (A.take m)) X) := hst
      have HB : Hid (Below w.heap.size w wr) := hbu
      have i1 : (m : Int) < (n : Int) := by omega
      have i2 : (0 : Int) ≤ (m : Int) := by omega
      generalize UV.apA L (A.take m) = M at *
      clear HI hru hgu hbu hs hst hX HQ HA HSM hz
      generalize M.length = k at *
      obtain ⟨x0, x1, x2⟩ := X
      simp only at c0 c1 c2 HC
      go_wp2_with fail
      refine HC.out.mono ?_
      rintro e w2 ⟨a2, c2', g2, rfl, hr2, hg2, hb2, hz2⟩
      have HK : Hid (UV.apA L (A.take (m + 1)) = UV.apU M ⟨x0, x1, x2⟩ ∧ (a2 = none → c2' = 0) ∧ AaS w (UV.apU M ⟨x0, x1, x2⟩) (.slice a2 (UV.apU M ⟨x0, x1, x2⟩).length c2') w2) := ⟨HJ.out, hz2, g2, hr2, by have := HB.out.size; omega, HB.out.trans (hb2.mono HB.out.size)⟩
      clear HC HJ HB hr2 hg2 hb2 hz2 c0 c1 c2
      generalize UV.apU M ⟨x0, x1, x2⟩ = M2 at *
      go_wp2
      go_roundw
      case rel => exact ⟨m + 1, a2, c2', by omega, by go_num, by rw [HK.out.1], HK.out.2.1, by rw [HK.out.1]; exact HK.out.2.2⟩
      case measure => simp [intOf]; omega
    · have hme : m = n := by omega
      subst hme
      have hall : UV.apA L (A.take m) = UV.apA L A := by rw [← hn]; exact UV.apA_all L A
      have HE : Hid (ApN (UV.apA L A) w (.returned (.slice au (UV.apA L (A.take m)).length cu)) wr) := by
        rw [← hall]
        exact ⟨au, cu, gu, rfl, hru, hgu, hbu, hz⟩
      clear HI hru hgu hbu hz hall HQ HA HSM
      go_wp2
      go_ret
      exact HE.out

end Go.Proofs.Ythmfbnnfdhoieaa
