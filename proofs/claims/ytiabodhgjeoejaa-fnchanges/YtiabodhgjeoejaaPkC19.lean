/-
  Texts laid together: Cv, Ci, Mq.
-/
import Derived.Test.YtiabodhgjeoejaaPkC13
import Derived.Test.YtiabodhgjeoejaaPkC18
import Derived.Test.YtiabodhgjeoejaaPkC14
import Derived.Test.YtiabodhgjeoejaaPkC10
import Derived.Test.YtiabodhgjeoejaaPkC11
import Derived.Maps.OwnSet
import Derived.Maps.RangeWalk
import Derived.StringKeys
import Derived.Sort.KeysCollected
/-
  Plain facts about right changes done to a right list: what is told of a name is what the last one says; a change comes back from its text.
-/
namespace Go.Proofs.Ytiabodhgjeoejaa
open Go.RowKit Go.BigFrame Go.Sort
set_option linter.unusedVariables false
set_option linter.unusedSimpArgs false

theorem empty_is {v : ByteArray} (h : v.toList.isEmpty = true) : v = ⟨#[]⟩ := by
  apply ByteArray.ext
  rw [ByteArray.toList_eq, List.isEmpty_iff] at h
  exact Array.toList_inj.1 h
namespace UV
theorem okU_le {x : Ug} (h : okU x = true) (hv : x.v.toList.isEmpty = false) : LV.leB ⟨x.n, x.v⟩ = true := by
  obtain ⟨_, h2, h3⟩ := okU_parts h
  unfold vOk at h3
  rw [hv, Bool.false_or] at h3
  unfold LV.leB
  rw [h2, h3]
  rfl
/-- a right change leaves a right list, at most one longer -/
theorem ap_ok {L : List Le} {x : Ug} (hL : LV.LOk L) (hl : L.length < 24) (hx : okU x = true) : LV.LOk (apU L x) ∧ (apU L x).length ≤ L.length + 1 := by
  unfold apU
  cases hv : x.v.toList.isEmpty
  · rw [if_neg (by simp)]
    have hpb := LV.putB_yes (f := ⟨x.n, x.v⟩) hL hl (okU_le hx hv)
    rw [putR_yes hpb]
    refine ⟨LV.putB_ok hpb, ?_⟩
    rw [LV.len_put]
    have := LV.len_wout_le L x.n
    show (LV.wout L x.n).length + 1 ≤ _
    omega
  · rw [if_pos rfl]
    cases hd : LV.dropB L x.n
    · rw [dropR_no hd]; exact ⟨hL, by omega⟩
    · rw [dropR_yes hd]
      exact ⟨LV.ok_wout hL x.n, by have := LV.len_wout_le L x.n; omega⟩
theorem find_here {L : List Le} {x : Ug} (hL : LV.LOk L) (hl : L.length < 24) (hx : okU x = true) : LV.getV (apU L x) x.n = x.v ∧ LV.getB (apU L x) x.n = !x.v.toList.isEmpty := by
  unfold apU
  cases hv : x.v.toList.isEmpty
  · rw [if_neg (by simp)]
    have hpb := LV.putB_yes (f := ⟨x.n, x.v⟩) hL hl (okU_le hx hv)
    rw [putR_yes hpb]
    exact LV.get_of (f := ⟨x.n, x.v⟩) (LV.putB_ok hpb).2.2 (LV.mem_put.2 (.inl rfl))
  · rw [if_pos rfl, empty_is hv]
    have hn : LV.find (LV.dropR L x.n) x.n = none := by
      cases hd : LV.dropB L x.n
      · rw [dropR_no hd]
        unfold LV.dropB at hd
        rw [LV.leavesB_iff.2 hL, Bool.true_and] at hd
        cases hf : LV.find L x.n with
        | none => rfl
        | some y => rw [hf] at hd; cases hd
      · rw [dropR_yes hd]
        exact LV.find_not (fun f hf => (LV.mem_wout.1 hf).2)
    obtain ⟨h1, h2⟩ := LV.get_none hn
    exact ⟨h1, by rw [h2]; rfl⟩
/-- two right lists with the same leaves of a name tell the same of it -/
theorem get_same {L M : List Le} {y : ByteArray} (hL : LV.LOk L) (hM : LV.LOk M) (h : ∀ g : Le, g.n = y → (g ∈ M ↔ g ∈ L)) : LV.getV M y = LV.getV L y ∧ LV.getB M y = LV.getB L y := by
  cases hf : LV.find L y with
  | none =>
    obtain ⟨a1, a2⟩ := LV.get_none hf
    obtain ⟨b1, b2⟩ := LV.get_none (LV.find_not (L := M) (x := y) (fun g hg e => LV.find_none hf g ((h g e).1 hg) e))
    rw [a1, a2, b1, b2]
    exact ⟨rfl, rfl⟩
  | some g =>
    obtain ⟨hg, he⟩ := LV.find_some hf
    obtain ⟨a1, a2⟩ := LV.get_of hL.2.2 hg
    obtain ⟨b1, b2⟩ := LV.get_of hM.2.2 ((h g he).2 hg)
    rw [← he, a1, a2, b1, b2]
    exact ⟨rfl, rfl⟩
theorem find_else {L : List Le} {x : Ug} {y : ByteArray} (hL : LV.LOk L) (hl : L.length < 24) (hx : okU x = true) (hy : y ≠ x.n) : LV.getV (apU L x) y = LV.getV L y ∧ LV.getB (apU L x) y = LV.getB L y := by
  refine get_same hL (ap_ok hL hl hx).1 (fun g hg => ?_)
  unfold apU
  cases hv : x.v.toList.isEmpty
  · rw [if_neg (by simp)]
    have hpb := LV.putB_yes (f := ⟨x.n, x.v⟩) hL hl (okU_le hx hv)
    rw [putR_yes hpb, LV.mem_put]
    constructor
    · rintro (rfl | h)
      · exact absurd hg (fun e => hy e.symm)
      · exact h.1
    · exact fun h => .inr ⟨h, fun e => hy (by rw [← hg, e])⟩
  · rw [if_pos rfl]
    cases hd : LV.dropB L x.n
    · rw [dropR_no hd]
    · rw [dropR_yes hd, LV.mem_wout]
      exact ⟨fun h => h.1, fun h => ⟨h, fun e => hy (by rw [← hg, e])⟩⟩
theorem apA_ok {A : List Ug} : ∀ {L : List Le}, LV.LOk L → L.length + A.length ≤ 24 → (∀ x ∈ A, okU x = true) → LV.LOk (apA L A) := by
  induction A with
  | nil => exact fun h _ _ => h
  | cons x r ih =>
    intro L hL hl hx
    obtain ⟨h1, h2⟩ := ap_ok hL (by simp at hl; omega) (hx x (by simp))
    exact ih h1 (by simp at hl; omega) (fun y hy => hx y (by simp [hy]))
/-- no change behind speaks of the name: what is told of it stays -/
theorem apA_else {A : List Ug} {y : ByteArray} : ∀ {L : List Le}, LV.LOk L → L.length + A.length ≤ 24 → (∀ x ∈ A, okU x = true) → (∀ x ∈ A, y ≠ x.n) → LV.getV (apA L A) y = LV.getV L y ∧ LV.getB (apA L A) y = LV.getB L y := by
  induction A with
  | nil => exact fun _ _ _ _ => ⟨rfl, rfl⟩
  | cons x r ih =>
    intro L hL hl hx hy
    obtain ⟨h1, h2⟩ := ap_ok hL (by simp at hl; omega) (hx x (by simp))
    obtain ⟨e1, e2⟩ := ih h1 (by simp at hl; omega) (fun z hz => hx z (by simp [hz])) (fun z hz => hy z (by simp [hz]))
    obtain ⟨f1, f2⟩ := find_else hL (by simp at hl; omega) (hx x (by simp)) (hy x (by simp))
    exact ⟨e1.trans f1, e2.trans f2⟩
/-- the last one of a name counts -/
theorem last_counts {L : List Le} {A : List Ug} {i : Nat} (hL : LV.LOk L) (hl : L.length + A.length ≤ 24) (hx : ∀ x ∈ A, okU x = true) (hi : i < A.length) (hlast : ∀ k (h : k < A.length), i < k → A[k].n ≠ A[i].n) :
    LV.getV (apA L A) A[i].n = A[i].v ∧ LV.getB (apA L A) A[i].n = !A[i].v.toList.isEmpty := by
  have hsplit : A = A.take i ++ A[i] :: A.drop (i + 1) := by rw [← List.drop_eq_getElem_cons hi, List.take_append_drop]
  have e : apA L A = apA (apU (apA L (A.take i)) A[i]) (A.drop (i + 1)) := by
    conv => lhs; rw [hsplit]
    unfold apA
    rw [List.foldl_append, List.foldl_cons]
  have hT : LV.LOk (apA L (A.take i)) := apA_ok hL (by rw [List.length_take]; omega) (fun x h => hx x (List.mem_of_mem_take h))
  have hTl : ∀ (B : List Ug) (M : List Le), LV.LOk M → M.length + B.length ≤ 24 → (∀ x ∈ B, okU x = true) → (apA M B).length ≤ M.length + B.length := by
    intro B
    induction B with
    | nil => intro M _ _ _; exact Nat.le_refl _
    | cons b r ih =>
      intro M hM hl hB
      obtain ⟨h1, h2⟩ := ap_ok hM (by simp at hl; omega) (hB b (by simp))
      have := ih (apU M b) h1 (by simp at hl; omega) (fun y hy => hB y (by simp [hy]))
      show (apA (apU M b) r).length ≤ _
      simp only [List.length_cons]
      omega
  have hTn := hTl (A.take i) L hL (by rw [List.length_take]; omega) (fun x h => hx x (List.mem_of_mem_take h))
  rw [List.length_take, Nat.min_eq_left (by omega)] at hTn
  have hxi := hx A[i] (List.getElem_mem _)
  obtain ⟨h1, h2⟩ := ap_ok hT (by omega) hxi
  obtain ⟨f1, f2⟩ := find_here hT (by omega) hxi
  obtain ⟨g1, g2⟩ := apA_else (A := A.drop (i + 1)) (y := A[i].n) h1 (by rw [List.length_drop]; omega) (fun x h => hx x (List.mem_of_mem_drop h)) (fun x h => by
    obtain ⟨j, hj, rfl⟩ := List.getElem_of_mem h
    rw [List.length_drop] at hj
    rw [List.getElem_drop]
    exact (hlast (i + 1 + j) (by omega) (by omega)).symm)
  rw [e, g1, g2]
  exact ⟨f1, f2⟩
/-- a right change comes back from its text -/
theorem rd_back {x : Ug} (h : okU x = true) : rdOk (txtU x) = true ∧ rdA (txtU x) = x := by
  obtain ⟨⟨h1, h2⟩, h3, h4⟩ := okU_parts h
  have hn := (okB_size h3).2
  have hv := vOk_size h4
  have hd : (txtU x).data.toList = M.varL x.i.toNat ++ (M.varL x.n.size ++ x.n.data.toList ++ (M.varL x.v.size ++ x.v.data.toList)) := by
    unfold txtU vb
    simp [ByteArray.data_append]
  have hr : M.readVar (txtU x).data.toList 0 = some (x.i.toNat, (M.varL x.i.toNat).length) := by
    have := LV.readVar_back [] (M.varL x.n.size ++ x.n.data.toList ++ (M.varL x.v.size ++ x.v.data.toList)) x.i.toNat (by omega)
    simp only [List.nil_append, List.length_nil, Nat.zero_add] at this
    rw [hd]
    exact this
  have hl := LV.leafAt_back (txtU x) ⟨x.n, x.v⟩ (M.varL x.i.toNat) [] (by show x.n.size ≤ 20000; omega) (by show x.v.size ≤ 20000; omega) (by rw [hd]; simp [LV.leL])
  have hx : (⟨((x.i.toNat : Nat) : Int), x.n, x.v⟩ : Ug) = x := by
    have : ((x.i.toNat : Nat) : Int) = x.i := by omega
    rw [this]
  have hw := (raw_whole hr hl).1 (by simp only; rw [hx])
  obtain ⟨e1, e2⟩ := rd_some (raw_some hr hl)
  simp only at e1 e2
  rw [hx, h, Bool.and_true, decide_eq_true hw] at e1 e2
  exact ⟨e1, by rw [e2]; rfl⟩
/-- .. and whatever is read is the text of what is answered -/
theorem rd_text {t : ByteArray} (h : rdOk t = true) : okU (rdA t) = true ∧ textU (rdA t) = t := by
  cases hr : M.readVar t.data.toList 0 with
  | none => have := (rd_none (raw_none1 hr)).1; rw [h] at this; cases this
  | some y =>
    obtain ⟨n, q⟩ := y
    cases hl : LV.leafAt t q with
    | none => have := (rd_none (raw_none2 hr hl)).1; rw [h] at this; cases this
    | some z =>
      obtain ⟨f, r⟩ := z
      obtain ⟨e1, e2⟩ := rd_some (raw_some hr hl)
      rw [h] at e1
      have e3 := Bool.and_eq_true_iff.1 e1.symm
      rw [← e1, if_pos rfl] at e2
      rw [e2]
      refine ⟨e3.2, ?_⟩
      unfold textU
      rw [if_pos e3.2]
      exact (raw_whole hr hl).2 (of_decide_eq_true e3.1)
theorem rd_size (t : ByteArray) {k : Nat} (h : t.size ≤ k) : (rdA t).n.size ≤ k ∧ (rdA t).v.size ≤ k := by
  have hz : zU.n.size ≤ k ∧ zU.v.size ≤ k := ⟨Nat.zero_le _, Nat.zero_le _⟩
  cases hr : M.readVar t.data.toList 0 with
  | none => rw [(rd_none (raw_none1 hr)).2]; exact hz
  | some y =>
    obtain ⟨n, q⟩ := y
    cases hl : LV.leafAt t q with
    | none => rw [(rd_none (raw_none2 hr hl)).2]; exact hz
    | some z =>
      obtain ⟨f, r⟩ := z
      rw [(rd_some (raw_some hr hl)).2]
      have := LV.leafAt_size hl
      split
      · exact ⟨by simp only; omega, by simp only; omega⟩
      · exact hz
end UV

end Go.Proofs.Ytiabodhgjeoejaa
/-
  Changes done one behind the other: the specification's answer.
-/
namespace Go.Proofs.Ytiabodhgjeoejaa
open Go.RowKit Go.BigFrame Go.Sort
set_option linter.unusedVariables false
set_option linter.unusedSimpArgs false

theorem small_apA {L : List Le} {A : List Ug} (h : SmallL L) (hA : ∀ x ∈ A, x.n.size ≤ 1048576 ∧ x.v.size ≤ 1048576) (m : Nat) : SmallL (UV.apA L (A.take m)) := by
  induction m with
  | zero => simpa [UV.apA] using h
  | succ m ih =>
    rcases Nat.lt_or_ge m A.length with hm | hm
    · rw [UV.apA_step L A hm]
      have := hA A[m] (List.getElem_mem _)
      exact small_ap ih this.1 this.2
    · rw [List.take_of_length_le (by omega)]
      rw [List.take_of_length_le hm] at ih
      exact ih
theorem UV.apA_len {L : List Le} {A : List Ug} (h : L.length ≤ 1048576) (m : Nat) : (UV.apA L (A.take m)).length ≤ 1048576 := by
  induction m with
  | zero => simpa [UV.apA] using h
  | succ m ih =>
    rcases Nat.lt_or_ge m A.length with hm | hm
    · rw [UV.apA_step L A hm]
      exact UV.ap_len ih
    · rw [List.take_of_length_le (by omega)]
      rw [List.take_of_length_le hm] at ih
      exact ih

/-- so many are done -/
def AaS (w : World) (M : List Le) (u : Value) (wr : World) : Prop := ∃ g, RW 2 lcs wr u g M ∧ w.heap.size ≤ g ∧ Below w.heap.size w wr
def AaN (w : World) (L : List Le) (A : List Ug) (u i : Value) (wr : World) : Prop := ∃ (m : Nat) (a : Option Addr) (c : Nat), m ≤ A.length ∧ i = .int .i64 (m : Int) ∧ u = .slice a (UV.apA L (A.take m)).length c ∧ (a = none → c = 0) ∧ Hid (AaS w (UV.apA L (A.take m)) u wr)
def AaR (w : World) (L : List Le) (A : List Ug) (u i : Value) (wr : World) : Prop := ∃ (m : Nat) (a : Option Addr) (c : Nat), m ≤ A.length ∧ i = .int .i64 (m : Int) ∧ u = .slice a (UV.apA L (A.take m)).length c ∧ Hid (AaS w (UV.apA L (A.take m)) u wr)

set_option maxRecDepth 100000 in
set_option maxHeartbeats 1000000 in
theorem sApplyAll_any (p : Option Addr) (cap : Nat) (ga oa : Nat) (L : List Le) (q : Value) (gq oq : Nat) (A : List Ug) (w : World) (hv : RS 2 lcs w (.slice p L.length cap) ga oa L) (hnil : p = none → cap = 0) (hsm : SmallL L) (hL : L.length ≤ 1048576) (hq : RS 3 ucs w q gq oq A) (hA : ∀ x ∈ A, x.n.size ≤ 1048576 ∧ x.v.size ≤ 1048576) :
    Calls Try.prog 24 #[.slice p L.length cap, q] w (ApN (UV.apA L A) w) := by
  have HQ : Hid (RS 3 ucs w q gq oq A) := hq
  have HSM : Hid (∀ m (h : m < A.length), SmallL (UV.apA L (A.take m)) ∧ (UV.apA L (A.take m)).length ≤ 1048576 ∧ (A[m]'h).n.size ≤ 1048576 ∧ (A[m]'h).v.size ≤ 1048576) := fun m h => ⟨small_apA hsm hA m, UV.apA_len hL m, hA _ (List.getElem_mem h)⟩
  obtain ⟨aq, cq, rfl, hlq, hAq, _⟩ := hq
  obtain ⟨n, hn⟩ : ∃ n, A.length = n := ⟨_, rfl⟩
  have HA : Hid (0 < n → aq = some ⟨gq, oq, none⟩) := by rw [← hn]; exact fun h => (hAq h).1
  rw [hn] at hlq HQ ⊢
  have ho6 : OL w.heap.size w (w.alloc (.cells #[] 73)) (.slice (some ⟨w.heap.size, 0, none⟩) 0 0) [] := OL.made _ w w (Below.refl _ _) (Nat.le_refl _)
  have hrs6 := hv.later ((Below.refl w.heap.size w).alloc (Nat.le_refl _) (.cells #[] 73))
  have HF : Hid (∀ W, AaN w L A (.slice none 0 0) (.int .i64 0) W → True) := fun _ _ => trivial
  clear hv hsm hA hAq HF
  go_enter Try.func24, Try.ntmps24
  go_wp2_with (at_builtin; refine wp_rowL rfl _ _ rfl w.heap.size w w.heap.size rfl ho6 p ga oa cap L rfl hrs6 hnil ?_)
  intro v' w7 ho7
  have HST : Hid (AaN w L A v' (.int .i64 0) w7) := by
    obtain ⟨gz, hrz, hgz, _⟩ := ho7.rw (by omega)
    obtain ⟨az, cz, rfl⟩ := ho7.shape
    exact ⟨0, az, cz, Nat.zero_le _, rfl, rfl, ho7.nil0, ⟨gz, hrz, hgz, ho7.2.1⟩⟩
  clear ho7 ho6 hrs6 hnil hL
  go_wp2
  go_loopw [5, 6] (fun u i wr => AaN w L A u i wr) (fun _ i _ => n - (intOf i).toNat)
  case atStart => exact HST.out
  case round =>
    obtain ⟨m, au, cu, hm, rfl, rfl, hz, HI⟩ := hrel
    clear HST
    rw [hn] at hm
    obtain ⟨gu, hru, hgu, hbu⟩ := HI.out
    by_cases hlt : m < n
    · have ea := HA.out (by omega)
      subst ea
      obtain ⟨c0, c1, c2⟩ := (HQ.out.later hbu).chg m (by omega)
      have hs := HSM.out m (by omega)
      have hst := UV.apA_step L A (m := m) (by omega)
      obtain ⟨X, hX⟩ : ∃ X, A[m]'(by omega) = X := ⟨_, rfl⟩
      rw [hX] at c0 c1 c2 hs hst
      have HC := hide (sApplyChange_any au cu gu 0 _ X wr hru.1 hz hs.1 hs.2.1 hs.2.2.1 hs.2.2.2)
      have HJ : Hid (UV.apA L (A.take (m + 1)) = UV.apU (UV.apA L (A.take m)) X) := hst
      have HB : Hid (Below w.heap.size w wr) := hbu
      have i1 : (m : Int) < (n : Int) := by omega
      have i2 : (0 : Int) ≤ (m : Int) := by omega
      generalize UV.apA L (A.take m) = M at *
      clear HI hru hgu hbu hs hst hX HQ HA HSM hz
      generalize M.length = k at *
      obtain ⟨x0, x1, x2⟩ := X
      simp only at c0 c1 c2 HC
      go_wp2_with fail
      refine HC.out.mono ?_
      rintro e w2 ⟨a2, c2', g2, rfl, hr2, hg2, hb2, hz2⟩
      have HK : Hid (UV.apA L (A.take (m + 1)) = UV.apU M ⟨x0, x1, x2⟩ ∧ (a2 = none → c2' = 0) ∧ AaS w (UV.apU M ⟨x0, x1, x2⟩) (.slice a2 (UV.apU M ⟨x0, x1, x2⟩).length c2') w2) := ⟨HJ.out, hz2, g2, hr2, by have := HB.out.size; omega, HB.out.trans (hb2.mono HB.out.size)⟩
      clear HC HJ HB hr2 hg2 hb2 hz2 c0 c1 c2
      generalize UV.apU M ⟨x0, x1, x2⟩ = M2 at *
      go_wp2
      go_roundw
      case rel => exact ⟨m + 1, a2, c2', by omega, by go_num, by rw [HK.out.1], HK.out.2.1, by rw [HK.out.1]; exact HK.out.2.2⟩
      case measure => simp [intOf]; omega
    · have hme : m = n := by omega
      subst hme
      have hall : UV.apA L (A.take m) = UV.apA L A := by rw [← hn]; exact UV.apA_all L A
      have HE : Hid (ApN (UV.apA L A) w (.returned (.slice au (UV.apA L (A.take m)).length cu)) wr) := by
        rw [← hall]
        exact ⟨au, cu, gu, rfl, hru, hgu, hbu, hz⟩
      clear HI hru hgu hbu hz hall HQ HA HSM
      go_wp2
      go_ret
      exact HE.out

end Go.Proofs.Ytiabodhgjeoejaa
/-
  Leaves in a map: the map as a plain list of leaves, and what a look-up, a store and a delete make of it.
-/
namespace Go.Proofs.Ytiabodhgjeoejaa
open Go.RowKit Go.BigFrame Go.Sort Go.Maps
set_option linter.unusedVariables false
set_option linter.unusedSimpArgs false

/-- how a leaf in a map is read -/
def leR : Value → Option (DataW Le × List MemPlace)
  | .agg cs => match cs.toList with
    | [.string a, .string b] => some (.held ⟨a, b⟩, [])
    | _ => none
  | _ => none
theorem leR_mk (f : Le) : leR (.agg #[.string f.n, .string f.v]) = some (.held f, []) := rfl
theorem leR_inv {v : Value} {y : DataW Le × List MemPlace} (h : leR v = some y) : ∃ f : Le, v = .agg #[.string f.n, .string f.v] ∧ y = (.held f, []) := by
  unfold leR at h
  split at h
  · rename_i cs
    split at h
    · rename_i a b hcs
      simp at h
      refine ⟨⟨a, b⟩, ?_, h.symm⟩
      have : cs = #[.string a, .string b] := Array.toList_inj.1 hcs
      rw [this]
    · cases h
  · cases h

def kl9 (x : ByteArray) : Lit := .string x.data.toList
theorem kl9_inj {x y : ByteArray} (h : kl9 x = kl9 y) : x = y := by
  unfold kl9 at h
  simp at h
  exact F.toList_inj (by rw [F.toList_data, F.toList_data, h])
theorem key_9 (x : ByteArray) (hx : x.size ≤ 2000000) : keyOf Try.prog 9 (.string x) = some (kl9 x) := Go.WideMaps.keyOf_string_mk Try.underlying9 (by unfold maxLen; omega)
theorem law_9 : Keyed Try.prog 9 := string_keyed Try.underlying9
theorem zeroL (w : World) : (zeroValue 73).run Try.prog w = .ok (.agg #[.string ⟨#[]⟩, .string ⟨#[]⟩]) w := by kernel_rfl

/-- the map that lies in block b holds just the leaves of L -/
def LM (B : Nat) (w0 w : World) (b : Nat) (L : List Le) : Prop :=
  (∃ D : DataW Le, w.ownsMap Try.prog 9 leR b (Maps.size D) D ∧ (∀ x : ByteArray, Maps.has D (kl9 x) = true ↔ ∃ f ∈ L, f.n = x) ∧ (∀ f ∈ L, D.atKey (kl9 f.n) .nil = .held f) ∧ Maps.size D ≤ 100000)
    ∧ B ≤ b ∧ Below B w0 w ∧ B ≤ w.heap.size

theorem tightL {w : World} {b n : Nat} {D : DataW Le} (h : w.ownsMap Try.prog 9 leR b n D) : w.ownsMap Try.prog 9 leR b (Maps.size D) D := by
  obtain ⟨es, clock, hb, F, hs, rfl⟩ := h
  refine ⟨es, clock, hb, F, ?_, rfl⟩
  show es.size ≤ _
  rw [Maps.size_eq, length_sorted]
  simp
theorem LM.later {B : Nat} {w0 w w' : World} {b : Nat} {L : List Le} (h : LM B w0 w b L) (hb : Below w.heap.size w w') : LM B w0 w' b L := by
  obtain ⟨⟨D, ho, h1, h2, h3⟩, h5, h6, h7⟩ := h
  exact ⟨⟨D, ho.kept (row := none) (grown_below hb) (by simp), h1, h2, h3⟩, h5, h6.trans (hb.mono h7), Nat.le_trans h7 hb.size⟩
theorem LM.isMap {B : Nat} {w0 w : World} {b : Nat} {L : List Le} (h : LM B w0 w b L) : ∃ es c, w.heap[b]? = some (.map es c) := by
  obtain ⟨⟨D, ⟨es, c, hb, _⟩, _⟩, _⟩ := h
  exact ⟨es, c, hb⟩
theorem LM.made (B : Nat) (w0 w : World) (hb : Below B w0 w) (hB : B ≤ w.heap.size) : LM B w0 (w.alloc (.map #[] 0)) w.heap.size [] := by
  refine ⟨⟨.map [], World.ownsMap_made w _ _ _, fun x => ?_, fun f hf => absurd hf (by simp), by rw [Maps.size_eq]; simp⟩, hB, hb.alloc hB _, by simp; omega⟩
  rw [Maps.has_eq]
  simp

/-- a look-up, whether it is there -/
theorem LM.look {B : Nat} {w0 w : World} {b : Nat} {L : List Le} (h : LM B w0 w b L) (x : ByteArray) (hx : x.size ≤ 2000000) :
    ∃ f : Le, (Instr.lookup 100 (.map (some b)) (.string x) true).run Try.prog w = .ok (.tuple #[.agg #[.string f.n, .string f.v], .bool (LV.find L x).isSome]) w := by
  obtain ⟨⟨D, ho, h1, h2, h3⟩, _⟩ := h
  obtain ⟨v, ps, hrun, hv⟩ := ho.look_ok law_9 Try.underlying100 (zeroL w) (zd := .held ⟨⟨#[]⟩, ⟨#[]⟩⟩) (zp := []) rfl (key_9 x hx)
  obtain ⟨f, rfl, _⟩ := leR_inv hv
  refine ⟨f, ?_⟩
  rw [hrun]
  have : Maps.has D (kl9 x) = (LV.find L x).isSome := by
    rw [Bool.eq_iff_iff, h1 x]
    cases hf : LV.find L x with
    | none => simp only [Option.isSome_none, Bool.false_eq_true, iff_false]; rintro ⟨f, hf1, hf2⟩; exact LV.find_none hf f hf1 hf2
    | some g => simp only [Option.isSome_some, iff_true]; exact ⟨g, (LV.find_some hf).1, (LV.find_some hf).2⟩
  rw [this]

/-- a store -/
theorem LM.store {B : Nat} {w0 w : World} {b : Nat} {L : List Le} (h : LM B w0 w b L) (f : Le) (hx : f.n.size ≤ 2000000) (hsz : ∀ D : DataW Le, w.ownsMap Try.prog 9 leR b (Maps.size D) D → Maps.size D ≤ 99999) :
    ∃ w', (Instr.mapUpdate 100 (.map (some b)) (.string f.n) (.agg #[.string f.n, .string f.v])).run Try.prog w = .ok () w' ∧ LM B w0 w' b (LV.put L f) ∧ w.grownBy w' (some b) := by
  obtain ⟨⟨D, ho, h1, h2, h3⟩, h5, h6, h7⟩ := h
  have hs := hsz D ho
  obtain ⟨w', hrun, ho', hg⟩ := ho.update law_9 Try.underlying100 (by unfold maxLen; omega) (key_9 f.n hx) (leR_mk f)
  have hm := ho.isMap
  have hsp := ho'.size_le
  refine ⟨w', hrun, ⟨⟨D.put (kl9 f.n) (.held f), tightL ho', fun y => ?_, fun q hq => ?_, by omega⟩, h5, h6.grown hg h7 (fun k hk => by cases hk; exact h5), Nat.le_trans h7 hg.size⟩, hg⟩
  · by_cases e : y = f.n
    · subst e
      rw [Maps.has_put_same hm (show WideAt.IsKeyLit (kl9 f.n) from trivial)]
      exact ⟨fun _ => ⟨f, LV.mem_put.2 (.inl rfl), rfl⟩, fun _ => rfl⟩
    · rw [Maps.has_put_other (fun h => e (kl9_inj h)), h1 y]
      constructor
      · rintro ⟨q, hq, rfl⟩
        exact ⟨q, LV.mem_put.2 (.inr ⟨hq, e⟩), rfl⟩
      · rintro ⟨q, hq, rfl⟩
        rcases LV.mem_put.1 hq with rfl | ⟨h8, _⟩
        · exact absurd rfl e
        · exact ⟨q, h8, rfl⟩
  · rcases LV.mem_put.1 hq with rfl | ⟨h8, h9⟩
    · rw [Maps.atKey_put_same hm (show WideAt.IsKeyLit (kl9 q.n) from trivial)]
    · rw [Maps.atKey_put_other (fun h => h9 (kl9_inj h))]
      exact h2 q h8

/-- a delete -/
theorem LM.del {B : Nat} {w0 w : World} {b : Nat} {L : List Le} (h : LM B w0 w b L) (x : ByteArray) (hx : x.size ≤ 2000000) (ty : TypeId) :
    ∃ w', (Builtin.delete_ #[100, 9] ty #[.map (some b), .string x]).run Try.prog w = .ok (.tuple #[]) w' ∧ LM B w0 w' b (LV.wout L x) ∧ w.grownBy w' (some b) := by
  obtain ⟨⟨D, ho, h1, h2, h3⟩, h5, h6, h7⟩ := h
  obtain ⟨w', hrun, ho', ht⟩ := ho.drop law_9 Try.underlying100 (key_9 x hx) ty
  have hg := ht.grown
  have hsp := ho'.size_le
  refine ⟨w', hrun, ⟨⟨D.del (kl9 x), tightL ho', fun y => ?_, fun q hq => ?_, by omega⟩, h5, h6.grown hg h7 (fun k hk => by cases hk; exact h5), Nat.le_trans h7 hg.size⟩, hg⟩
  · by_cases e : y = x
    · subst e
      rw [Maps.has_del_same]
      constructor
      · intro h; cases h
      · rintro ⟨q, hq, rfl⟩
        exact absurd rfl (LV.mem_wout.1 hq).2
    · rw [Maps.has_del_other (fun h => e (kl9_inj h)), h1 y]
      constructor
      · rintro ⟨q, hq, rfl⟩
        exact ⟨q, LV.mem_wout.2 ⟨hq, e⟩, rfl⟩
      · rintro ⟨q, hq, rfl⟩
        exact ⟨q, (LV.mem_wout.1 hq).1, rfl⟩
  · obtain ⟨h8, h9⟩ := LV.mem_wout.1 hq
    rw [Maps.atKey_del_other (fun h => h9 (kl9_inj h))]
    exact h2 q h8

/-- there are as many keys as leaves -/
theorem LM.sized {B : Nat} {w0 w : World} {b : Nat} {L : List Le} (h : LM B w0 w b L) (hL : LV.Srt L) :
    ∃ D : DataW Le, w.ownsMap Try.prog 9 leR b (Maps.size D) D ∧ (∀ x : ByteArray, Maps.has D (kl9 x) = true ↔ ∃ f ∈ L, f.n = x) ∧ (∀ f ∈ L, D.atKey (kl9 f.n) .nil = .held f) ∧ Maps.size D = L.length := by
  obtain ⟨⟨D, ho, h1, h2, h3⟩, _⟩ := h
  obtain ⟨es, rfl, hp⟩ := ho.tidy law_9
  obtain ⟨es', e, hk⟩ := ho.keysOf
  have e2 : es = es' := by injection e
  subst e2
  have hperm : (L.map fun f => f.n.data.toList).Perm (strKeys (.map es)) := by
    refine perm_strKeys hp (fun q hq => ?_) ?_ (fun x => ?_)
    · obtain ⟨key, hkey⟩ := hk q hq
      obtain ⟨x, _, hx, _⟩ := Maps.keyOf_str Try.underlying9 hkey
      exact ⟨x, hx⟩
    · refine List.pairwise_map.2 (hL.imp fun {f g} hfg e => ?_)
      exact F.ltN_ne hfg (F.toList_inj (by rw [F.toList_data, F.toList_data]; exact e))
    · have := h1 ⟨x.toArray⟩
      have e3 : kl9 ⟨x.toArray⟩ = .string x := by simp [kl9]
      rw [e3] at this
      rw [this, List.mem_map]
      constructor
      · rintro ⟨f, hf, rfl⟩
        exact ⟨f, hf, ByteArray.ext (by simp)⟩
      · rintro ⟨f, hf, hx⟩
        exact ⟨f, hf, by rw [hx]⟩
  refine ⟨.map es, ho, h1, h2, ?_⟩
  have := hperm.length_eq
  simp [strKeys] at this
  rw [Maps.size_eq]
  omega
theorem LM.size {B : Nat} {w0 w : World} {b : Nat} {L : List Le} (h : LM B w0 w b L) (hL : LV.Srt L) (D : DataW Le) (ho : w.ownsMap Try.prog 9 leR b (Maps.size D) D) : Maps.size D = L.length := by
  obtain ⟨D', ho', _, _, hs⟩ := h.sized hL
  obtain ⟨es, c, hb, _, _, hD⟩ := ho
  obtain ⟨es', c', hb', _, _, hD'⟩ := ho'
  have e : es = es' ∧ c = c' := by
    rw [hb] at hb'
    injection hb' with h1
    injection h1 with h2 h3
    exact ⟨h2, h3⟩
  rw [hD, e.1, ← hD']
  exact hs
theorem LM.len {B : Nat} {w0 w : World} {b : Nat} {L : List Le} (h : LM B w0 w b L) (hL : LV.Srt L) (ty : TypeId) : (Builtin.len_ #[100] ty #[.map (some b)]).run Try.prog w = .ok (.int .i64 (L.length : Int)) w := by
  obtain ⟨D, ho, _, _, hs⟩ := h.sized hL
  have := ho.len Try.underlying100 ty
  rw [hs] at this
  exact this

/-- a store, in a plain region -/
theorem wp_leafStore {w : World} {ops : Array Oper} {rest : List Oper} {o : Oper} {a : Act} {Q : Exit → Act → World → Prop} (hgd : o.guard = none) (m x v : Operand) (hop : o.op = Op.mapUpdate 100 m x v)
    (b : Nat) (f : Le) (hm : a.eval m = .map (some b)) (hx : a.eval x = .string f.n) (hv : a.eval v = .agg #[.string f.n, .string f.v]) (B : Nat) (w0 : World) (L : List Le) (h : LM B w0 w b L) (hL : LV.LOk L) (hs : f.n.size ≤ 2000000)
    (hK : ∀ w', LM B w0 w' b (LV.put L f) → w.grownBy w' (some b) → wpList Try.prog ops Q rest (a.put o.dst undef) w') : wpList Try.prog ops Q (o :: rest) a w := by
  refine wpList_plain hgd fun K' hK' => ?_
  obtain ⟨w', hrun, r1, r2⟩ := h.store f hs (fun D ho => by have := h.size hL.2.2 D ho; have := hL.1; omega)
  unfold Oper.wp
  simp [execOp, hop, hm, hx, hv, hrun, Result.andThen]
  exact hK' _ _ (hK w' r1 r2)
/-- a delete -/
theorem wp_leafDel {w : World} {ops : Array Oper} {rest : List Oper} {o : Oper} {a : Act} {Q : Exit → Act → World → Prop} (hgd : o.guard = none) (m x : Operand) (hop : o.op = Op.call { callee := Callee.builtin Builtin.delete, args := #[m, x], argTypes := #[100, 9] })
    (b : Nat) (y : ByteArray) (hm : a.eval m = .map (some b)) (hx : a.eval x = .string y) (B : Nat) (w0 : World) (L : List Le) (h : LM B w0 w b L) (hs : y.size ≤ 2000000)
    (hK : ∀ w', LM B w0 w' b (LV.wout L y) → w.grownBy w' (some b) → wpList Try.prog ops Q rest (a.put o.dst (.tuple #[])) w') : wpList Try.prog ops Q (o :: rest) a w := by
  refine wpList_plain hgd fun K' hK' => ?_
  obtain ⟨w', hrun, r1, r2⟩ := h.del y hs o.type
  unfold Oper.wp
  simp [execOp, hop, resolve, invoke, builtin, hm, hx, hrun, Result.andThen]
  exact hK' _ _ (hK w' r1 r2)

namespace LV
theorem ok_take {L : List Le} (h : LOk L) (m : Nat) : LOk (L.take m) := ⟨by have := h.1; simp; omega, fun f hf => h.2.1 f (List.mem_of_mem_take hf), List.Pairwise.sublist (List.take_sublist m L) h.2.2⟩
theorem put_take {L : List Le} (h : LOk L) {m : Nat} (hm : m < L.length) : put (L.take m) L[m] = L.take (m + 1) := by
  refine srt_ext (srt_put (ok_take h m).2.2 _) (ok_take h (m + 1)).2.2 (fun f => ?_)
  rw [mem_put, List.take_succ_eq_append_getElem hm, List.mem_append, List.mem_singleton]
  constructor
  · rintro (h1 | ⟨h1, _⟩)
    · exact .inr h1
    · exact .inl h1
  · rintro (h1 | h1)
    · refine .inr ⟨h1, ?_⟩
      obtain ⟨j, hj, rfl⟩ := List.getElem_of_mem h1
      have hj' : j < m := by simp at hj; omega
      rw [List.getElem_take]
      exact F.ltN_ne (LOk.srt_at h.2.2 j m (by omega) hm hj')
    · exact .inl h1
end LV
theorem run_makeLeaves (n : Nat) (w : World) : (Instr.makeMap 100 (some (.int .i64 (n : Int)))).run Try.prog w = .ok (.map (some w.heap.size)) (w.alloc (.map #[] 0)) := by
  simp [Instr.makeMap, asInt, asIntOf, Result.andThen]

end Go.Proofs.Ytiabodhgjeoejaa
