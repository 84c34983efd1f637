/-
  What was written as a proof is read back; a bucket says what its list says; a proof's hash is the root.
-/
import Derived.Test.YtojadcjoniejaaaGreatDoorPkO
import Derived.Test.YtojadcjoniejaaaGreatDoorPkN
import Derived.Test.YtojadcjoniejaaaGreatDoorPv
import Derived.Test.YtojadcjoniejaaaGreatDoorPkE
namespace Go.Proofs.YtojadcjoniejaaaGreatDoor
open Go.RowKit
set_option linter.unusedVariables false
set_option linter.unusedSimpArgs false

namespace LV
theorem leavesF_post (s : ByteArray) (post : List UInt8) : ∀ (L : List Le) (pre : List UInt8), (∀ f ∈ L, f.n.size ≤ 20000 ∧ f.v.size ≤ 20000) → s.data.toList = pre ++ (ltL L ++ post) → leavesF s L.length pre.length = some (L, pre.length + (ltL L).length)
  | [], pre, _, h => by simp [leavesF, ltL]
  | f :: r, pre, hs, h => by
    have e : s.data.toList = pre ++ (leL f ++ (ltL r ++ post)) := by rw [h]; simp [ltL]
    have h1 := leafAt_back s f pre (ltL r ++ post) (hs f (by simp)).1 (hs f (by simp)).2 e
    have h2 := leavesF_post s post r (pre ++ leL f) (fun g hg => hs g (by simp [hg])) (by rw [e]; simp)
    rw [List.length_append] at h2
    rw [List.length_cons, leavesF, h1]
    simp only
    rw [h2]
    simp [ltL]
    omega
theorem rawL_post {s : ByteArray} {L : List Le} {post : List UInt8} (hL : LOk L) (h : s.data.toList = lvL L ++ post) : rawL s 0 = some (L, (lvL L).length) := by
  have h1 : s.data.toList = [] ++ (M.varL L.length ++ (ltL L ++ post)) := by rw [h]; simp [lvL]
  have hr : M.readVar s.data.toList 0 = some (L.length, 0 + (M.varL L.length).length) := by
    rw [h1]
    exact readVar_back [] _ L.length (by have := hL.1; omega)
  rw [Nat.zero_add] at hr
  have h24 := hL.1
  rw [rawL_at hr (by omega)]
  have h2 := leavesF_post s post L (M.varL L.length) (fun f hf => by have := leB_sizes (hL.2.1 f hf); omega) (by rw [h]; simp [lvL])
  rw [h2]
  simp [lvL]
end LV
theorem piece_back {s a : ByteArray} {pre post : List UInt8} {y : Nat} (h : s.data.toList = pre ++ (a.data.toList ++ post)) (hy : a.size = y) : piece s pre.length y = a := by
  apply LV.bytes_eq
  unfold piece
  rw [LV.extract_cut, h]
  unfold LV.cutL
  have htl := LV.toList_len a
  have e2 : pre.length + y - pre.length = a.data.toList.length := by omega
  rw [List.drop_left, e2]
  exact List.take_left
theorem sdp_cons (s : ByteArray) (y p k : Nat) : sdp s y p (k + 1) = piece s p y :: sdp s y (p + y) k := by
  unfold sdp
  rw [List.range_succ_eq_map, List.map_cons, List.map_map, Nat.zero_mul, Nat.add_zero]
  congr 1
  apply List.map_congr_left
  intro i _
  show piece s (p + (i + 1) * y) y = piece s (p + y + i * y) y
  have e : p + (i + 1) * y = p + y + i * y := by rw [Nat.add_mul, Nat.one_mul]; omega
  rw [e]
theorem sdp_back (s : ByteArray) (y : Nat) : ∀ (S : List ByteArray) (pre : List UInt8), (∀ t ∈ S, t.size = y) → s.data.toList = pre ++ (S.map (·.data.toList)).flatten → sdp s y pre.length S.length = S
  | [], pre, _, _ => rfl
  | a :: r, pre, hs, h => by
    have e : s.data.toList = pre ++ (a.data.toList ++ (r.map (·.data.toList)).flatten) := by rw [h]; simp
    have ha := hs a (by simp)
    have htl := LV.toList_len a
    have h2 := sdp_back s y r (pre ++ a.data.toList) (fun t ht => hs t (by simp [ht])) (by rw [e]; simp)
    rw [List.length_append, htl, ha] at h2
    rw [List.length_cons, sdp_cons, piece_back e ha, h2]
theorem flat_size {S : List ByteArray} {y : Nat} (hs : ∀ t ∈ S, t.size = y) : (S.map (·.data.toList)).flatten.length = S.length * y := by
  induction S with
  | nil => simp
  | cons a r ih =>
    have htl := LV.toList_len a
    have ha := hs a (by simp)
    have := ih (fun t ht => hs t (by simp [ht]))
    simp only [List.map_cons, List.flatten_cons, List.length_append, List.length_cons]
    rw [this, htl, ha, Nat.add_mul, Nat.one_mul]
    omega
/-- **what was written is read back** -/
theorem rp_back {B : List Le} {S : List ByteArray} {y : Nat} (hB : LV.LOk B) (hS : ∀ t ∈ S, t.size = y) (h8 : S.length ≤ 8) (hy : 1 ≤ y ∧ y ≤ 32) :
    pxB B S (y : Int) = true ∧ rpOk (pxT B S (y : Int)) (y : Int) = true ∧ rpL (pxT B S (y : Int)) (y : Int) = B ∧ rpS (pxT B S (y : Int)) (y : Int) = S := by
  have hl : LV.leavesB B = true := LV.leavesB_iff.2 hB
  have hb : pxB B S (y : Int) = true := by
    unfold pxB sidB
    rw [hl, decide_eq_true h8, wideB_good fun j hj => ?_, decide_eq_true (by omega)]
    · rfl
    · rw [hS _ (List.getElem_mem _)]
  have e : (pxT B S (y : Int)).data.toList = LV.lvL B ++ (M.varL S.length ++ (S.map (·.data.toList)).flatten) := by
    unfold pxT joinT
    rw [if_pos hb, lvT_yes hl, ByteArray.data_append, ByteArray.data_append, Array.toList_append, Array.toList_append]
    show LV.lvL B ++ M.varL S.length ++ (S.map (·.data.toList)).flatten = _
    rw [List.append_assoc]
  generalize pxT B S (y : Int) = t at *
  have h1 := LV.rawL_post hB e
  have h2 : M.readVar t.data.toList (LV.lvL B).length = some (S.length, (LV.lvL B).length + (M.varL S.length).length) := by
    rw [e]
    exact LV.readVar_back _ _ S.length (by omega)
  have hsz : (LV.lvL B).length + (M.varL S.length).length + S.length * y = t.size := by
    have h3 := LV.toList_len t
    rw [← h3, e, List.length_append, List.length_append, flat_size hS]
    omega
  have hsd := sdp_back t y S (LV.lvL B ++ M.varL S.length) hS (by rw [e, List.append_assoc])
  rw [List.length_append] at hsd
  have hok : rpOk t (y : Int) = true := by
    unfold rpOk
    rw [h1]
    dsimp only
    rw [h2]
    dsimp only
    rw [hl, Int.toNat_natCast, decide_eq_true (by omega), decide_eq_true h8, decide_eq_true hsz]
    rfl
  refine ⟨hb, hok, ?_, ?_⟩
  · unfold rpL
    rw [h1]
    dsimp only
    rw [hok]
    rfl
  · unfold rpS
    rw [h1]
    dsimp only
    rw [h2]
    dsimp only
    rw [hok, Int.toNat_natCast, hsd]
    rfl
theorem find_bk {L : List Le} {nm : ByteArray} : LV.find (bkL L (idxN nm)) nm = LV.find L nm := by
  unfold LV.find bkL
  induction L with
  | nil => rfl
  | cons f r ih =>
    by_cases hn : f.n = nm
    · have hb : bkP (idxN nm : Int) f = true := by unfold bkP; rw [hn]; simp
      rw [List.filter_cons_of_pos hb, List.find?_cons_of_pos (by simpa using hn), List.find?_cons_of_pos (by simpa using hn)]
    · rw [List.find?_cons_of_neg (by simpa using hn), ← ih]
      by_cases hb : bkP (idxN nm : Int) f = true
      · rw [List.filter_cons_of_pos hb, List.find?_cons_of_neg (by simpa using hn)]
      · rw [List.filter_cons_of_neg hb]
theorem get_bk (L : List Le) (nm : ByteArray) : LV.getV (bkL L (idxN nm)) nm = LV.getV L nm ∧ LV.getB (bkL L (idxN nm)) nm = LV.getB L nm := by
  unfold LV.getV LV.getB
  rw [find_bk]
  exact ⟨rfl, rfl⟩
theorem ph_root {L : List Le} {nm : ByteArray} {x : Int} (hn : okB nameB nm = true) (h : 1 ≤ x ∧ x ≤ 32) (hL : LV.LOk L) : phA nm (bkL L (idxN nm)) (sdL x (idxN nm) L 8) x = trB x 8 0 L ∧ (ptA nm (bkL L (idxN nm)) (sdL x (idxN nm) L 8) x).length = 9 := by
  have hp := pf_right hn h hL
  have e : ptA nm (bkL L (idxN nm)) (sdL x (idxN nm) L 8) x = chL (idxN nm) x (btB (bkL L (idxN nm))) (sdL x (idxN nm) L 8) 9 := by
    unfold ptA
    rw [if_pos hp, sdL_len]
  refine ⟨?_, by rw [e, chL_len]⟩
  unfold phA
  rw [e, lastH_at (k := 8) (by rw [chL_len]), chL_at, chain_fold (idx_255 nm) h _ (by rw [sdL_len]; omega) (fun s hs => by rw [sd_size h hL _ 8 s hs]; omega) 8 (by rw [sdL_len]; omega), List.take_of_length_le (by rw [sdL_len]; omega)]
  exact root_chain h hL _ (idx_255 nm)

end Go.Proofs.YtojadcjoniejaaaGreatDoor
