/-
  What a disk that has lost is: right, wholly kept, each text a beginning; it loses nothing more.
-/
import Derived.Test.YtbmlphlknolieaaLs
namespace Go.Proofs.Ytbmlphlknolieaa
set_option linter.unusedVariables false

namespace F
theorem ext_size (t : ByteArray) (c : Int) (h0 : 0 ≤ c) (h1 : c ≤ t.size) : (t.extract 0 c.toNat).size = c.toNat := by
  rw [ByteArray.size_extract]
  omega
theorem ext_all (t : ByteArray) : t.extract 0 t.size = t := ByteArray.extract_zero_size
theorem ext_ext (t : ByteArray) (a b : Nat) (h : a ≤ b) : (t.extract 0 b).extract 0 a = t.extract 0 a := by
  rw [ByteArray.extract_extract]
  congr 1 <;> omega
theorem cutN_ge (f : Fl) (n : Int) : f.k ≤ cutN f n := by
  unfold cutN
  split <;> omega
theorem cutF_ok {f : Fl} (h : flB f = true) (n : Int) : flB (cutF f n) = true ∧ (cutF f n).k = (cutF f n).t.size := by
  obtain ⟨h0, h1⟩ := cutN_in h n
  have hs := ext_size f.t (cutN f n) h0 h1
  obtain ⟨q1, q2, q3, q4⟩ := flB_iff.1 h
  refine ⟨flB_iff.2 ⟨q1, ?_, h0, ?_⟩, ?_⟩
  · show (f.t.extract 0 (cutN f n).toNat).size ≤ 20000
    omega
  · show cutN f n ≤ ((f.t.extract 0 (cutN f n).toNat).size : Int)
    omega
  · show cutN f n = ((f.t.extract 0 (cutN f n).toNat).size : Int)
    omega
theorem cutL_ok {L : List Fl} (h : DOk L) (Q : List Int) : DOk (cutL L Q) ∧ ∀ f ∈ cutL L Q, f.k = f.t.size := by
  have hl := cutL_len L Q
  have hat : ∀ j (hj : j < (cutL L Q).length), flB (cutL L Q)[j] = true ∧ (cutL L Q)[j].k = (cutL L Q)[j].t.size ∧ (cutL L Q)[j].n = (L[j]'(by omega)).n := fun j hj => by
    have e := cutL_at L Q j hj (by omega)
    have := cutF_ok (h.2.1 _ (List.getElem_mem (show j < L.length by omega))) (Q.getD j 0)
    rw [e]
    exact ⟨this.1, this.2, rfl⟩
  refine ⟨⟨by rw [hl]; exact h.1, fun f hf => ?_, srt_of_adj fun j hj h0 => ?_⟩, fun f hf => ?_⟩
  · obtain ⟨j, hj, rfl⟩ := List.mem_iff_getElem.1 hf
    exact (hat j hj).1
  · rw [(hat j hj).2.2, (hat (j - 1) (by omega)).2.2]
    exact DOk.srt_at h.2.2 _ _ _ _ (by omega)
  · obtain ⟨j, hj, rfl⟩ := List.mem_iff_getElem.1 hf
    exact (hat j hj).2.1
theorem cut_kept {f : Fl} (h : f.k = f.t.size) : cutF f 0 = f := by
  obtain ⟨n, t, k⟩ := f
  simp only at h
  subst h
  have e : cutN ⟨n, t, (t.size : Int)⟩ 0 = (t.size : Int) := by
    unfold cutN
    simp only
    split <;> split <;> omega
  unfold cutF
  rw [e]
  simp only [Int.toNat_natCast, ext_all]
theorem cutL_kept {L : List Fl} (h : ∀ f ∈ L, f.k = f.t.size) : cutL L [] = L := by
  refine List.ext_getElem (cutL_len L []) fun j h1 h2 => ?_
  rw [cutL_at L [] j h1 h2]
  exact cut_kept (h _ (List.getElem_mem h2))
/-- the name stays, the text is a beginning, what was kept is in it -/
def Bg (x y : Fl) : Prop := y.n = x.n ∧ 0 ≤ x.k ∧ x.k ≤ x.t.size ∧ y.t.size ≤ x.t.size ∧ x.t.extract 0 y.t.size = y.t ∧ x.k.toNat ≤ y.t.size ∧ y.t.extract 0 x.k.toNat = x.t.extract 0 x.k.toNat
theorem cut_bg {L : List Fl} (h : DOk L) (Q : List Int) (j : Nat) (h1 : j < (cutL L Q).length) (h2 : j < L.length) : Bg L[j] (cutL L Q)[j] := by
  rw [cutL_at L Q j h1 h2]
  have hf := h.2.1 _ (List.getElem_mem h2)
  generalize L[j] = f at *
  generalize Q.getD j 0 = n
  obtain ⟨h0, h1'⟩ := cutN_in hf n
  have hg := cutN_ge f n
  have hs := ext_size f.t (cutN f n) h0 h1'
  obtain ⟨q1, q2, q3, q4⟩ := flB_iff.1 hf
  have e : (cutF f n).t = f.t.extract 0 (cutN f n).toNat := rfl
  refine ⟨rfl, q3, q4, ?_, ?_, ?_, ?_⟩
  · rw [e]; omega
  · rw [e, hs]
  · rw [e]; omega
  · rw [e]; exact ext_ext _ _ _ (by omega)
theorem lose_right {L : List Fl} (h : DOk L) (Q : List Int) : loseR L Q = cutL L Q ∧ diskB L = true := by
  have := diskB_iff.2 h
  exact ⟨by unfold loseR; rw [if_pos this], this⟩
end F
end Go.Proofs.Ytbmlphlknolieaa
