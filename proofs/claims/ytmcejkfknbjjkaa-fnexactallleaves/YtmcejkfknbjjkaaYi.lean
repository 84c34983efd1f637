/-
  All parts together, in order: plain facts.
-/
import Derived.Test.YtmcejkfknbjjkaaLq
namespace Go.Proofs.Ytmcejkfknbjjkaa
set_option linter.unusedVariables false
namespace LV
open F (ltN ltN_eq ltN_irrefl ltN_trans ltN_tri ltN_ne ltN_asymm)

/-- are these leaves right when they are put in order? -/
def AllOk (A : List Le) : Prop := ∃ L : List Le, L.Perm A ∧ LOk L
open Classical in
noncomputable def allB (A : List Le) : Bool := decide (AllOk A)
open Classical in
noncomputable def allR (A : List Le) : List Le := if h : AllOk A then h.choose else []
theorem allB_yes {A : List Le} (h : AllOk A) : allB A = true := by simp [allB, h]
theorem allB_no {A : List Le} (h : ¬ AllOk A) : allB A = false := by simp [allB, h]
theorem allR_no {A : List Le} (h : ¬ AllOk A) : allR A = [] := by simp [allR, h]

def Dist (A : List Le) : Prop := A.Pairwise fun f g => f.n ≠ g.n
theorem Dist.perm {A B : List Le} (h : Dist A) (hp : A.Perm B) : Dist B := hp.pairwise h (fun {a b} h => Ne.symm h)
theorem srt_dist {L : List Le} (h : Srt L) : Dist L := List.Pairwise.imp (fun h => ltN_ne h) h
theorem AllOk.dist {A : List Le} (h : AllOk A) : Dist A := by
  obtain ⟨L, hp, hL⟩ := h
  exact (srt_dist hL.2.2).perm hp
theorem AllOk.mem {A : List Le} (h : AllOk A) {f : Le} (hf : f ∈ A) : leB f = true := by
  obtain ⟨L, hp, hL⟩ := h
  exact hL.2.1 f (hp.mem_iff.2 hf)
theorem AllOk.len {A : List Le} (h : AllOk A) : A.length ≤ 24 := by
  obtain ⟨L, hp, hL⟩ := h
  rw [← hp.length_eq]
  exact hL.1
theorem allR_yes {A L : List Le} (hp : L.Perm A) (hL : LOk L) : allR A = L := by
  have h : AllOk A := ⟨L, hp, hL⟩
  have e : allR A = h.choose := by simp [allR, h]
  have h1 := h.choose_spec
  rw [e]
  exact srt_ext h1.2.2.2 hL.2.2 (fun f => by rw [h1.1.mem_iff, hp.mem_iff])

/-- in order, though alike names may stand there -/
def Wsrt (L : List Le) : Prop := L.Pairwise fun f g => ltN g.n f.n = false
theorem wsrt_srt {L : List Le} (h : Wsrt L) (hd : Dist L) : Srt L := by
  have h2 : L.Pairwise fun f g => ltN g.n f.n = false ∧ f.n ≠ g.n := List.Pairwise.and h hd
  refine List.Pairwise.imp ?_ h2
  rintro a b ⟨h3, h4⟩
  rcases ltN_tri a.n b.n with h5 | h5 | h5
  · exact h5
  · exact absurd h5 h4
  · rw [h3] at h5; cases h5
theorem wsrt_ok {A L : List Le} (hp : L.Perm A) (hw : Wsrt L) : leavesB L = allB A := by
  by_cases h : AllOk A
  · rw [allB_yes h, leavesB_iff]
    have hd : Dist L := h.dist.perm hp.symm
    exact ⟨by rw [hp.length_eq]; exact h.len, fun f hf => h.mem (hp.mem_iff.1 hf), wsrt_srt hw hd⟩
  · rw [allB_no h, leavesB_no]
    exact fun hL => h ⟨L, hp, hL⟩

/-- O is what putting the leaves A one by one has made -/
def PutI (A O : List Le) : Prop := LOk O ∧ (O.Perm A ∨ (O.length < A.length ∧ ¬ Dist A))
theorem ok_none : LOk [] := ⟨by simp, fun f hf => by simp at hf, List.Pairwise.nil⟩
theorem PutI.zero : PutI [] [] := ⟨ok_none, .inl (List.Perm.refl _)⟩
theorem put_perm {O : List Le} {f : Le} (h : ∀ g ∈ O, g.n ≠ f.n) : (put O f).Perm (f :: O) := by
  have h1 := List.filter_append_perm (fun g : Le => ltN g.n f.n) O
  have e : O.filter (fun g => !ltN g.n f.n) = O.filter (fun g => ltN f.n g.n) := by
    refine List.filter_congr fun g hg => ?_
    rcases ltN_tri g.n f.n with h2 | h2 | h2
    · rw [h2, ltN_asymm h2]; rfl
    · exact absurd h2 (h g hg)
    · rw [h2, ltN_asymm h2]; rfl
  rw [e] at h1
  unfold put
  exact List.perm_middle.trans (h1.cons f)
theorem dist_app {A B : List Le} (h : Dist (A ++ B)) : Dist A := (List.pairwise_append.1 h).1
theorem PutI.step {A O : List Le} {f : Le} (h : PutI A O) (hb : putB O f = true) : PutI (A ++ [f]) (put O f) := by
  refine ⟨putB_ok hb, ?_⟩
  obtain ⟨hO, hp | ⟨hl, hd⟩⟩ := h
  · cases hq : find O f.n with
    | none => exact .inl (((put_perm (find_none hq)).trans (hp.cons f)).trans (List.perm_append_singleton f A).symm)
    | some g =>
      right
      rw [len_put_in hO.2.2 hq rfl]
      refine ⟨by rw [hp.length_eq]; simp, fun hd => ?_⟩
      obtain ⟨h1, h2⟩ := find_some hq
      exact (List.pairwise_append.1 hd).2.2 g (hp.mem_iff.1 h1) f (by simp) h2
  · right
    refine ⟨?_, fun h => hd (dist_app h)⟩
    have := len_wout_le O f.n
    rw [len_put, List.length_append]
    simp
    omega
theorem PutI.stop {A O B : List Le} {f : Le} (h : PutI A O) (hb : putB O f = false) : ¬ AllOk (A ++ f :: B) := by
  intro hA
  obtain ⟨hO, hp | ⟨hl, hd⟩⟩ := h
  · have hf := hA.mem (f := f) (by simp)
    have hl := hA.len
    unfold putB at hb
    rw [leavesB_iff.2 hO, hf] at hb
    simp only [Bool.true_and, Bool.or_eq_false_iff, decide_eq_false_iff_not] at hb
    have := hp.length_eq
    rw [List.length_append] at hl
    simp at hl
    omega
  · exact hd (dist_app hA.dist)
theorem PutI.done {A O : List Le} (h : PutI A O) (hl : O.length = A.length) : AllOk A ∧ allR A = O := by
  obtain ⟨hO, hp | ⟨hl2, hd⟩⟩ := h
  · exact ⟨⟨O, hp, hO⟩, allR_yes hp hO⟩
  · omega
theorem PutI.short {A O : List Le} (h : PutI A O) (hl : O.length ≠ A.length) : ¬ AllOk A := by
  obtain ⟨hO, hp | ⟨hl2, hd⟩⟩ := h
  · exact absurd hp.length_eq hl
  · exact fun hA => hd hA.dist
theorem PutI.len {A O : List Le} (h : PutI A O) : O.length ≤ A.length := by
  obtain ⟨hO, hp | ⟨hl2, hd⟩⟩ := h
  · exact Nat.le_of_eq hp.length_eq
  · omega

/-- cut by a number below N, all parts together are all -/
theorem parts_perm (s : Le → Nat) (L : List Le) : ∀ N, ((List.range N).flatMap fun i => L.filter fun f => decide (s f = i)).Perm (L.filter fun f => decide (s f < N))
  | 0 => by simp
  | N + 1 => by
    rw [List.range_succ, List.flatMap_append, List.flatMap_singleton]
    have h1 := List.filter_append_perm (fun f : Le => decide (s f < N)) (L.filter fun f => decide (s f < N + 1))
    rw [List.filter_filter, List.filter_filter] at h1
    have e1 : (L.filter fun f => decide (s f < N) && decide (s f < N + 1)) = L.filter fun f => decide (s f < N) := List.filter_congr fun f _ => by
      by_cases h : s f < N
      · rw [decide_eq_true h, decide_eq_true (by omega)]; rfl
      · rw [decide_eq_false h]; rfl
    have e2 : (L.filter fun f => !decide (s f < N) && decide (s f < N + 1)) = L.filter fun f => decide (s f = N) := List.filter_congr fun f _ => by
      by_cases h : s f < N
      · rw [decide_eq_true h, decide_eq_false (show ¬ s f = N by omega)]; rfl
      · by_cases h2 : s f = N
        · rw [decide_eq_false h, decide_eq_true h2, decide_eq_true (by omega)]; rfl
        · rw [decide_eq_false h, decide_eq_false h2, decide_eq_false (by omega)]; rfl
    rw [e1, e2] at h1
    exact ((parts_perm s L N).append_right _).trans h1
theorem parts_all (s : Le → Nat) (L : List Le) (N : Nat) (h : ∀ f ∈ L, s f < N) : ((List.range N).flatMap fun i => L.filter fun f => decide (s f = i)).Perm L := by
  have h1 := parts_perm s L N
  rw [List.filter_eq_self.2 (fun f hf => by simpa using h f hf)] at h1
  exact h1
end LV

end Go.Proofs.Ytmcejkfknbjjkaa
