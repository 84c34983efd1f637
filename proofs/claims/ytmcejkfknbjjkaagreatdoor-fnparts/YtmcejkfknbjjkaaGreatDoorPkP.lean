/-
  Texts laid together: Ya, Yb, Yi, Yc, Yd, Ye, Yf, Yg, Yh, Yp.
-/
import Derived.Test.YtmcejkfknbjjkaaGreatDoorPkJ
import Derived.Test.YtmcejkfknbjjkaaGreatDoorPkE
import Derived.Deep.RegionHeld3
import Derived.Test.YtmcejkfknbjjkaaGreatDoorPkK
import Derived.Test.YtmcejkfknbjjkaaGreatDoorPkL
import Derived.Test.YtmcejkfknbjjkaaGreatDoorPkG
import Derived.Test.YtmcejkfknbjjkaaGreatDoorShelf
import Derived.Test.YtmcejkfknbjjkaaGreatDoorPkM
/-
  Which shard a name is in: the program's answer and the specification's.
-/
namespace Go.Proofs.YtmcejkfknbjjkaaGreatDoor
open Go.RowKit Go.BigFrame
set_option linter.unusedVariables false
set_option linter.unusedSimpArgs false

/-- the k highest bits of a byte -/
def shQ (N : Nat) (k : Int) : Nat := if 0 ≤ k ∧ k ≤ 2 then N / 2 ^ (8 - k).toNat else 0
theorem shQ_0 (N : Nat) : shQ N 0 = N / 256 := rfl
theorem shQ_1 (N : Nat) : shQ N 1 = N / 128 := rfl
theorem shQ_2 (N : Nat) : shQ N 2 = N / 64 := rfl
/-- the k highest bits of a name's index -/
def shN (t : ByteArray) (k : Int) : Nat := shQ (idxN t) k
/-- how many shards there are -/
def shC (k : Int) : Nat := if 0 ≤ k ∧ k ≤ 2 then 2 ^ k.toNat else 1
theorem idxN_lt (t : ByteArray) : idxN t < 256 := (byte0 (digB t)).toNat_lt
theorem shC_cases (k : Int) : shC k = 1 ∨ shC k = 2 ∨ shC k = 4 := by
  unfold shC
  split
  · rename_i h
    have : k = 0 ∨ k = 1 ∨ k = 2 := by omega
    rcases this with rfl | rfl | rfl
    · exact .inl rfl
    · exact .inr (.inl rfl)
    · exact .inr (.inr rfl)
  · exact .inl rfl
theorem shQ_lt (N : Nat) (k : Int) (hN : N < 256) : shQ N k < shC k := by
  unfold shQ shC
  split
  · rename_i h
    have : k = 0 ∨ k = 1 ∨ k = 2 := by omega
    rcases this with rfl | rfl | rfl
    · show N / 256 < 1; omega
    · show N / 128 < 2; omega
    · show N / 64 < 4; omega
  · omega
theorem shN_lt (t : ByteArray) (k : Int) : shN t k < shC k := shQ_lt _ k (idxN_lt t)

theorem splitOk_any (k : Int) (w : World) : Calls Tryz.prog 37 #[.int .i64 k] w fun e w' => e = .returned (.bool (decide (0 ≤ k ∧ k ≤ 2))) ∧ w' = w := by
  by_cases h1 : 0 ≤ k
  · by_cases h2 : k ≤ 2
    · go_enter Tryz.func37, Tryz.ntmps37
      go_wp2
      go_ret
      exact ⟨by simp [h1, h2], rfl⟩
    · go_enter Tryz.func37, Tryz.ntmps37
      go_wp2
      go_ret
      exact ⟨by simp [h2], rfl⟩
  · go_enter Tryz.func37, Tryz.ntmps37
    go_wp2
    go_ret
    exact ⟨by simp; omega, rfl⟩

theorem shardCount_any (k : Int) (w : World) : Calls Tryz.prog 34 #[.int .i64 k] w fun e w' => e = .returned (.int .i64 (shC k : Int)) ∧ w' = w := by
  by_cases h : 0 ≤ k ∧ k ≤ 2
  · have hd : decide (0 ≤ k ∧ k ≤ 2) = true := by simpa using h
    have : k = 0 ∨ k = 1 ∨ k = 2 := by omega
    rcases this with rfl | rfl | rfl
    all_goals
      go_enter Tryz.func34, Tryz.ntmps34
      go_wp2_with fail
      refine (splitOk_any _ _).mono ?_
      rintro e w1 ⟨rfl, rfl⟩
      rw [hd]
      go_wp2
      go_ret
      exact ⟨rfl, rfl⟩
  · have hd : decide (0 ≤ k ∧ k ≤ 2) = false := by simpa using h
    have e1 : shC k = 1 := by unfold shC; rw [if_neg h]
    rw [e1]
    clear h e1
    go_enter Tryz.func34, Tryz.ntmps34
    go_wp2_with fail
    refine (splitOk_any _ _).mono ?_
    rintro e w1 ⟨rfl, rfl⟩
    rw [hd]
    go_wp2
    go_ret
    exact ⟨rfl, rfl⟩

theorem ShardOf_any (t : ByteArray) (k : Int) (w : World) (ht : t.size ≤ 1048576) (hT : Tb w) :
    Calls Tryz.prog 9 #[.string t, .int .i64 k] w fun e w' => e = .returned (.int .i64 (shN t k : Int)) ∧ Below w.heap.size w w' := by
  by_cases h : 0 ≤ k ∧ k ≤ 2
  · have hd : decide (0 ≤ k ∧ k ≤ 2) = true := by simpa using h
    have hc := IndexOf_any t w ht hT.1 hT.2
    change Calls Tryz.prog 38 _ _ (fun e w' => e = .returned (.int .i64 (idxN t : Int)) ∧ Below _ _ w') at hc
    have hlt := idxN_lt t
    have : k = 0 ∨ k = 1 ∨ k = 2 := by omega
    have e0 : shN t 0 = idxN t / 256 := shQ_0 _
    have e1 : shN t 1 = idxN t / 128 := shQ_1 _
    have e2 : shN t 2 = idxN t / 64 := shQ_2 _
    clear hT h
    rcases this with rfl | rfl | rfl
    · rw [e0]
      clear e0 e1 e2
      generalize idxN t = N at *
      go_enter Tryz.func9, Tryz.ntmps9
      go_wp2_with fail
      refine (splitOk_any _ _).mono ?_
      rintro e w1 ⟨rfl, rfl⟩
      rw [hd]
      go_wp2_with fail
      refine hc.mono ?_
      rintro e w2 ⟨rfl, hb⟩
      go_wp2
      go_ret
      exact ⟨by simp, hb⟩
    · rw [e1]
      clear e0 e1 e2
      generalize idxN t = N at *
      go_enter Tryz.func9, Tryz.ntmps9
      go_wp2_with fail
      refine (splitOk_any _ _).mono ?_
      rintro e w1 ⟨rfl, rfl⟩
      rw [hd]
      go_wp2_with fail
      refine hc.mono ?_
      rintro e w2 ⟨rfl, hb⟩
      go_wp2
      go_ret
      exact ⟨by simp, hb⟩
    · rw [e2]
      clear e0 e1 e2
      generalize idxN t = N at *
      go_enter Tryz.func9, Tryz.ntmps9
      go_wp2_with fail
      refine (splitOk_any _ _).mono ?_
      rintro e w1 ⟨rfl, rfl⟩
      rw [hd]
      go_wp2_with fail
      refine hc.mono ?_
      rintro e w2 ⟨rfl, hb⟩
      go_wp2
      go_ret
      exact ⟨by simp, hb⟩
  · have hd : decide (0 ≤ k ∧ k ≤ 2) = false := by simpa using h
    have e1 : shN t k = 0 := by unfold shN shQ; rw [if_neg h]
    rw [e1]
    clear h e1
    go_enter Tryz.func9, Tryz.ntmps9
    go_wp2_with fail
    refine (splitOk_any _ _).mono ?_
    rintro e w1 ⟨rfl, rfl⟩
    rw [hd]
    go_wp2
    go_ret
    exact ⟨rfl, Below.refl _ _⟩

end Go.Proofs.YtmcejkfknbjjkaaGreatDoor
/-
  The leaves of a shard: the specification's answer.
-/
namespace Go.Proofs.YtmcejkfknbjjkaaGreatDoor
open Go.RowKit Go.BigFrame Go.Sort
set_option linter.unusedVariables false
set_option linter.unusedSimpArgs false

/-- is it in this shard? -/
def shP (k i : Int) (f : Le) : Bool := decide ((shN f.n k : Int) = i)
def shL (L : List Le) (k i : Int) : List Le := L.filter (shP k i)
theorem sh_step {L : List Le} {m : Nat} (k i : Int) (hm : m < L.length) : (L.take (m + 1)).filter (shP k i) = if shP k i L[m] = true then (L.take m).filter (shP k i) ++ [L[m]] else (L.take m).filter (shP k i) := LV.filt_step _ hm
theorem shL_none {L : List Le} {k i : Int} (h : i < 0 ∨ (shC k : Int) ≤ i) : shL L k i = [] := by
  unfold shL
  rw [List.filter_eq_nil_iff]
  intro f _
  have := shN_lt f.n k
  unfold shP
  simp
  omega
theorem shL_small {L : List Le} {k i : Int} (h : SmallL L) : SmallL (shL L k i) := fun f hf => h f (List.mem_filter.1 hf).1
theorem shL_len (L : List Le) (k i : Int) : (shL L k i).length ≤ L.length := List.length_filter_le _ _

def YbR (w : World) (L : List Le) (k i : Int) (u j : Value) (wr : World) : Prop := ∃ m : Nat, m ≤ L.length ∧ j = .int .i64 m ∧ Hid (OL w.heap.size w wr u ((L.take m).filter (shP k i)))

end Go.Proofs.YtmcejkfknbjjkaaGreatDoor
/-
  All parts together, in order: plain facts.
-/
namespace Go.Proofs.YtmcejkfknbjjkaaGreatDoor
set_option linter.unusedVariables false
namespace LV
open F (ltN ltN_eq ltN_irrefl ltN_trans ltN_tri ltN_ne ltN_asymm)

/-- are these leaves right when they are put in order? -/
def AllOk (A : List Le) : Prop := ∃ L : List Le, L.Perm A ∧ LOk L
open Classical in
noncomputable def allB (A : List Le) : Bool := decide (AllOk A)
open Classical in
noncomputable def allR (A : List Le) : List Le := if h : AllOk A then h.choose else []
theorem allB_yes {A : List Le} (h : AllOk A) : allB A = true := by simp [allB, h]
theorem allB_no {A : List Le} (h : ¬ AllOk A) : allB A = false := by simp [allB, h]
theorem allR_no {A : List Le} (h : ¬ AllOk A) : allR A = [] := by simp [allR, h]

def Dist (A : List Le) : Prop := A.Pairwise fun f g => f.n ≠ g.n
theorem Dist.perm {A B : List Le} (h : Dist A) (hp : A.Perm B) : Dist B := hp.pairwise h (fun {a b} h => Ne.symm h)
theorem srt_dist {L : List Le} (h : Srt L) : Dist L := List.Pairwise.imp (fun h => ltN_ne h) h
theorem AllOk.dist {A : List Le} (h : AllOk A) : Dist A := by
  obtain ⟨L, hp, hL⟩ := h
  exact (srt_dist hL.2.2).perm hp
theorem AllOk.mem {A : List Le} (h : AllOk A) {f : Le} (hf : f ∈ A) : leB f = true := by
  obtain ⟨L, hp, hL⟩ := h
  exact hL.2.1 f (hp.mem_iff.2 hf)
theorem AllOk.len {A : List Le} (h : AllOk A) : A.length ≤ 24 := by
  obtain ⟨L, hp, hL⟩ := h
  rw [← hp.length_eq]
  exact hL.1
theorem allR_yes {A L : List Le} (hp : L.Perm A) (hL : LOk L) : allR A = L := by
  have h : AllOk A := ⟨L, hp, hL⟩
  have e : allR A = h.choose := by simp [allR, h]
  have h1 := h.choose_spec
  rw [e]
  exact srt_ext h1.2.2.2 hL.2.2 (fun f => by rw [h1.1.mem_iff, hp.mem_iff])

/-- in order, though alike names may stand there -/
def Wsrt (L : List Le) : Prop := L.Pairwise fun f g => ltN g.n f.n = false
theorem wsrt_srt {L : List Le} (h : Wsrt L) (hd : Dist L) : Srt L := by
  have h2 : L.Pairwise fun f g => ltN g.n f.n = false ∧ f.n ≠ g.n := List.Pairwise.and h hd
  refine List.Pairwise.imp ?_ h2
  rintro a b ⟨h3, h4⟩
  rcases ltN_tri a.n b.n with h5 | h5 | h5
  · exact h5
  · exact absurd h5 h4
  · rw [h3] at h5; cases h5
theorem wsrt_ok {A L : List Le} (hp : L.Perm A) (hw : Wsrt L) : leavesB L = allB A := by
  by_cases h : AllOk A
  · rw [allB_yes h, leavesB_iff]
    have hd : Dist L := h.dist.perm hp.symm
    exact ⟨by rw [hp.length_eq]; exact h.len, fun f hf => h.mem (hp.mem_iff.1 hf), wsrt_srt hw hd⟩
  · rw [allB_no h, leavesB_no]
    exact fun hL => h ⟨L, hp, hL⟩

/-- O is what putting the leaves A one by one has made -/
def PutI (A O : List Le) : Prop := LOk O ∧ (O.Perm A ∨ (O.length < A.length ∧ ¬ Dist A))
theorem ok_none : LOk [] := ⟨by simp, fun f hf => by simp at hf, List.Pairwise.nil⟩
theorem PutI.zero : PutI [] [] := ⟨ok_none, .inl (List.Perm.refl _)⟩
theorem put_perm {O : List Le} {f : Le} (h : ∀ g ∈ O, g.n ≠ f.n) : (put O f).Perm (f :: O) := by
  have h1 := List.filter_append_perm (fun g : Le => ltN g.n f.n) O
  have e : O.filter (fun g => !ltN g.n f.n) = O.filter (fun g => ltN f.n g.n) := by
    refine List.filter_congr fun g hg => ?_
    rcases ltN_tri g.n f.n with h2 | h2 | h2
    · rw [h2, ltN_asymm h2]; rfl
    · exact absurd h2 (h g hg)
    · rw [h2, ltN_asymm h2]; rfl
  rw [e] at h1
  unfold put
  exact List.perm_middle.trans (h1.cons f)
theorem dist_app {A B : List Le} (h : Dist (A ++ B)) : Dist A := (List.pairwise_append.1 h).1
theorem PutI.step {A O : List Le} {f : Le} (h : PutI A O) (hb : putB O f = true) : PutI (A ++ [f]) (put O f) := by
  refine ⟨putB_ok hb, ?_⟩
  obtain ⟨hO, hp | ⟨hl, hd⟩⟩ := h
  · cases hq : find O f.n with
    | none => exact .inl (((put_perm (find_none hq)).trans (hp.cons f)).trans (List.perm_append_singleton f A).symm)
    | some g =>
      right
      rw [len_put_in hO.2.2 hq rfl]
      refine ⟨by rw [hp.length_eq]; simp, fun hd => ?_⟩
      obtain ⟨h1, h2⟩ := find_some hq
      exact (List.pairwise_append.1 hd).2.2 g (hp.mem_iff.1 h1) f (by simp) h2
  · right
    refine ⟨?_, fun h => hd (dist_app h)⟩
    have := len_wout_le O f.n
    rw [len_put, List.length_append]
    simp
    omega
theorem PutI.stop {A O B : List Le} {f : Le} (h : PutI A O) (hb : putB O f = false) : ¬ AllOk (A ++ f :: B) := by
  intro hA
  obtain ⟨hO, hp | ⟨hl, hd⟩⟩ := h
  · have hf := hA.mem (f := f) (by simp)
    have hl := hA.len
    unfold putB at hb
    rw [leavesB_iff.2 hO, hf] at hb
    simp only [Bool.true_and, Bool.or_eq_false_iff, decide_eq_false_iff_not] at hb
    have := hp.length_eq
    rw [List.length_append] at hl
    simp at hl
    omega
  · exact hd (dist_app hA.dist)
theorem PutI.done {A O : List Le} (h : PutI A O) (hl : O.length = A.length) : AllOk A ∧ allR A = O := by
  obtain ⟨hO, hp | ⟨hl2, hd⟩⟩ := h
  · exact ⟨⟨O, hp, hO⟩, allR_yes hp hO⟩
  · omega
theorem PutI.short {A O : List Le} (h : PutI A O) (hl : O.length ≠ A.length) : ¬ AllOk A := by
  obtain ⟨hO, hp | ⟨hl2, hd⟩⟩ := h
  · exact absurd hp.length_eq hl
  · exact fun hA => hd hA.dist
theorem PutI.len {A O : List Le} (h : PutI A O) : O.length ≤ A.length := by
  obtain ⟨hO, hp | ⟨hl2, hd⟩⟩ := h
  · exact Nat.le_of_eq hp.length_eq
  · omega

/-- cut by a number below N, all parts together are all -/
theorem parts_perm (s : Le → Nat) (L : List Le) : ∀ N, ((List.range N).flatMap fun i => L.filter fun f => decide (s f = i)).Perm (L.filter fun f => decide (s f < N))
  | 0 => by simp
  | N + 1 => by
    rw [List.range_succ, List.flatMap_append, List.flatMap_singleton]
    have h1 := List.filter_append_perm (fun f : Le => decide (s f < N)) (L.filter fun f => decide (s f < N + 1))
    rw [List.filter_filter, List.filter_filter] at h1
    have e1 : (L.filter fun f => decide (s f < N) && decide (s f < N + 1)) = L.filter fun f => decide (s f < N) := List.filter_congr fun f _ => by
      by_cases h : s f < N
      · rw [decide_eq_true h, decide_eq_true (by omega)]; rfl
      · rw [decide_eq_false h]; rfl
    have e2 : (L.filter fun f => !decide (s f < N) && decide (s f < N + 1)) = L.filter fun f => decide (s f = N) := List.filter_congr fun f _ => by
      by_cases h : s f < N
      · rw [decide_eq_true h, decide_eq_false (show ¬ s f = N by omega)]; rfl
      · by_cases h2 : s f = N
        · rw [decide_eq_false h, decide_eq_true h2, decide_eq_true (by omega)]; rfl
        · rw [decide_eq_false h, decide_eq_false h2, decide_eq_false (by omega)]; rfl
    rw [e1, e2] at h1
    exact ((parts_perm s L N).append_right _).trans h1
theorem parts_all (s : Le → Nat) (L : List Le) (N : Nat) (h : ∀ f ∈ L, s f < N) : ((List.range N).flatMap fun i => L.filter fun f => decide (s f = i)).Perm L := by
  have h1 := parts_perm s L N
  rw [List.filter_eq_self.2 (fun f hf => by simpa using h f hf)] at h1
  exact h1
end LV

end Go.Proofs.YtmcejkfknbjjkaaGreatDoor
/-
  Leaves cut into parts that lie side by side in one room: plain facts, and rows of numbers and of slices.
-/
namespace Go.Proofs.YtmcejkfknbjjkaaGreatDoor
open Go.RowKit Go.BigFrame Go.Sort
set_option linter.unusedVariables false
set_option linter.unusedSimpArgs false

/-- block g, of type T, begins with the values l, and may be written -/
def VB (T : TypeId) (w : World) (g : Nat) (l : List Value) : Prop := ∃ cur, w.heap[g]? = some (.cells cur T (0, 0)) ∧ ∀ j (h : j < l.length), cur[j]? = some l[j]
section
variable {T : TypeId} {w w' : World} {g : Nat} {l : List Value}
theorem VB.cell (h : VB T w g l) (j : Nat) (hj : j < l.length) : w.cell? ⟨g, j, none⟩ = some l[j] := by
  obtain ⟨cur, h1, h2⟩ := h
  rw [cell_of_row w g j cur T (0, 0) h1]
  exact h2 j hj
theorem VB.frozen (h : VB T w g l) (j : Nat) : w.frozen? ⟨g, j, none⟩ = false := by
  obtain ⟨cur, h1, h2⟩ := h
  simp [World.frozen?, h1]
theorem VB.lt (h : VB T w g l) : g < w.heap.size := by
  obtain ⟨cur, h1, h2⟩ := h
  exact (Array.getElem?_eq_some_iff.1 h1).1
theorem VB.set (h : VB T w g l) (i : Nat) (hi : i < l.length) (x : Value) : VB T (w.setCell ⟨g, i, none⟩ x) g (l.set i x) := by
  obtain ⟨cur, h1, h2⟩ := h
  have hc := h2 i hi
  have his : i < cur.size := (Array.getElem?_eq_some_iff.1 hc).1
  refine ⟨_, heap_setCell_same w g i cur T _ h1, fun j hj => ?_⟩
  have hj' : j < l.length := by simpa using hj
  rw [Array.getElem?_setIfInBounds]
  by_cases he : i = j
  · subst he
    simp [his]
  · rw [if_neg he, h2 j hj']
    simp [List.getElem_set_ne he]
theorem VB.kept (h : VB T w g l) (hb : w'.heap[g]? = w.heap[g]?) : VB T w' g l := by
  obtain ⟨cur, h1, h2⟩ := h
  exact ⟨cur, by rw [hb]; exact h1, h2⟩
theorem VB.later (h : VB T w g l) (hb : Below w.heap.size w w') : VB T w' g l := h.kept (hb.block g h.lt)
theorem VB.other (h : VB T w g l) {p : Nat} (hp : g ≠ p) (i : Nat) (x : Value) : VB T (w.setCell ⟨p, i, none⟩ x) g l := h.kept (heap_setCell_other w ⟨p, i, none⟩ g x hp)
end

theorem info3V : (Tryz.prog.info? 3).map (fun i => (i.zero, i.size, i.bytes)) = some (some (.int .i64 0), 1, 8) := by kernel_rfl
theorem infoLsV : (Tryz.prog.info? 24).map (fun i => (i.zero, i.size, i.bytes)) = some (some (.slice none 0 0), 1, 24) := by kernel_rfl
/-- 'make([]int, n)' -/
theorem VB.ints (n : Nat) (h : n ≤ 1000000000) (W : World) : ∃ w', (Instr.makeSlice 26 (.int .i64 (n : Int)) (.int .i64 (n : Int))).run Tryz.prog W = .ok (.slice (some ⟨W.heap.size, 0, none⟩) n n) w' ∧ VB 3 w' W.heap.size (List.replicate n (.int .i64 0)) ∧ Below W.heap.size W w' ∧ w'.heap.size = W.heap.size + 1 := by
  obtain ⟨i0, hi, hz0, hz1, hz2⟩ := info_parts info3V
  have h1 := run_make (P := Tryz.prog) W 26 3 i0 (.int .i64 0) Tryz.underlying26 hi hz0 .i64 .i64 (n : Int) (n : Int) (by omega) (by omega) (by rw [hz2]; omega) (by omega)
  refine ⟨_, by simpa using h1, ⟨_, Go.heap_alloc_new W _, fun j hj => ?_⟩, (Below.refl _ _).alloc (Nat.le_refl _) _, by simp⟩
  have hj' : j < n := by simpa using hj
  have e : (madeCells (Value.int .i64 0).cells (n * i0.size)).toList = List.replicate n (.int .i64 0) := by
    rw [hz1]
    simp [Value.cells, toList_madeCells_one]
  rw [← Array.getElem?_toList, e]
  simp [hj']
/-- 'make([][]Leaf, n)' -/
theorem VB.parts (n : Nat) (h : n ≤ 1000000000) (W : World) : ∃ w', (Instr.makeSlice 28 (.int .i64 (n : Int)) (.int .i64 (n : Int))).run Tryz.prog W = .ok (.slice (some ⟨W.heap.size, 0, none⟩) n n) w' ∧ VB 24 w' W.heap.size (List.replicate n (.slice none 0 0)) ∧ Below W.heap.size W w' ∧ w'.heap.size = W.heap.size + 1 := by
  obtain ⟨i0, hi, hz0, hz1, hz2⟩ := info_parts infoLsV
  have h1 := run_make (P := Tryz.prog) W 28 24 i0 (.slice none 0 0) Tryz.underlying28 hi hz0 .i64 .i64 (n : Int) (n : Int) (by omega) (by omega) (by rw [hz2]; omega) (by omega)
  refine ⟨_, by simpa using h1, ⟨_, Go.heap_alloc_new W _, fun j hj => ?_⟩, (Below.refl _ _).alloc (Nat.le_refl _) _, by simp⟩
  have hj' : j < n := by simpa using hj
  have e : (madeCells (Value.slice none 0 0).cells (n * i0.size)).toList = List.replicate n (.slice none 0 0) := by
    rw [hz1]
    simp [Value.cells, toList_madeCells_one]
  rw [← Array.getElem?_toList, e]
  simp [hj']

/-- a row of values, the first m of which are done -/
def vrow (l : List Value) (z : Value) (m : Nat) : List Value := l.take m ++ List.replicate (l.length - m) z
theorem vrow_len (l : List Value) (z : Value) (m : Nat) (h : m ≤ l.length) : (vrow l z m).length = l.length := by simp [vrow]; omega
theorem vrow_step (l : List Value) (z : Value) (m : Nat) (h : m < l.length) : (vrow l z m).set m l[m] = vrow l z (m + 1) := by
  unfold vrow
  have e : l.length - m = (l.length - (m + 1)) + 1 := by omega
  have e2 : (l.take m).length = m := by simp; omega
  rw [e, List.replicate_succ, List.set_append_right _ _ (by omega), e2, Nat.sub_self, List.set_cons_zero, ← List.take_append_getElem h, List.append_assoc]
  rfl
theorem vrow_all (l : List Value) (z : Value) : vrow l z l.length = l := by simp [vrow]
theorem vrow_zero (l : List Value) (z : Value) : vrow l z 0 = List.replicate l.length z := by simp [vrow]

/-- how many of the first m leaves are in shard i -/
def cnt (L : List Le) (k : Int) (m i : Nat) : Nat := ((L.take m).filter (shP k (i : Int))).length
theorem cnt_zero (L : List Le) (k : Int) (i : Nat) : cnt L k 0 i = 0 := by simp [cnt]
theorem shP_nat (k : Int) (i : Nat) (f : Le) : shP k (i : Int) f = decide (shN f.n k = i) := by
  unfold shP
  rw [Bool.eq_iff_iff, decide_eq_true_iff, decide_eq_true_iff]
  omega
theorem cnt_step {L : List Le} {k : Int} {m : Nat} (i : Nat) (hm : m < L.length) : cnt L k (m + 1) i = cnt L k m i + (if shN L[m].n k = i then 1 else 0) := by
  unfold cnt
  rw [sh_step k (i : Int) hm, shP_nat]
  by_cases h : shN L[m].n k = i
  · simp [h]
  · simp [h]
theorem cnt_all {L : List Le} {k : Int} {m : Nat} (i : Nat) (hm : L.length ≤ m) : cnt L k m i = (shL L k (i : Int)).length := by
  unfold cnt shL
  rw [List.take_of_length_le hm]
theorem cnt_le (L : List Le) (k : Int) (m i : Nat) : cnt L k m i ≤ (shL L k (i : Int)).length := by
  unfold cnt shL
  exact (List.Sublist.filter _ (List.take_sublist m L)).length_le
theorem cnt_lt {L : List Le} {k : Int} {m : Nat} (hm : m < L.length) : cnt L k m (shN L[m].n k) < (shL L k (shN L[m].n k : Int)).length := by
  have h1 := cnt_step (k := k) (shN L[m].n k) hm
  have h2 := cnt_le L k (m + 1) (shN L[m].n k)
  rw [if_pos rfl] at h1
  omega
/-- the counts, as a row -/
def cntV (L : List Le) (k : Int) (m : Nat) : List Value := (List.range (shC k)).map fun i : Nat => .int .i64 (cnt L k m i : Int)
theorem cntV_len (L : List Le) (k : Int) (m : Nat) : (cntV L k m).length = shC k := by simp [cntV]
theorem cntV_at (L : List Le) (k : Int) (m i : Nat) (h : i < (cntV L k m).length) : (cntV L k m)[i] = .int .i64 (cnt L k m i : Int) := by simp [cntV]
theorem cntV_step {L : List Le} {k : Int} {m : Nat} (hm : m < L.length) : (cntV L k m).set (shN L[m].n k) (.int .i64 ((cnt L k m (shN L[m].n k) : Int) + 1)) = cntV L k (m + 1) := by
  refine List.ext_getElem (by simp [cntV]) fun i h1 h2 => ?_
  rw [List.getElem_set, cntV_at, cntV_at, cnt_step i hm]
  by_cases h : shN L[m].n k = i
  · subst h
    simp
  · rw [if_neg h, if_neg h]
    simp
theorem cntV_zero (L : List Le) (k : Int) : cntV L k 0 = List.replicate (shC k) (.int .i64 0) := by
  refine List.ext_getElem (by simp [cntV]) fun i h1 h2 => ?_
  rw [cntV_at, cnt_zero]
  simp
/-- the shards of all leaves, as a row -/
def shV (L : List Le) (k : Int) : List Value := L.map fun f => .int .i64 (shN f.n k : Int)
theorem shV_len (L : List Le) (k : Int) : (shV L k).length = L.length := by simp [shV]
theorem shV_at (L : List Le) (k : Int) (i : Nat) (h : i < (shV L k).length) : (shV L k)[i] = .int .i64 (shN (L[i]'(by simpa [shV] using h)).n k : Int) := by simp [shV]

/-- where the part of shard i begins -/
def bgN (L : List Le) (k : Int) (i : Nat) : Nat := ((List.range i).flatMap fun j : Nat => shL L k (j : Int)).length
theorem bgN_zero (L : List Le) (k : Int) : bgN L k 0 = 0 := rfl
theorem bgN_step (L : List Le) (k : Int) (i : Nat) : bgN L k (i + 1) = bgN L k i + (shL L k (i : Int)).length := by
  unfold bgN
  rw [List.range_succ, List.flatMap_append, List.flatMap_singleton, List.length_append]
theorem shL_nat (L : List Le) (k : Int) (i : Nat) : shL L k (i : Int) = L.filter fun f => decide (shN f.n k = i) := List.filter_congr fun f _ => shP_nat k i f
theorem bgN_all (L : List Le) (k : Int) : bgN L k (shC k) = L.length := by
  have h := LV.parts_all (fun f => shN f.n k) L (shC k) (fun f _ => shN_lt f.n k)
  rw [← h.length_eq]
  unfold bgN
  congr 1
  exact congrArg (fun F => List.flatMap F (List.range (shC k))) (funext fun i => shL_nat L k i)
theorem bgN_mono (L : List Le) (k : Int) {i j : Nat} (h : i ≤ j) : bgN L k i ≤ bgN L k j := by
  induction j with
  | zero => have : i = 0 := by omega
            subst this; exact Nat.le_refl _
  | succ j ih =>
    rcases Nat.lt_or_ge i (j + 1) with h1 | h1
    · rw [bgN_step]; have := ih (by omega); omega
    · have : i = j + 1 := by omega
      subst this; exact Nat.le_refl _
theorem bgN_room (L : List Le) (k : Int) {i : Nat} (h : i < shC k) : bgN L k i + (shL L k (i : Int)).length ≤ L.length := by
  rw [← bgN_step, ← bgN_all L k]
  exact bgN_mono L k (by omega)

/-- a part of the room: c leaves from s on, len of them there -/
def ptV (gr c s len : Nat) : Value := .slice (if c = 0 then some ⟨gr, 0, none⟩ else some ⟨gr, s * 2, none⟩) len c
def ptsV (L : List Le) (k : Int) (gr m : Nat) : List Value := (List.range (shC k)).map fun i : Nat => ptV gr (shL L k (i : Int)).length (bgN L k i) (cnt L k m i)
theorem ptsV_len (L : List Le) (k : Int) (gr m : Nat) : (ptsV L k gr m).length = shC k := by simp [ptsV]
theorem ptsV_at (L : List Le) (k : Int) (gr m i : Nat) (h : i < (ptsV L k gr m).length) : (ptsV L k gr m)[i] = ptV gr (shL L k (i : Int)).length (bgN L k i) (cnt L k m i) := by simp [ptsV]
theorem ptsV_step {L : List Le} {k : Int} {gr m : Nat} (hm : m < L.length) : (ptsV L k gr m).set (shN L[m].n k) (ptV gr (shL L k (shN L[m].n k : Int)).length (bgN L k (shN L[m].n k)) (cnt L k m (shN L[m].n k) + 1)) = ptsV L k gr (m + 1) := by
  refine List.ext_getElem (by simp [ptsV]) fun i h1 h2 => ?_
  rw [List.getElem_set, ptsV_at, ptsV_at, cnt_step i hm]
  by_cases h : shN L[m].n k = i
  · subst h
    simp
  · rw [if_neg h, if_neg h]
    simp

/-- the first m leaves lie in their parts -/
def PtI (L : List Le) (k : Int) (gr m : Nat) (W : World) : Prop :=
  (∀ i, i < shC k → ∀ j (h : j < ((L.take m).filter (shP k (i : Int))).length), W.rangeAt gr ((bgN L k i + j) * 2) (lcs (((L.take m).filter (shP k (i : Int)))[j]))) ∧ (∀ j, j < L.length → W.there gr (j * 2) 2) ∧ gr < W.heap.size
theorem PtI.kept {L : List Le} {k : Int} {gr m : Nat} {W W' : World} (h : PtI L k gr m W) (hb : W'.heap[gr]? = W.heap[gr]?) (hs : W.heap.size ≤ W'.heap.size) : PtI L k gr m W' :=
  ⟨fun i hi j hj => range_kept (h.1 i hi j hj) hb, fun j hj => there_kept (h.2.1 j hj) hb, by have := h.2.2; omega⟩
theorem PtI.later {L : List Le} {k : Int} {gr m : Nat} {W W' : World} (h : PtI L k gr m W) (hb : Below W.heap.size W W') : PtI L k gr m W' := h.kept (hb.block gr h.2.2) hb.size
theorem PtI.zero {L : List Le} {k : Int} {gr : Nat} {W : World} (h : ∀ j, j < L.length → W.there gr (j * 2) 2) (hg : gr < W.heap.size) : PtI L k gr 0 W :=
  ⟨fun i _ j hj => absurd hj (by simp), h, hg⟩
theorem PtI.step {L : List Le} {k : Int} {gr m : Nat} {W : World} (h : PtI L k gr m W) (hm : m < L.length) : PtI L k gr (m + 1) (W.setCells gr ((bgN L k (shN L[m].n k) + cnt L k m (shN L[m].n k)) * 2) (lcs L[m])) := by
  have hs := shN_lt L[m].n k
  have hlt := cnt_lt (k := k) hm
  have hroom := bgN_room L k hs
  refine ⟨fun i hi j hj => ?_, fun j hj => World.there_setCells (h.2.1 j hj) _ _ _, by rw [size_setCells]; exact h.2.2⟩
  have hst := sh_step k (i : Int) hm
  rw [shP_nat] at hst
  by_cases he : shN L[m].n k = i
  · have he2 := he
    rw [decide_eq_true he] at hst
    simp only [if_true] at hst
    have hc : cnt L k m (shN L[m].n k) = ((L.take m).filter (shP k (i : Int))).length := by rw [he]; rfl
    rw [hc, he]
    generalize hA : (L.take (m + 1)).filter (shP k (i : Int)) = A at *
    subst hst
    rcases Nat.lt_or_ge j ((L.take m).filter (shP k (i : Int))).length with h1 | h1
    · rw [List.getElem_append_left h1]
      exact World.rangeAt_setCells_apart (h.1 i hi j h1) _ _ _ (.inr (.inl (by rw [lcs_len]; omega)))
    · have hje : j = ((L.take m).filter (shP k (i : Int))).length := by simp at hj; omega
      subst hje
      rw [List.getElem_append_right (Nat.le_refl _)]
      simp only [Nat.sub_self, List.getElem_cons_zero]
      refine World.rangeAt_setCells_same _ _ _ _ ?_
      rw [lcs_len]
      refine h.2.1 _ ?_
      rw [he] at hroom hlt hc
      omega
  · rw [decide_eq_false he] at hst
    simp only [Bool.false_eq_true, if_false] at hst
    generalize hA : (L.take (m + 1)).filter (shP k (i : Int)) = A at *
    subst hst
    refine World.rangeAt_setCells_apart (h.1 i hi j hj) _ _ _ ?_
    have h2 : j < cnt L k m i := hj
    have h3 := cnt_le L k m i
    rw [lcs_len, lcs_len]
    rcases Nat.lt_or_ge i (shN L[m].n k) with h4 | h4
    · have := bgN_mono L k (show i + 1 ≤ shN L[m].n k by omega)
      rw [bgN_step] at this
      right; left; omega
    · have := bgN_mono L k (show shN L[m].n k + 1 ≤ i by omega)
      rw [bgN_step] at this
      right; right; omega

end Go.Proofs.YtmcejkfknbjjkaaGreatDoor
/-
  Leaves cut into parts that lie side by side in one room: the program's answers.
-/
namespace Go.Proofs.YtmcejkfknbjjkaaGreatDoor
open Go.RowKit Go.BigFrame Go.Sort
set_option linter.unusedVariables false
set_option linter.unusedSimpArgs false

/-- m parts are cut -/
def YmR (L : List Le) (k : Int) (gr gp : Nat) (w : World) (p i : Value) (wr : World) : Prop := ∃ m : Nat, m ≤ shC k ∧ i = .int .i64 m ∧ p = .int .i64 (bgN L k m : Int) ∧ VB 24 wr gp (vrow (ptsV L k gr 0) (.slice none 0 0) m) ∧ Below w.heap.size w wr

set_option maxRecDepth 100000 in
set_option maxHeartbeats 1000000 in
theorem emptyParts_any (L : List Le) (k : Int) (n N gr gc : Nat) (w : World) (hn : L.length = n) (hN : shC k = N) (hl : n ≤ 1100000) (hc : VB 3 w gc (cntV L k n)) :
    Calls Tryz.prog 86 #[.slice (some ⟨gr, 0, none⟩) n n, .slice (some ⟨gc, 0, none⟩) N N] w fun e w' => ∃ gp, e = .returned (.slice (some ⟨gp, 0, none⟩) N N) ∧ w.heap.size ≤ gp ∧ VB 24 w' gp (ptsV L k gr 0) ∧ Below w.heap.size w w' := by
  have hN4 : N ≤ 4 := by rcases shC_cases k with h | h | h <;> omega
  have HC : Hid (VB 3 w gc (cntV L k n)) := hc
  have HLN : Hid (L.length = n ∧ shC k = N) := ⟨hn, hN⟩
  obtain ⟨w2, hmk, hib, hb2, hs2⟩ := VB.parts N (by omega) w
  have HST : Hid (YmR L k gr w.heap.size w (.int .i64 0) (.int .i64 0) w2) := ⟨0, by omega, rfl, rfl, by rw [vrow_zero, ptsV_len, hN]; exact hib, hb2⟩
  clear hib hb2 hs2 hc
  go_enter Tryz.func86, Tryz.ntmps86
  go_wp2
  clear hmk
  go_loopw [6, 14] (fun p i wr => YmR L k gr w.heap.size w p i wr) (fun _ i _ => N - (intOf i).toNat)
  case atStart => exact HST.out
  case round =>
    obtain ⟨m, hm, rfl, rfl, hib, hbel⟩ := hrel
    clear HST
    rw [HLN.out.2] at hm
    by_cases hlt : m < N
    · have i1 : (m : Int) < (N : Int) := by omega
      have i2 : (0 : Int) ≤ (m : Int) := by omega
      have hcv := (HC.out.later hbel).cell m (by rw [cntV_len, HLN.out.2]; exact hlt)
      rw [cntV_at] at hcv
      have hce := cnt_all (L := L) (k := k) (m := n) m (by rw [HLN.out.1]; exact Nat.le_refl _)
      rw [hce] at hcv
      have hroom := bgN_room L k (i := m) (by rw [HLN.out.2]; exact hlt)
      rw [HLN.out.1] at hroom
      have hst := bgN_step L k m
      have hvl : (vrow (ptsV L k gr 0) (.slice none 0 0) m).length = N := by rw [vrow_len _ _ _ (by rw [ptsV_len, HLN.out.2]; omega), ptsV_len, HLN.out.2]
      have hvs := vrow_step (ptsV L k gr 0) (.slice none 0 0) m (by rw [ptsV_len, HLN.out.2]; exact hlt)
      rw [ptsV_at, cnt_zero] at hvs
      have hset := hib.set m (by rw [hvl]; exact hlt) (ptV gr (shL L k (m : Int)).length (bgN L k m) 0)
      rw [hvs] at hset
      have HS : Hid (YmR L k gr w.heap.size w (.int .i64 ((bgN L k m : Int) + ((shL L k (m : Int)).length : Int))) (.int .i64 ((m : Int) + 1)) (wr.setCell ⟨w.heap.size, m, none⟩ (ptV gr (shL L k (m : Int)).length (bgN L k m) 0))) :=
        ⟨m + 1, by rw [HLN.out.2]; omega, by simp, by rw [hst]; simp, hset, hbel.setCell (p := ⟨w.heap.size, m, none⟩) (Nat.le_refl _) _⟩
      have c0 := hib.cell m (by rw [hvl]; exact hlt)
      have f0 := hib.frozen m
      generalize (vrow (ptsV L k gr 0) (.slice none 0 0) m)[m]'(by rw [hvl]; exact hlt) = Y at *
      clear hset hvs hvl hce hib hbel HC
      generalize bgN L k m = S at *
      generalize (shL L k (m : Int)).length = C at *
      clear hst
      have j1 : (0 : Int) ≤ (S : Int) := by omega
      have j2 : (S : Int) + (C : Int) ≤ (n : Int) := by omega
      have j3 : (S : Int) ≤ (S : Int) + (C : Int) := by omega
      have j4 : (0 : Int) ≤ (S : Int) + (C : Int) := by omega
      go_wp2
      go_roundw
      case rel => exact HS.out
      case measure => simp [intOf]; omega
    · have hme : m = N := by omega
      subst hme
      have e : vrow (ptsV L k gr 0) (.slice none 0 0) m = ptsV L k gr 0 := by have := vrow_all (ptsV L k gr 0) (.slice none 0 0); rw [ptsV_len, HLN.out.2] at this; exact this
      rw [e] at hib
      have HF : Hid (VB 24 wr w.heap.size (ptsV L k gr 0)) := hib
      clear e hib HC
      go_wp2
      go_ret
      exact ⟨w.heap.size, rfl, Nat.le_refl _, HF.out, hbel⟩

theorem hset_other (b : Nat) : ∀ (vs : List Value) (o : Nat) (w : World) (k : Nat), k ≠ b → (w.setCells b o vs).heap[k]? = w.heap[k]?
  | [], _, _, _, _ => rfl
  | v :: r, o, w, k, hk => by
    rw [World.setCells, hset_other b r _ _ k hk]
    exact heap_setCell_other w ⟨b, o, none⟩ k v hk
theorem ptV_some {gr c s len : Nat} (h : 0 < c) : ptV gr c s len = .slice (some ⟨gr, s * 2, none⟩) len c := by unfold ptV; rw [if_neg (by omega)]
/-- a leaf appended where there is room, as one step of a region that draws its order -/
theorem step_leafRoom {w : World} {ops : Array Oper} {o : Oper} {a : Act} {K : Act → World → Prop} {Q : Exit → Act → World → Prop} {E : Prop} (hgd : o.guard = none) (s x : Operand)
    (ho : o.op = .call { callee := .builtin .append, args := #[s, x], argTypes := #[24, 24] })
    (gr off len cap p : Nat) (f : Le) (hs : a.eval s = .slice (some ⟨gr, off, none⟩) len cap) (hx : a.eval x = .slice (some ⟨p, 0, none⟩) 1 1)
    (hnews : w.rangeAt p 0 (lcs f)) (hroom : len + 1 ≤ cap) (hsp : w.there gr (off + len * 2) 2)
    (hk : K (a.put o.dst (.slice (some ⟨gr, off, none⟩) (len + 1) cap)) (w.setCells gr (off + len * 2) (lcs f))) : if Region.wanted o (yielded ops a.tmps) = true then Oper.wp Tryz.prog o a w K Q else E := by
  obtain ⟨i0, hi, hz0, hz1, hz2⟩ := info_parts Tryz.infoLeaf
  refine step_append_room hgd s x 24 ho 34 i0 2 Tryz.underlying24 hi hz1 gr off len cap hs ⟨p, 0, none⟩ 1 1 (lcs f) hx rfl ?_ (fun u hu => by simp [lcs] at hu; rcases hu with rfl | rfl <;> rfl) hroom ?_ hk
  · intro j u hj
    have := hnews j u hj
    rw [Addr.add_mid]
    exact this
  · intro j hj
    exact hsp j (by rw [lcs_len] at hj; exact hj)

/-- the first m leaves lie in their parts, which the row of parts tells -/
def YoI (L : List Le) (k : Int) (gs gr gp : Nat) (w : World) (m : Nat) (wr : World) : Prop := VB 3 wr gs (shV L k) ∧ Below w.heap.size w wr ∧ PtI L k gr m wr ∧ VB 24 wr gp (ptsV L k gr m) ∧ w.heap.size ≤ gs ∧ gs < gr ∧ gr < gp
theorem YoI.later {L : List Le} {k : Int} {gs gr gp m : Nat} {w wr W : World} (h : YoI L k gs gr gp w m wr) (hb : Below wr.heap.size wr W) : YoI L k gs gr gp w m W :=
  ⟨h.1.later hb, h.2.1.trans (hb.mono h.2.1.size), h.2.2.1.later hb, h.2.2.2.1.later hb, h.2.2.2.2⟩
/-- .. and one more -/
theorem YoI.step {L : List Le} {k : Int} {gs gr gp m : Nat} {w wr : World} (h : YoI L k gs gr gp w m wr) (hm : m < L.length) (X : Le) (hX : L[m] = X) :
    YoI L k gs gr gp w (m + 1) ((wr.setCells gr (bgN L k (shN X.n k) * 2 + cnt L k m (shN X.n k) * 2) (lcs X)).setCell ⟨gp, shN X.n k, none⟩ (ptV gr (shL L k (shN X.n k : Int)).length (bgN L k (shN X.n k)) (cnt L k m (shN X.n k) + 1))) := by
  subst hX
  obtain ⟨h1, h2, h3, h4, h5, h6, h7⟩ := h
  have hs := h3.step hm
  rw [Nat.add_mul] at hs
  have hne : gs ≠ gr := by omega
  have h1' := h1.kept (hset_other gr (lcs L[m]) (bgN L k (shN L[m].n k) * 2 + cnt L k m (shN L[m].n k) * 2) wr gs hne)
  have h4' := h4.kept (hset_other gr (lcs L[m]) (bgN L k (shN L[m].n k) * 2 + cnt L k m (shN L[m].n k) * 2) wr gp (by omega))
  have h2' := below_setCells (B := w.heap.size) (b := gr) (by omega) (lcs L[m]) (bgN L k (shN L[m].n k) * 2 + cnt L k m (shN L[m].n k) * 2) wr h2
  have h4'' := h4'.set (shN L[m].n k) (by rw [ptsV_len]; exact shN_lt _ _) (ptV gr (shL L k (shN L[m].n k : Int)).length (bgN L k (shN L[m].n k)) (cnt L k m (shN L[m].n k) + 1))
  rw [ptsV_step hm] at h4''
  refine ⟨h1'.other (p := gp) (by omega) _ _, h2'.setCell (p := ⟨gp, shN L[m].n k, none⟩) (by show w.heap.size ≤ gp; omega) _, hs.kept (heap_setCell_other _ ⟨gp, shN L[m].n k, none⟩ gr _ (by show gr ≠ gp; omega)) (by simp), h4'', h5, h6, h7⟩
def YoR (L : List Le) (k : Int) (gs gr gp : Nat) (w : World) (i : Value) (wr : World) : Prop := ∃ m : Nat, m ≤ L.length ∧ i = .int .i64 m ∧ Hid (YoI L k gs gr gp w m wr)

/-- the first m leaves are counted -/
def YnR (L : List Le) (k : Int) (gs gc : Nat) (w : World) (i : Value) (wr : World) : Prop := ∃ m : Nat, m ≤ L.length ∧ i = .int .i64 m ∧ Hid (VB 3 wr gs (vrow (shV L k) (.int .i64 0) m) ∧ VB 3 wr gc (cntV L k m) ∧ Below w.heap.size w wr ∧ w.heap.size ≤ gs ∧ gs < gc)

set_option maxRecDepth 100000 in
set_option maxHeartbeats 1000000 in
theorem splitLeaves_any (v : Value) (ga oa : Nat) (L : List Le) (k : Int) (w : World) (hv : RS 2 lcs w v ga oa L) (hsm : SmallL L) (hT : Tb w) :
    Calls Tryz.prog 36 #[v, .int .i64 k] w fun e w' => ∃ gp gr, e = .returned (.slice (some ⟨gp, 0, none⟩) (shC k) (shC k)) ∧ VB 24 w' gp (ptsV L k gr L.length) ∧ PtI L k gr L.length w' ∧ Below w.heap.size w w' := by
  have HV : Hid (RS 2 lcs w v ga oa L ∧ SmallL L ∧ Tb w) := ⟨hv, hsm, hT⟩
  obtain ⟨a, cap, rfl, hl, hA, _⟩ := hv
  obtain ⟨n, hn⟩ : ∃ n, L.length = n := ⟨_, rfl⟩
  have HA : Hid (0 < n → a = some ⟨ga, oa, none⟩ ∧ ga < w.heap.size) := by rw [← hn]; exact hA
  have HLN : Hid (L.length = n) := hn
  rw [hn] at hl HV ⊢
  clear hA hsm hT hn
  obtain ⟨w1, hmk1, hib1, hb1, hs1⟩ := VB.ints n (by omega) w
  have hsc := shardCount_any k w1
  obtain ⟨N, hN⟩ : ∃ N, shC k = N := ⟨_, rfl⟩
  have hN4 : 0 < N ∧ N ≤ 4 := by rcases shC_cases k with h | h | h <;> omega
  have HN : Hid (shC k = N) := hN
  rw [hN] at hsc ⊢
  obtain ⟨w2, hmk2, hib2, hb2, hs2⟩ := VB.ints N (by omega) w1
  have HST : Hid (YnR L k w.heap.size w1.heap.size w (.int .i64 0) w2) := by
    refine ⟨0, by omega, rfl, ?_, ?_, hb1.trans (hb2.mono hb1.size), Nat.le_refl _, by omega⟩
    · rw [vrow_zero, shV_len, HLN.out]
      exact hib1.later hb2
    · rw [cntV_zero, hN]
      exact hib2
  clear hib1 hb1 hib2 hb2 hN
  go_enter Tryz.func36, Tryz.ntmps36
  go_wp2_with fail
  refine hsc.mono ?_
  rintro e w3 ⟨rfl, hw3⟩
  obtain rfl := hw3.symm
  clear hsc hmk1
  obtain ⟨gs, hgs⟩ : ∃ gs, w.heap.size = gs := ⟨_, rfl⟩
  obtain ⟨gc, hgc⟩ : ∃ gc, w1.heap.size = gc := ⟨_, rfl⟩
  rw [hgs, hgc] at HST
  rw [hgs]
  rw [hgc] at hmk2
  go_wp2
  clear hmk2
  go_loopw [20] (fun i wr => YnR L k gs gc w i wr) (fun i _ => n - (intOf i).toNat)
  case atStart => exact HST.out
  case round =>
    obtain ⟨m, hm, rfl, HI⟩ := hrel
    clear HST
    rw [HLN.out] at hm
    by_cases hlt : m < n
    · obtain ⟨ea, hgw⟩ := HA.out (by omega)
      subst ea
      have hbel := HI.out.2.2.1
      obtain ⟨c0, c1⟩ := (HV.out.1.later hbel).leaf m (by rw [HLN.out]; exact hlt)
      obtain ⟨X, hX⟩ : ∃ X, L[m]'(by rw [HLN.out]; exact hlt) = X := ⟨_, rfl⟩
      rw [hX] at c0 c1
      have hxs := HV.out.2.1 X (by rw [← hX]; exact List.getElem_mem _)
      have i1 : (m : Int) < (n : Int) := by omega
      have i2 : (0 : Int) ≤ (m : Int) := by omega
      have hba : Below wr.heap.size wr (wr.alloc (.cells #[.string X.n, .string X.v] 34)) := (Below.refl _ _).alloc (Nat.le_refl _) _
      have hwa : Below w.heap.size w (wr.alloc (.cells #[.string X.n, .string X.v] 34)) := hbel.trans (hba.mono hbel.size)
      have hso := ShardOf_any X.n k _ hxs.1 (HV.out.2.2.later hwa)
      have hslt := shN_lt X.n k
      rw [HN.out] at hslt
      have hvs := vrow_step (shV L k) (.int .i64 0) m (by rw [shV_len, HLN.out]; exact hlt)
      rw [shV_at, hX] at hvs
      have hcs := cntV_step (L := L) (k := k) (m := m) (by rw [HLN.out]; exact hlt)
      rw [hX] at hcs
      have hvl : (vrow (shV L k) (.int .i64 0) m).length = n := by rw [vrow_len _ _ _ (by rw [shV_len, HLN.out]; omega), shV_len, HLN.out]
      have hcl := cntV_len L k m
      have hca := cntV_at L k m (shN X.n k) (by rw [hcl, HN.out]; exact hslt)
      have hcn : cnt L k m (shN X.n k) ≤ 1100000 := Nat.le_trans (cnt_le L k m _) (Nat.le_trans (shL_len _ _ _) (by rw [HLN.out]; exact hl))
      rw [HN.out] at hcl
      generalize shN X.n k = sh at *
      generalize cnt L k m sh = C at *
      have HO1 : Hid (VB 3 (wr.alloc (.cells #[.string X.n, .string X.v] 34)) gs (vrow (shV L k) (.int .i64 0) m) ∧ VB 3 (wr.alloc (.cells #[.string X.n, .string X.v] 34)) gc (cntV L k m) ∧ Below w.heap.size w (wr.alloc (.cells #[.string X.n, .string X.v] 34)) ∧ w.heap.size ≤ gs ∧ gs < gc) := ⟨HI.out.1.later hba, HI.out.2.1.later hba, hwa, HI.out.2.2.2⟩
      clear HV HA hX hba hwa HI hgw
      go_wp2_with fail
      refine hso.mono ?_
      rintro e w4 ⟨rfl, hb4⟩
      clear hso
      have b4 := HO1.out.2.2.1.trans (hb4.mono HO1.out.2.2.1.size)
      have v1 := HO1.out.1.later hb4
      have v2 := HO1.out.2.1.later hb4
      have hgg := HO1.out.2.2.2
      have c2 := v1.cell m (by rw [hvl]; exact hlt)
      have f2 := v1.frozen m
      have v1' := v1.set m (by rw [hvl]; exact hlt) (.int .i64 (sh : Int))
      rw [hvs] at v1'
      have v2' := v2.other (p := gs) (by omega) m (.int .i64 (sh : Int))
      have c3 := v2'.cell sh (by rw [hcl]; exact hslt)
      rw [hca] at c3
      have f3 := v2'.frozen sh
      have v2'' := v2'.set sh (by rw [hcl]; exact hslt) (.int .i64 ((C : Int) + 1))
      rw [hcs] at v2''
      have v1'' := v1'.other (p := gc) (by omega) sh (.int .i64 ((C : Int) + 1))
      have HS : Hid (VB 3 ((w4.setCell ⟨gs, m, none⟩ (.int .i64 (sh : Int))).setCell ⟨gc, sh, none⟩ (.int .i64 ((C : Int) + 1))) gs (vrow (shV L k) (.int .i64 0) (m + 1)) ∧ VB 3 ((w4.setCell ⟨gs, m, none⟩ (.int .i64 (sh : Int))).setCell ⟨gc, sh, none⟩ (.int .i64 ((C : Int) + 1))) gc (cntV L k (m + 1)) ∧ Below w.heap.size w ((w4.setCell ⟨gs, m, none⟩ (.int .i64 (sh : Int))).setCell ⟨gc, sh, none⟩ (.int .i64 ((C : Int) + 1))) ∧ w.heap.size ≤ gs ∧ gs < gc) :=
        ⟨v1'', v2'', (b4.setCell (p := ⟨gs, m, none⟩) (by show w.heap.size ≤ gs; omega) _).setCell (p := ⟨gc, sh, none⟩) (by show w.heap.size ≤ gc; omega) _, hgg⟩
      generalize (vrow (shV L k) (.int .i64 0) m)[m]'(by rw [hvl]; exact hlt) = Y at *
      clear v1 v2 v1' v2' v1'' v2'' hvs hcs hca hcl hvl b4 hb4 HO1 c0 c1
      have i3 : (sh : Int) < (N : Int) := by omega
      have i4 : (0 : Int) ≤ (sh : Int) := by omega
      go_wp2
      go_roundw
      case rel => exact ⟨m + 1, by rw [HLN.out]; omega, by go_num, HS⟩
      case measure => simp [intOf]; omega
    · have hme : m = n := by omega
      subst hme
      have e0 : vrow (shV L k) (.int .i64 0) m = shV L k := by have := vrow_all (shV L k) (.int .i64 0); rw [shV_len, HLN.out] at this; exact this
      have HI2 : Hid (VB 3 wr gs (shV L k) ∧ VB 3 wr gc (cntV L k m) ∧ Below w.heap.size w wr) := ⟨by rw [← e0]; exact HI.out.1, HI.out.2.1, HI.out.2.2.1⟩
      clear HI e0
      obtain ⟨w5, hmk5, hib5, hb5, hs5⟩ := made_leaves m hl wr
      have hep := emptyParts_any L k m N wr.heap.size gc w5 HLN.out HN.out hl (HI2.out.2.1.later hb5)
      have HG : Hid (VB 3 w5 gs (shV L k) ∧ Below w.heap.size w w5 ∧ PtI L k wr.heap.size 0 w5 ∧ w.heap.size ≤ gs ∧ gs < wr.heap.size) := ⟨HI2.out.1.later hb5, HI2.out.2.2.trans (hb5.mono HI2.out.2.2.size), PtI.zero (by rw [HLN.out]; exact hib5) (by omega), by omega, HI2.out.1.lt⟩
      obtain ⟨gr, hgr⟩ : ∃ gr, wr.heap.size = gr := ⟨_, rfl⟩
      rw [hgr] at hep HG hmk5
      clear hib5 hb5 HI2 hgr
      go_wp2_with fail
      refine hep.mono ?_
      rintro e w6 ⟨gp, rfl, hgp, hvp, hb6⟩
      have HST2 : Hid (YoR L k gs gr gp w (.int .i64 0) w6) := ⟨0, by omega, rfl, HG.out.1.later hb6, HG.out.2.1.trans (hb6.mono HG.out.2.1.size), HG.out.2.2.1.later hb6, hvp, HG.out.2.2.2.1, HG.out.2.2.2.2, by have := HG.out.2.2.1.2.2; omega⟩
      clear hep hvp hb6 hgp HG hmk5
      go_wp2
      go_loopw [49] (fun i wr => YoR L k gs gr gp w i wr) (fun i _ => m - (intOf i).toNat)
      case atStart => exact HST2.out
      case round =>
        obtain ⟨q, hq, rfl, HI⟩ := hrel
        clear HST2
        rw [HLN.out] at hq
        by_cases hlt2 : q < m
        · obtain ⟨ea, hgw⟩ := HA.out (by omega)
          subst ea
          have hql : q < L.length := by rw [HLN.out]; exact hlt2
          obtain ⟨c0, c1⟩ := (HV.out.1.later HI.out.2.1).leaf q hql
          have c2 := HI.out.1.cell q (by rw [shV_len]; exact hql)
          rw [shV_at] at c2
          obtain ⟨X, hX⟩ : ∃ X, L[q]'hql = X := ⟨_, rfl⟩
          have hlt3 := cnt_lt (k := k) hql
          rw [hX] at c0 c1 c2 hlt3
          have i1 : (q : Int) < (m : Int) := by omega
          have i2 : (0 : Int) ≤ (q : Int) := by omega
          have hslt := shN_lt X.n k
          have c3 := HI.out.2.2.2.1.cell (shN X.n k) (by rw [ptsV_len]; exact hslt)
          rw [ptsV_at, ptV_some (by omega)] at c3
          have hbb : Below wr.heap.size wr (wr.alloc (.cells #[.string X.n, .string X.v] 34)).drew := ((Below.refl _ _).alloc (Nat.le_refl _) _).drew
          have HI2 := HI.out.later hbb
          have d3 : (wr.alloc (.cells #[.string X.n, .string X.v] 34)).cell? ⟨gp, shN X.n k, none⟩ = some (.slice (some ⟨gr, bgN L k (shN X.n k) * 2, none⟩) (cnt L k q (shN X.n k)) (shL L k (shN X.n k : Int)).length) := by
            have := HI2.2.2.2.1.cell (shN X.n k) (by rw [ptsV_len]; exact hslt)
            rw [ptsV_at, ptV_some (by omega)] at this
            exact this
          have HRN : Hid ((wr.alloc (.cells #[.string X.n, .string X.v] 34)).drew.rangeAt wr.heap.size 0 (lcs X)) := range_new wr [.string X.n, .string X.v] 34
          have HTH : Hid ((wr.alloc (.cells #[.string X.n, .string X.v] 34)).drew.there gr (bgN L k (shN X.n k) * 2 + cnt L k q (shN X.n k) * 2) 2) := by
            have hr := bgN_room L k hslt
            have := HI2.2.2.1.2.1 (bgN L k (shN X.n k) + cnt L k q (shN X.n k)) (by omega)
            rw [Nat.add_mul] at this
            exact this
          have HNX : Hid (YoI L k gs gr gp w (q + 1) (((wr.alloc (.cells #[.string X.n, .string X.v] 34)).drew.setCells gr (bgN L k (shN X.n k) * 2 + cnt L k q (shN X.n k) * 2) (lcs X)).setCell ⟨gp, shN X.n k, none⟩ (.slice (some ⟨gr, bgN L k (shN X.n k) * 2, none⟩) (cnt L k q (shN X.n k) + 1) (shL L k (shN X.n k : Int)).length))) := by
            have := HI2.step hql X hX
            rw [ptV_some (by omega)] at this
            exact this
          have h4k := HI2.2.2.2.1.kept (hset_other gr (lcs X) (bgN L k (shN X.n k) * 2 + cnt L k q (shN X.n k) * 2) (wr.alloc (.cells #[.string X.n, .string X.v] 34)).drew gp (by have := HI2.2.2.2.2.2.2; omega))
          have e3 := h4k.cell (shN X.n k) (by rw [ptsV_len]; exact hslt)
          have f3 := h4k.frozen (shN X.n k)
          generalize (ptsV L k gr q)[shN X.n k]'(by rw [ptsV_len]; exact hslt) = Y at *
          rw [HN.out] at hslt
          clear hX h4k HI2 hbb HI HV HA hgw
          generalize bgN L k (shN X.n k) = S at *
          generalize cnt L k q (shN X.n k) = C1 at *
          generalize (shL L k (shN X.n k : Int)).length = C at *
          generalize shN X.n k = sh at *
          have i3 : (sh : Int) < (N : Int) := by omega
          have i4 : (0 : Int) ≤ (sh : Int) := by omega
          go_wp2
          go_region_law ((refine step_leafRoom rfl _ _ rfl gr (S * 2) C1 C wr.heap.size X (by rfl) (by rfl) HRN.out (by omega) HTH.out ?_))
          all_goals
            go_wp2
            go_roundw
            case rel => exact ⟨q + 1, by rw [HLN.out]; omega, by go_num, HNX⟩
            case measure => simp [intOf]; omega
        · have hqe : q = m := by omega
          subst hqe
          have HF : Hid (YoI L k gs gr gp w q wr) := HI
          clear HI HV HA
          go_wp2
          go_ret
          exact ⟨gp, gr, rfl, HF.out.2.2.2.1, HF.out.2.2.1, HF.out.2.1⟩

/-- a list answered -/
def LbP (M : List Le) (w : World) (e : Ending) (w' : World) : Prop := ∃ a cap g, e = .returned (.slice a M.length cap) ∧ RW 2 lcs w' (.slice a M.length cap) g M ∧ w.heap.size ≤ g ∧ Below w.heap.size w w'

/-- a part of the room, as a row -/
theorem PtI.row {L : List Le} {k : Int} {gr i : Nat} {W : World} (h : PtI L k gr L.length W) (hi : i < shC k) (hl : L.length ≤ 1100000) : RS 2 lcs W (ptV gr (shL L k (i : Int)).length (bgN L k i) (shL L k (i : Int)).length) gr (bgN L k i * 2) (shL L k (i : Int)) := by
  have h1 := h.1 i hi
  rw [List.take_length] at h1
  refine ⟨_, _, rfl, Nat.le_trans (shL_len L k _) hl, fun hp => ⟨by rw [if_neg (by omega)], h.2.2⟩, fun j hj => ?_⟩
  have := h1 j hj
  rw [Nat.add_mul] at this
  exact this

set_option maxRecDepth 100000 in
set_option maxHeartbeats 1000000 in
theorem ShardLeaves_any (v : Value) (ga oa : Nat) (L : List Le) (k i : Int) (w : World) (hv : RS 2 lcs w v ga oa L) (hsm : SmallL L) (hT : Tb w) :
    Calls Tryz.prog 8 #[v, .int .i64 k, .int .i64 i] w (LbP (shL L k i) w) := by
  have hl := hv.len
  have HM : Hid (LbP [] w (.returned (.slice (some ⟨w.heap.size, 0, none⟩) 0 0)) (w.alloc (.cells #[] 34))) := by
    have ho := OL.made w.heap.size w w (Below.refl _ _) (Nat.le_refl _)
    obtain ⟨gz, hrz, hgz, _⟩ := ho.rw (by simp)
    exact ⟨_, _, gz, rfl, hrz, hgz, ho.2.1⟩
  by_cases h0 : i < 0
  · rw [shL_none (.inl h0)]
    clear hv hsm hT
    go_enter Tryz.func8, Tryz.ntmps8
    go_wp2
    go_ret
    exact HM.out
  · by_cases h1 : (shC k : Int) ≤ i
    · rw [shL_none (.inr h1)]
      have hsc := shardCount_any k w
      generalize shC k = N at *
      clear hv hsm hT
      go_enter Tryz.func8, Tryz.ntmps8
      go_wp2_with fail
      refine hsc.mono ?_
      rintro e w1 ⟨rfl, rfl⟩
      go_wp2
      go_ret
      exact HM.out
    · obtain ⟨j, rfl⟩ : ∃ j : Nat, i = (j : Int) := ⟨i.toNat, by omega⟩
      have hj : j < shC k := by omega
      have hsc := shardCount_any k w
      have hsp := splitLeaves_any v ga oa L k w hv hsm hT
      have HJ : Hid (∀ gp gr W, VB 24 W gp (ptsV L k gr L.length) → PtI L k gr L.length W → W.cell? ⟨gp, j, none⟩ = some (ptV gr (shL L k (j : Int)).length (bgN L k j) (shL L k (j : Int)).length) ∧ Calls Tryz.prog 35 #[ptV gr (shL L k (j : Int)).length (bgN L k j) (shL L k (j : Int)).length] W fun e w' => ∃ g, e = .returned (.slice (some ⟨g, 0, none⟩) (shL L k (j : Int)).length (shL L k (j : Int)).length) ∧ W.heap.size ≤ g ∧ RW 2 lcs w' (.slice (some ⟨g, 0, none⟩) (shL L k (j : Int)).length (shL L k (j : Int)).length) g (shL L k (j : Int)) ∧ Below W.heap.size W w') := fun gp gr W h2 h3 => by
        have c := h2.cell j (by rw [ptsV_len]; exact hj)
        rw [ptsV_at, cnt_all j (Nat.le_refl _)] at c
        exact ⟨c, leavesCopy_any _ gr _ _ W (h3.row hj hl) (shL_small hsm)⟩
      generalize shL L k (j : Int) = M at *
      generalize bgN L k j = S at *
      obtain ⟨N, hN⟩ : ∃ N, shC k = N := ⟨_, rfl⟩
      rw [hN] at hsc hsp hj h1
      have i1 : (j : Int) < (N : Int) := by omega
      have i2 : (0 : Int) ≤ (j : Int) := by omega
      obtain ⟨a, cap, rfl⟩ := hv.shape
      clear hv hsm hT hN h1 HM
      go_enter Tryz.func8, Tryz.ntmps8
      go_wp2_with fail
      refine hsc.mono ?_
      rintro e w1 ⟨rfl, hw1⟩
      obtain rfl := hw1.symm
      clear hsc
      go_wp2_with fail
      refine hsp.mono ?_
      rintro e w2 ⟨gp, gr, rfl, hvp, hpt, hb2⟩
      obtain ⟨c0, hcp⟩ := HJ.out gp gr w2 hvp hpt
      generalize ptV gr M.length S M.length = P at *
      clear hsp HJ hvp hpt
      go_wp2_with fail
      refine hcp.mono ?_
      rintro e w3 ⟨g, rfl, hg, hr, hb3⟩
      have HF : Hid (LbP M w (.returned (.slice (some ⟨g, 0, none⟩) M.length M.length)) w3) := ⟨_, _, g, rfl, hr, by have := hb2.size; omega, hb2.trans (hb3.mono hb2.size)⟩
      clear hcp hr hb3 hg
      go_wp2
      go_ret
      exact HF.out

end Go.Proofs.YtmcejkfknbjjkaaGreatDoor
/-
  The root of a shard: the program's answer and the specification's.
-/
namespace Go.Proofs.YtmcejkfknbjjkaaGreatDoor
open Go.RowKit Go.BigFrame Go.Sort
set_option linter.unusedVariables false
set_option linter.unusedSimpArgs false

noncomputable def srB (L : List Le) (k p x : Int) : ByteArray := if 0 ≤ k ∧ k ≤ 2 then nhB L k p x else ⟨#[]⟩

theorem ShardRoot_any (v : Value) (ga oa : Nat) (L : List Le) (k p x : Int) (w : World) (hv : RS 2 lcs w v ga oa L) (hsm : SmallL L) (hT : Tb w) :
    Calls Tryz.prog 10 #[v, .int .i64 k, .int .i64 p, .int .i64 x] w fun e w' => e = .returned (.string (srB L k p x)) ∧ Below w.heap.size w w' := by
  have hc := NodeHash_any v ga oa L k p x w hv hsm hT
  by_cases h : 0 ≤ k ∧ k ≤ 2
  · have hd : decide (0 ≤ k ∧ k ≤ 2) = true := by simpa using h
    have e1 : srB L k p x = nhB L k p x := by unfold srB; rw [if_pos h]
    rw [e1]
    generalize nhB L k p x = R at *
    clear h e1 hv hsm hT
    go_enter Tryz.func10, Tryz.ntmps10
    go_wp2_with fail
    refine (splitOk_any _ _).mono ?_
    rintro e w1 ⟨rfl, rfl⟩
    rw [hd]
    go_wp2_with fail
    refine hc.mono ?_
    rintro e w2 ⟨rfl, hb⟩
    go_wp2
    go_ret
    exact ⟨rfl, hb⟩
  · have hd : decide (0 ≤ k ∧ k ≤ 2) = false := by simpa using h
    have e1 : srB L k p x = ⟨#[]⟩ := by unfold srB; rw [if_neg h]
    rw [e1]
    clear h e1 hc
    go_enter Tryz.func10, Tryz.ntmps10
    go_wp2_with fail
    refine (splitOk_any _ _).mono ?_
    rintro e w1 ⟨rfl, rfl⟩
    rw [hd]
    go_wp2
    go_ret
    exact ⟨rfl, Below.refl _ _⟩

end Go.Proofs.YtmcejkfknbjjkaaGreatDoor
/-
  Rows of hashes folded two by two, at any width: the program's rowAbove, topOf and sidesInRow, the specification's l12Up.
-/
namespace Go.Proofs.YtmcejkfknbjjkaaGreatDoor
open Go.RowKit Go.BigFrame
set_option linter.unusedVariables false
set_option linter.unusedSimpArgs false

/-- a place of the row above -/
def upAtW (x : Int) (l : List ByteArray) (i : Nat) : ByteArray := hashB 3 [l.getD (2 * i) ByteArray.empty, l.getD (2 * i + 1) ByteArray.empty] x
/-- the row above -/
def upW (x : Int) (l : List ByteArray) : List ByteArray := (List.range (l.length / 2)).map (upAtW x l)
theorem upW_len (x : Int) (l : List ByteArray) : (upW x l).length = l.length / 2 := by simp [upW]
theorem upW_at (x : Int) (l : List ByteArray) (i : Nat) (h : i < (upW x l).length) : (upW x l)[i] = upAtW x l i := by simp [upW]
theorem upAtW_eq (x : Int) (l : List ByteArray) (i : Nat) (h : 2 * i + 1 < l.length) : upAtW x l i = hashB 3 [l[2 * i], l[2 * i + 1]] x := by
  unfold upAtW
  rw [List.getD_eq_getElem?_getD, List.getD_eq_getElem?_getD, List.getElem?_eq_getElem (by omega), List.getElem?_eq_getElem h]
  rfl
/-- so many rows up -/
def upNW (x : Int) (l : List ByteArray) : Nat → List ByteArray
  | 0 => l
  | j + 1 => upW x (upNW x l j)
theorem upNW_len {x : Int} {l : List ByteArray} {d : Nat} (h : l.length = 2 ^ d) : ∀ j, j ≤ d → (upNW x l j).length = 2 ^ (d - j)
  | 0, _ => h
  | j + 1, hj => by
    unfold upNW
    rw [upW_len, upNW_len h j (by omega), show d - j = (d - (j + 1)) + 1 by omega, Nat.pow_succ]
    omega
/-- what is left at last -/
def topW (x : Int) (l : List ByteArray) (d : Nat) : ByteArray := (upNW x l d).getD 0 ByteArray.empty
theorem topW_eq (x : Int) (l : List ByteArray) (d : Nat) (h : 0 < (upNW x l d).length) : (upNW x l d)[0] = topW x l d := by
  unfold topW
  rw [List.getD_eq_getElem?_getD, List.getElem?_eq_getElem h]
  rfl
/-- what stands beside the way up -/
def sidW (x : Int) (l : List ByteArray) (s : Nat) : Nat → List ByteArray
  | 0 => []
  | m + 1 => sidW x l s m ++ [(upNW x l m).getD (TR.oth (s / 2 ^ m)) ByteArray.empty]
theorem sidW_len (x : Int) (l : List ByteArray) (s m : Nat) : (sidW x l s m).length = m := by
  induction m with
  | zero => rfl
  | succ m ih => simp [sidW, ih]
theorem oth_lt {q n : Nat} (hn : n % 2 = 0) (h : q < n) : TR.oth q < n := by
  unfold TR.oth
  split <;> omega
theorem cell_oset {w : World} {g m : Nat} {u x : Value} {p : Addr} (h : p.block ≠ g) (hc : w.cell? p = some x) : (w.setCell ⟨g, m, none⟩ u).cell? p = some x :=
  (World.cell?_of_block (w := w) (heap_setCell_other w ⟨g, m, none⟩ p.block u h)).trans hc

def YrR (x : Int) (l : List ByteArray) (w : World) (g : Nat) (i : Value) (wr : World) : Prop := ∃ m : Nat, m ≤ l.length / 2 ∧ i = .int .i64 m ∧ TB wr g (srow (upW x l) m) ∧ Below w.heap.size w wr

set_option maxRecDepth 100000 in
set_option maxHeartbeats 2000000 in
theorem rowAboveW_any (v : Value) (ga oa : Nat) (l : List ByteArray) (x : Int) (w : World) (hv : SS w v ga oa l) (hl : l.length ≤ 1000) (hT : Tb w) :
    Calls Tryz.prog 95 #[v, .int .i64 x] w fun e w' => ∃ g, e = .returned (.slice (some ⟨g, 0, none⟩) (l.length / 2) (l.length / 2)) ∧ w.heap.size ≤ g ∧ TB w' g (upW x l) ∧ Below w.heap.size w w' := by
  have HT : Hid (Tb w) := hT
  have hga := hv.lt
  obtain ⟨a, cap, rfl, _, hA, hc⟩ := hv
  obtain ⟨n, hn⟩ : ∃ n, l.length = n := ⟨_, rfl⟩
  obtain ⟨w2, hmk0, hib, hb2, hs2⟩ := TB.made (n / 2) (by omega) w
  have hmk : (Instr.makeSlice 29 (.int .i64 ((n : Int) / 2)) (.int .i64 ((n : Int) / 2))).run Tryz.prog w = .ok (.slice (some ⟨w.heap.size, 0, none⟩) (n / 2) (n / 2)) w2 := by simpa using hmk0
  have HST : Hid (YrR x l w w.heap.size (.int .i64 0) w2) := ⟨0, by omega, rfl, by rw [show srow (upW x l) 0 = List.replicate (n / 2) ByteArray.empty by unfold srow; rw [upW_len, hn]; rfl]; exact hib, hb2⟩
  have HA : Hid (0 < n → a = some ⟨ga, oa, none⟩ ∧ ga < w.heap.size) := by rw [← hn]; exact fun h => ⟨hA h, hga h⟩
  have HC : Hid (∀ j (h : j < l.length), w.cell? ⟨ga, oa + j, none⟩ = some (.string l[j])) := hc
  have HN : Hid (l.length = n) := hn
  rw [hn] at hl ⊢
  clear hib hb2 hs2 hA hga hc hT hmk0
  go_enter Tryz.func95, Tryz.ntmps95
  go_wp2
  clear hmk
  go_loopw [13] (fun i wr => YrR x l w w.heap.size i wr) (fun i _ => n / 2 - (intOf i).toNat)
  case atStart => exact HST.out
  case round =>
    obtain ⟨m, hm, rfl, hib, hbel⟩ := hrel
    rw [hn] at hm
    clear HST hn
    by_cases hlt : m < n / 2
    · obtain ⟨ea, hgw⟩ := HA.out (by omega)
      subst ea
      have i1 : (m : Int) < (n : Int) / 2 := by omega
      have i2 : (0 : Int) ≤ (m : Int) := by omega
      have i3 : 2 * (m : Int) < (n : Int) := by omega
      have i4 : 2 * (m : Int) + 1 < (n : Int) := by omega
      have hu := upAtW_eq x l m (by rw [HN.out]; omega)
      have c1 : wr.cell? ⟨ga, oa + 2 * m, none⟩ = some (.string (l[2 * m]'(by rw [HN.out]; omega))) := (hbel.cell (p := ⟨ga, oa + 2 * m, none⟩) hgw).trans (HC.out (2 * m) _)
      have c2 : wr.cell? ⟨ga, oa + (2 * m + 1), none⟩ = some (.string (l[2 * m + 1]'(by rw [HN.out]; omega))) := (hbel.cell (p := ⟨ga, oa + (2 * m + 1), none⟩) hgw).trans (HC.out (2 * m + 1) _)
      have hlk := upW_at x l m (by rw [upW_len, HN.out]; exact hlt)
      have hst := srow_step (upW x l) m (by rw [upW_len, HN.out]; exact hlt)
      have hll : (srow (upW x l) m).length = n / 2 := by rw [srow_len _ _ (by rw [upW_len, HN.out]; omega), upW_len, HN.out]
      rw [hlk, hu] at hst
      generalize l[2 * m]'(by rw [HN.out]; omega) = X at *
      generalize l[2 * m + 1]'(by rw [HN.out]; omega) = Y at *
      have HCT := taggedHash_wd x 3 [X, Y] 2 #[.string X, .string Y] wr _ rfl rfl (by omega) rfl (HT.out.later hbel)
      generalize hashB 3 [X, Y] x = K at *
      clear hu hlk
      have hgr : ga < wr.heap.size := Nat.lt_of_lt_of_le hgw hbel.size
      have hne : ga ≠ w.heap.size := by omega
      have a1 : IntKind.i64.wrap (2 * (m : Int)) = 2 * (m : Int) := IntWalk.i64_in _ (by omega)
      have a2 : IntKind.i64.wrap (2 * (m : Int) + 1) = 2 * (m : Int) + 1 := IntWalk.i64_in _ (by omega)
      have hlt2 := hib.lt
      go_wp2
      have i5 : (0 : Int) ≤ 2 * (m : Int) := by omega
      have i6 : (0 : Int) ≤ 2 * (m : Int) + 1 := by omega
      have t1 : (2 * (m : Int)).toNat = 2 * m := by omega
      have t2 : (2 * (m : Int) + 1).toNat = 2 * m + 1 := by omega
      go_region_held3 (fun W => W.cell? ⟨ga, oa + 2 * m, none⟩ = some (.string X) ∧ W.cell? ⟨ga, oa + (2 * m + 1), none⟩ = some (.string Y)) (first | go_keep | exact ⟨(hb1.cell (p := ⟨ga, oa + 2 * m, none⟩) hgr).trans c1, (hb1.cell (p := ⟨ga, oa + (2 * m + 1), none⟩) hgr).trans c2⟩ | exact ⟨cell_oset hne ((hb1.cell (p := ⟨ga, oa + 2 * m, none⟩) hgr).trans c1), cell_oset hne ((hb1.cell (p := ⟨ga, oa + (2 * m + 1), none⟩) hgr).trans c2)⟩) ((go_at_call 142; refine HCT.out.mono ?_; rintro e w1 ⟨rfl, hb1⟩; have hib1 := hib.below hb1 hlt2; have c0 := hib1.cell m (by omega); have f0 := hib1.frozen m))
      have hs := hib1.set m (by omega) K
      rw [hst] at hs
      have HS : Hid (TB (w1.setCell ⟨w.heap.size, m, none⟩ (.string K)) w.heap.size (srow (upW x l) (m + 1)) ∧ Below w.heap.size w (w1.setCell ⟨w.heap.size, m, none⟩ (.string K))) := ⟨hs, (hbel.trans (hb1.mono hbel.size)).setCell (p := ⟨w.heap.size, m, none⟩) (Nat.le_refl _) _⟩
      clear hs hib1 c0 f0 hb1
      go_wp2
      go_roundw
      case rel => exact ⟨m + 1, by rw [HN.out]; omega, by go_num, HS.out.1, HS.out.2⟩
      case measure => simp [intOf]; omega
    · have hme : m = n / 2 := by omega
      have e : srow (upW x l) m = upW x l := by have := srow_all (upW x l); rw [upW_len, HN.out, ← hme] at this; exact this
      rw [e] at hib
      subst hme
      clear e
      go_wp2
      go_ret
      exact ⟨w.heap.size, rfl, Nat.le_refl _, hib, hbel⟩

/-- a row of the way up -/
def YtR (x : Int) (l : List ByteArray) (d : Nat) (w : World) (v : Value) (wr : World) : Prop := ∃ j : Nat, j ≤ d ∧ Below w.heap.size w wr ∧ ∃ g o, SS wr v g o (upNW x l j)

set_option maxRecDepth 100000 in
set_option maxHeartbeats 1000000 in
theorem topOf_any (v : Value) (ga oa : Nat) (l : List ByteArray) (d : Nat) (x : Int) (w : World) (hv : SS w v ga oa l) (hl : l.length = 2 ^ d) (hd : d ≤ 6) (hz : ∀ j, ∀ s ∈ upNW x l j, s.size ≤ 1048576) (hT : Tb w) :
    Calls Tryz.prog 46 #[v, .int .i64 x] w fun e w' => e = .returned (.string (topW x l d)) ∧ Below w.heap.size w w' := by
  have HT : Hid (Tb w) := hT
  have HL : Hid (l.length = 2 ^ d) := hl
  have HZ : Hid (∀ j, ∀ s ∈ upNW x l j, s.size ≤ 1048576) := hz
  have HS : Hid (YtR x l d w v w) := ⟨0, by omega, Below.refl _ _, ga, oa, hv⟩
  clear hv hl hz hT
  go_enter Tryz.func46, Tryz.ntmps46
  go_wp2
  go_loopw [0] (fun v wr => YtR x l d w v wr) (fun v _ => lenOf v)
  case atStart => exact HS.out
  case round =>
    obtain ⟨j, hj, hbel, g, o, hss⟩ := hrel
    clear HS
    have hln := upNW_len (x := x) HL.out j hj
    have h64 : 2 ^ (d - j) ≤ 2 ^ 6 := Nat.pow_le_pow_right (by omega) (by omega)
    by_cases hlt : j < d
    · have hc := rowAboveW_any _ g o (upNW x l j) x wr hss (by rw [hln]; omega) (HT.out.later hbel)
      have h2 : 2 ^ (d - j) = 2 * 2 ^ (d - (j + 1)) := by rw [show d - j = (d - (j + 1)) + 1 by omega, Nat.pow_succ]; omega
      have hpos : 0 < 2 ^ (d - (j + 1)) := Nat.two_pow_pos _
      obtain ⟨a, cap, rfl, _, _, _⟩ := id hss
      obtain ⟨k, hk⟩ : ∃ k, (upNW x l j).length = k := ⟨_, rfl⟩
      have hk1 : 1 < k ∧ k / 2 < k ∧ k ≤ 64 := by rw [← hk, hln]; omega
      have HN : Hid (∀ g2 W, TB W g2 (upW x (upNW x l j)) → Below wr.heap.size wr W → YtR x l d w (.slice (some ⟨g2, 0, none⟩) (k / 2) (k / 2)) W) := fun g2 W h1 h2 => by
        refine ⟨j + 1, by omega, hbel.trans (h2.mono hbel.size), g2, 0, ?_⟩
        exact h1.ss (k / 2) (k / 2) (by rw [upW_len, hk]) (by omega)
      rw [hk] at hc hss ⊢
      have i1 : (1 : Int) < (k : Int) := by omega
      clear hss hln h2 hk hpos h64
      go_wp2_with fail
      refine hc.mono ?_
      rintro e w2 ⟨g2, rfl, hg2, htb, hb2⟩
      have HK : Hid (YtR x l d w (.slice (some ⟨g2, 0, none⟩) (k / 2) (k / 2)) w2) := HN.out g2 w2 htb hb2
      clear hc htb hb2 HN
      go_wp2
      go_roundw
      case rel => exact HK.out
      case measure => simp [lenOf]; omega
    · have hje : j = d := by omega
      subst hje
      have h1 : (upNW x l j).length = 1 := by rw [hln, Nat.sub_self]
      have hr := topW_eq x l j (by omega)
      have hsz := HZ.out j _ (List.getElem_mem (l := upNW x l j) (n := 0) (by omega))
      rw [hr] at hsz
      obtain ⟨a, cap, rfl, _, hA, hcell⟩ := id hss
      have ea := hA (by omega)
      subst ea
      have c0 := hcell 0 (by omega)
      rw [hr, Nat.add_zero] at c0
      rw [h1]
      obtain ⟨R, hR⟩ : ∃ R, topW x l j = R := ⟨_, rfl⟩
      have HR : Hid (topW x l j = R) := hR
      rw [hR] at c0 hsz
      clear hss h1 hr hln hA hcell HZ hR
      go_wp2_with fail
      refine (Clone_any R _ hsz).mono ?_
      rintro e w1 ⟨rfl, hb1⟩
      go_wp2
      go_ret
      exact ⟨by rw [HR.out]; rfl, hbel.trans (hb1.mono hbel.size)⟩

/-- what each round of sidesInRow holds -/
def YsR (x : Int) (l : List ByteArray) (d s : Nat) (w : World) (r p v : Value) (wr : World) : Prop :=
  ∃ m : Nat, m ≤ d ∧ p = .int .i64 (s / 2 ^ m : Nat) ∧ OS w.heap.size w wr v (sidW x l s m) ∧ ∃ g o, SS wr r g o (upNW x l m) ∧ some g ≠ v.ownBlock

theorem SS.keptW {w w' : World} {v : Value} {g o : Nat} {row : Option Nat} {l : List ByteArray} (h : SS w v g o l) (hg : w.grownBy w' row) (hne : some g ≠ row) : SS w' v g o l := by
  obtain ⟨a, cap, hv, hl, hA, hc⟩ := h
  refine ⟨a, cap, hv, hl, hA, fun j hj => ?_⟩
  have h1 := hc j hj
  have hlt : g < w.heap.size := by
    by_cases hx : g < w.heap.size
    · exact hx
    · have : w.heap[g]? = none := Array.getElem?_eq_none (by omega)
      simp [World.cell?, this] at h1
  exact (World.cell?_of_block (w := w) (w' := w') (a := ⟨g, o + j, none⟩) (hg.block g hlt hne)).trans h1

def YuR (x : Int) (l : List ByteArray) (w : World) (v i : Value) (wr : World) : Prop := ∃ m : Nat, m ≤ l.length / 2 ∧ i = .int .i64 (2 * m : Nat) ∧ OS w.heap.size w wr v ((upW x l).take m)

end Go.Proofs.YtmcejkfknbjjkaaGreatDoor
/-
  Roots of shards combined, and the sides of one of them: the program's answers and the specification's.
-/
namespace Go.Proofs.YtmcejkfknbjjkaaGreatDoor
open Go.RowKit Go.BigFrame
set_option linter.unusedVariables false
set_option linter.unusedSimpArgs false

def lgN (n : Nat) : Nat := if n = 4 then 2 else if n = 2 then 1 else 0
/-- are these roots right? -/
def rtN (n : Nat) : Bool := decide (n = 1) || decide (n = 2) || decide (n = 4)
def rtB (l : List ByteArray) (x : Int) : Bool := rtN l.length && wideB l x
theorem rtN_iff {n : Nat} : rtN n = true ↔ n = 1 ∨ n = 2 ∨ n = 4 := by simp [rtN, or_assoc]
theorem rtN_pow {n : Nat} (h : rtN n = true) : n = 2 ^ lgN n ∧ lgN n ≤ 2 := by
  rcases rtN_iff.1 h with rfl | rfl | rfl <;> decide
theorem rtB_yes {l : List ByteArray} {x : Int} (h : rtB l x = true) : rtN l.length = true ∧ wideB l x = true := by simpa [rtB] using h
theorem hashW_small (k : Int) (l : List ByteArray) (x : Int) : (hashB k l x).size ≤ 1048576 := by
  unfold hashB
  split
  · unfold cutH
    split
    · unfold cutB
      have := digB_size (tagB k l)
      rw [ByteArray.size_extract]
      omega
    · simp [ByteArray.size]
  · simp [ByteArray.size]
theorem up_small {l : List ByteArray} {x : Int} (h : ∀ s ∈ l, s.size ≤ 1048576) : ∀ j, ∀ s ∈ upNW x l j, s.size ≤ 1048576
  | 0, s, hs => h s hs
  | j + 1, s, hs => by
    unfold upNW upW at hs
    obtain ⟨i, _, rfl⟩ := List.mem_map.1 hs
    exact hashW_small _ _ _
theorem wide_small {l : List ByteArray} {x : Int} (h : wideB l x = true) : ∀ s ∈ l, s.size ≤ 1048576 := by
  intro s hs
  unfold wideB at h
  rw [Bool.and_eq_true, List.all_eq_true] at h
  have h1 := h.1 s hs
  have h2 := h.2
  simp at h1 h2
  omega
/-- what CombineRoots is -/
def crB (l : List ByteArray) (x : Int) : ByteArray := if rtB l x = true then topW x l (lgN l.length) else ⟨#[]⟩
/-- what CombineSides is, and whether -/
def csB (l : List ByteArray) (s x : Int) : Bool := rtB l x && decide (0 ≤ s ∧ s < (l.length : Int))
def csL (l : List ByteArray) (s x : Int) : List ByteArray := if csB l s x = true then sidW x l s.toNat (lgN l.length) else []

theorem shC_0 : shC 0 = 1 := rfl
theorem shC_1 : shC 1 = 2 := rfl
theorem shC_2 : shC 2 = 4 := rfl

def YkR (n : Nat) (w : World) (i : Value) (wr : World) : Prop := ∃ m : Nat, m ≤ 3 ∧ i = .int .i64 m ∧ wr = w ∧ Hid (∀ j : Nat, j < m → n ≠ shC (j : Int))

set_option maxRecDepth 100000 in
set_option maxHeartbeats 1000000 in
theorem rootsOk_any (v : Value) (g o : Nat) (l : List ByteArray) (x : Int) (w : World) (hv : SS w v g o l) :
    Calls Tryz.prog 45 #[v, .int .i64 x] w fun e w' => e = .returned (.bool (rtB l x)) ∧ w' = w := by
  have HC : Hid (Calls Tryz.prog 94 #[v, .int .i64 x] w fun e w' => e = .returned (.bool (allW l x)) ∧ w' = w) := allWide_any v g o l x w hv
  obtain ⟨R, hR⟩ : ∃ R, rtB l x = R := ⟨_, rfl⟩
  have e0 : rtB l x = (rtN l.length && (allW l x && decide (1 ≤ x ∧ x ≤ 32))) := rfl
  rw [hR] at e0 ⊢
  obtain ⟨a, cap, rfl, hl, hz1, hz2⟩ := hv
  clear hz1 hz2
  generalize l.length = n at *
  generalize allW l x = b at *
  have HE : Hid (R = (rtN n && (b && decide (1 ≤ x ∧ x ≤ 32)))) := e0
  have HST : Hid (YkR n w (.int .i64 0) w) := ⟨0, by omega, rfl, rfl, fun j h => by omega⟩
  clear hR e0
  go_enter Tryz.func45, Tryz.ntmps45
  go_wp2
  go_loopw [6] (fun i wr => YkR n w i wr) (fun i _ => 3 - (intOf i).toNat)
  case atStart => exact HST.out
  case round =>
    obtain ⟨m, hm, rfl, rfl, HI⟩ := hrel
    clear HST
    by_cases hlt : m < 3
    · have i1 : (m : Int) < 3 := by omega
      have hsc : shC (m : Int) = 1 ∨ shC (m : Int) = 2 ∨ shC (m : Int) = 4 := shC_cases _
      have HY : Hid (n = shC (m : Int) → rtN n = true) := fun h => by rw [h]; exact rtN_iff.2 hsc
      have HN : Hid (n ≠ shC (m : Int) → ∀ j : Nat, j < m + 1 → n ≠ shC (j : Int)) := fun h j hj => by
        rcases Nat.lt_or_ge j m with h1 | h1
        · exact HI.out j h1
        · have : j = m := by omega
          subst this
          exact h
      have hcc := shardCount_any (m : Int) wr
      generalize shC (m : Int) = C at *
      go_wp2_with fail
      refine hcc.mono ?_
      rintro e w1 ⟨rfl, rfl⟩
      clear hcc HI
      by_cases hk : n = C
      · have hb : R = (b && decide (1 ≤ x ∧ x ≤ 32)) := by rw [HE.out, HY.out hk]; rfl
        subst hk
        clear HY HN HE
        go_wp2_with fail
        refine (widthOk_any _ _).mono ?_
        rintro e w1 ⟨rfl, rfl⟩
        cases hd : decide (1 ≤ x ∧ x ≤ 32) with
        | false =>
          have hb2 : R = false := by rw [hb, hd]; simp
          subst hb2
          clear hb HC
          go_wp2
          try rw [Exit.noGoto_ret]
          go_ret
          exact ⟨rfl, rfl⟩
        | true =>
          have hb2 : R = b := by rw [hb, hd]; simp
          subst hb2
          clear hb
          go_wp2_with fail
          refine HC.out.mono ?_
          rintro e w1 ⟨rfl, rfl⟩
          go_wp2
          try rw [Exit.noGoto_ret]
          go_ret
          exact ⟨rfl, rfl⟩
      · have HN2 : Hid (∀ j : Nat, j < m + 1 → n ≠ shC (j : Int)) := HN.out hk
        have q : ((n : Int) == (C : Int)) = false := by simp; omega
        clear HY HN hk
        go_wp2
        go_roundw
        case rel => exact ⟨m + 1, by omega, by go_num, rfl, HN2⟩
        case measure => simp [intOf]; omega
    · have hme : m = 3 := by omega
      subst hme
      have hRf : R = false := by
        have h0 := HI.out 0 (by omega)
        have h1 := HI.out 1 (by omega)
        have h2 := HI.out 2 (by omega)
        have : rtN n = false := by
          cases h : rtN n with
          | false => rfl
          | true =>
            rcases rtN_iff.1 h with rfl | rfl | rfl
            · exact absurd rfl h0
            · exact absurd rfl h1
            · exact absurd rfl h2
        rw [HE.out, this]
        rfl
      subst hRf
      clear HI HE HC
      go_wp2
      go_ret
      exact ⟨rfl, rfl⟩

set_option maxRecDepth 100000 in
set_option maxHeartbeats 1000000 in
theorem CombineRoots_any (v : Value) (g o : Nat) (l : List ByteArray) (x : Int) (w : World) (hv : SS w v g o l) (hT : Tb w) :
    Calls Tryz.prog 12 #[v, .int .i64 x] w fun e w' => e = .returned (.tuple #[.string (crB l x), .bool (rtB l x)]) ∧ Below w.heap.size w w' := by
  have hc := rootsOk_any v g o l x w hv
  cases h : rtB l x with
  | false =>
    have e1 : crB l x = ⟨#[]⟩ := by unfold crB; rw [h]; rfl
    rw [e1]
    rw [h] at hc
    clear e1 hT h
    go_enter Tryz.func12, Tryz.ntmps12
    go_wp2_with fail
    refine hc.mono ?_
    rintro e w1 ⟨rfl, rfl⟩
    go_wp2
    go_ret2
    exact ⟨rfl, Below.refl _ _⟩
  | true =>
    obtain ⟨h1, h2⟩ := rtB_yes h
    have e1 : crB l x = topW x l (lgN l.length) := by unfold crB; rw [h]; rfl
    rw [e1]
    have ht := topOf_any v g o l (lgN l.length) x w hv (rtN_pow h1).1 (by have := (rtN_pow h1).2; omega) (up_small (wide_small h2)) hT
    rw [h] at hc
    generalize topW x l (lgN l.length) = R at *
    clear e1 hT h h1 h2
    go_enter Tryz.func12, Tryz.ntmps12
    go_wp2_with fail
    refine hc.mono ?_
    rintro e w1 ⟨rfl, rfl⟩
    go_wp2_with fail
    refine ht.mono ?_
    rintro e w2 ⟨rfl, hb⟩
    go_wp2
    go_ret2
    exact ⟨rfl, hb⟩

/-- sides answered, and whether -/
def CsP (l : List ByteArray) (R : Bool) (w : World) (e : Ending) (w' : World) : Prop := ∃ v, e = .returned (.tuple #[v, .bool R]) ∧ OS w.heap.size w w' v l

end Go.Proofs.YtmcejkfknbjjkaaGreatDoor
/-
  Roots of shards combined, and the sides of one of them: the specification's answers.
-/
namespace Go.Proofs.YtmcejkfknbjjkaaGreatDoor
open Go.RowKit Go.BigFrame
set_option linter.unusedVariables false
set_option linter.unusedSimpArgs false

/-- a row of texts appended, and where it lies then -/
theorem wp_appRowW {w : World} {ops : Array Oper} {rest : List Oper} {o : Oper} {a : Act} {Q : Exit → Act → World → Prop} (hgd : o.guard = none) (s x : Operand)
    (ho : o.op = .call { callee := .builtin .append, args := #[s, x], argTypes := #[29, 29] })
    (B : Nat) (w0 : World) (v u : Value) (l r : List ByteArray) (hs : a.eval s = v) (hown : OS B w0 w v l) (hx : a.eval x = u) (g of : Nat) (hr : SS w u g of r) (h0 : 0 < r.length) (hlen : l.length + r.length ≤ 1000000)
    (h : ∀ g5 cap5 w', OS B w0 w' (.slice (some ⟨g5, 0, none⟩) (l.length + r.length) cap5) (l ++ r) → w.grownBy w' v.ownBlock → (v.ownBlock = some g5 ∨ g5 = w.heap.size) → wpList Tryz.prog ops Q rest (a.put o.dst (.slice (some ⟨g5, 0, none⟩) (l.length + r.length) cap5)) w') : wpList Tryz.prog ops Q (o :: rest) a w := by
  obtain ⟨i0, hi, hz0, hz1, hz2⟩ := info_parts Tryz.info9
  obtain ⟨ao, cap, rfl, _, hA, hc⟩ := hr
  have ea := hA h0
  subst ea
  refine wpList_append_lies w hgd s x 29 ho B 9 i0 (.string ByteArray.empty) 1 16 Tryz.underlying29 hi hz0 hz1 hz2 rfl (by decide) v l.length (svs l) hs hown.1 ⟨g, of, none⟩ r.length cap (svs r) hx (by simp [svs]) ?_
    (fun u hu => by simp [svs] at hu; obtain ⟨b, _, rfl⟩ := hu; rfl) (by omega) (by unfold maxLen; omega) (by omega) hown.2.2 w.heap.size rfl ?_
  · intro j u hj
    have hj2 : j < r.length := by
      have := (List.getElem?_eq_some_iff.1 hj).1
      simpa [svs] using this
    rw [Addr.add_mid, hc j hj2]
    simp [svs, List.getElem?_eq_getElem hj2] at hj
    rw [hj]
  · intro g5 cap5 w' h1 h2 h3 _
    refine h g5 cap5 w' ⟨by rw [List.length_append, svs_append]; exact h1, hown.2.1.grown h2 hown.2.2 (fun k hk => (hown.1.lt k hk).1), ?_⟩ h2 h3
    exact Nat.le_trans hown.2.2 h2.size

theorem OS.upW {B : Nat} {w0 w w' : World} {u : Value} {l : List ByteArray} (hb : Below B w0 w) (hB : B ≤ w.heap.size) (h : OS w.heap.size w w' u l) : OS B w0 w' u l := by
  refine ⟨⟨h.1.1, ?_⟩, hb.trans (h.2.1.mono hB), Nat.le_trans hB h.2.2⟩
  rcases h.1.2 with hn | ⟨g, cap, cur, hv, hbg, rest⟩
  · exact .inl hn
  · exact .inr ⟨g, cap, cur, hv, Nat.le_trans hB hbg, rest⟩

def YvR (x : Int) (l : List ByteArray) (d : Nat) (w : World) (v : Value) (wr : World) : Prop := ∃ j : Nat, j ≤ d ∧ OS w.heap.size w wr v (upNW x l j)

/-- what each round holds -/
def YwR (x : Int) (l : List ByteArray) (d s : Nat) (w : World) (p u v : Value) (wr : World) : Prop :=
  ∃ m : Nat, m ≤ d ∧ p = .int .i64 (s / 2 ^ m : Nat) ∧ OS w.heap.size w wr u (sidW x l s m) ∧ OS w.heap.size w wr v (upNW x l m) ∧ (∀ g, u.ownBlock = some g → v.ownBlock ≠ some g)

/-- a row that stands beside the one that grew -/
theorem OS.beside {B : Nat} {w0 w w' : World} {v : Value} {l : List ByteArray} {row : Option Nat} (h : OS B w0 w v l) (hg : w.grownBy w' row) (hb : Below B w0 w') (hne : ∀ g, row = some g → v.ownBlock ≠ some g) : OS B w0 w' v l := by
  refine ⟨⟨h.1.1, ?_⟩, hb, Nat.le_trans h.2.2 hg.size⟩
  rcases h.1.2 with hn | ⟨g, cap, cur, hv, hbg, hgg, rest⟩
  · exact .inl hn
  · refine .inr ⟨g, cap, cur, hv, hbg, ?_, rest⟩
    rw [hg.block g (Array.getElem?_eq_some_iff.1 hgg).1 (fun e => hne g e.symm (by rw [hv]; rfl))]
    exact hgg

end Go.Proofs.YtmcejkfknbjjkaaGreatDoor
/-
  Plain facts of shards: what their roots combine to, and how a proof within one of them goes on up.
-/
namespace Go.Proofs.YtmcejkfknbjjkaaGreatDoor
open Go.RowKit
set_option linter.unusedVariables false
set_option linter.unusedSimpArgs false

namespace TR
variable {β : Type} {hN : β → β → β}
theorem fold_shift : ∀ (s : List β) (b : Nat → Bool) (i : Nat) (h : β), fold hN b i h s = fold hN (fun j => b (i + j)) 0 h s
  | [], b, i, h => rfl
  | a :: t, b, i, h => by
    show fold hN b (i + 1) (if b i then hN a h else hN h a) t = fold hN (fun j => b (i + j)) (0 + 1) (if b (i + 0) then hN a h else hN h a) t
    rw [fold_shift t b (i + 1), fold_shift t (fun j => b (i + j)) (0 + 1), Nat.add_zero]
    congr 1
    funext j
    congr 1
    omega
end TR

/-- the places of a height, side by side -/
noncomputable def rtL (x : Int) (L : List Le) (h d : Nat) : List ByteArray := (List.range (2 ^ d)).map fun i => trB x h i L
theorem rtL_len (x : Int) (L : List Le) (h d : Nat) : (rtL x L h d).length = 2 ^ d := by simp [rtL]
theorem rtL_getD (x : Int) (L : List Le) (h d i : Nat) (hi : i < 2 ^ d) : (rtL x L h d).getD i ByteArray.empty = trB x h i L := by
  rw [List.getD_eq_getElem?_getD, List.getElem?_eq_getElem (by rw [rtL_len]; exact hi)]
  simp [rtL]
theorem rtL_up (x : Int) (L : List Le) (h d : Nat) : upW x (rtL x L h (d + 1)) = rtL x L (h + 1) d := by
  refine List.ext_getElem (by rw [upW_len, rtL_len, rtL_len, Nat.pow_succ]; omega) fun i h1 h2 => ?_
  rw [rtL_len] at h2
  rw [upW_at]
  unfold upAtW
  rw [rtL_getD _ _ _ _ _ (by rw [Nat.pow_succ]; omega), rtL_getD _ _ _ _ _ (by rw [Nat.pow_succ]; omega)]
  simp [rtL]
  rfl
theorem rtL_upN (x : Int) (L : List Le) (h d : Nat) : ∀ j, j ≤ d → upNW x (rtL x L h d) j = rtL x L (h + j) (d - j)
  | 0, _ => rfl
  | j + 1, hj => by
    unfold upNW
    rw [rtL_upN x L h d j (by omega), show d - j = (d - (j + 1)) + 1 by omega, rtL_up]
    rfl
theorem rtL_top (x : Int) (L : List Le) (h d : Nat) : topW x (rtL x L h d) d = trB x (h + d) 0 L := by
  unfold topW
  rw [rtL_upN x L h d d (Nat.le_refl _), Nat.sub_self, rtL_getD _ _ _ _ _ (by simp)]
theorem div_div2 (N h m : Nat) : N / 2 ^ h / 2 ^ m = N / 2 ^ (h + m) := by rw [Nat.div_div_eq_div_mul, ← Nat.pow_add]
theorem rtL_sides (x : Int) (L : List Le) (N h d : Nat) (hN : N < 2 ^ (h + d)) : ∀ m, m ≤ d → sidW x (rtL x L h d) (N / 2 ^ h) m = TR.sides idxL (hnB x) (bhB x) N L h m
  | 0, _ => rfl
  | m + 1, hm => by
    rw [TR.sides_snoc]
    unfold sidW
    rw [rtL_sides x L N h d hN m (by omega), rtL_upN x L h d m (by omega), div_div2]
    have hlt : N / 2 ^ (h + m) < 2 ^ (d - m) := by
      rw [Nat.div_lt_iff_lt_mul (Nat.two_pow_pos _), ← Nat.pow_add, show d - m + (h + m) = h + d by omega]
      exact hN
    have he : 2 ^ (d - m) % 2 = 0 := by rw [show d - m = (d - (m + 1)) + 1 by omega, Nat.pow_succ]; omega
    rw [rtL_getD _ _ _ _ _ (oth_lt he hlt)]
    rfl
/-- a place folds up to the root -/
theorem fold_part (x : Int) (L : List Le) (N h d : Nat) (hN : N ≤ 255) (hd : h + d = 8) : fuF x (N : Int) d (trB x h (N / 2 ^ h) L) (TR.sides idxL (hnB x) (bhB x) N L h d) = trB x 8 0 L := by
  have h1 := TR.fold_up (idx := idxL) (hN := hnB x) (hB := bhB x) (fun i => decide (N / 2 ^ i % 2 = 1)) N (fun i => rfl) L d h
  rw [TR.fold_shift, hd, Nat.div_eq_of_lt (show N < 2 ^ 8 by omega)] at h1
  unfold fuF
  refine Eq.trans (TR.fold_congr _ 0 _ fun j _ hj => ?_) h1
  rw [TR.sides_len] at hj
  unfold fbB
  rw [show d - 1 - j = 7 - (h + j) by omega, bit_of N (h + j) (by omega) hN]
  have h2 : N / 2 ^ (h + j) % 2 < 2 := Nat.mod_lt _ (by omega)
  generalize N / 2 ^ (h + j) % 2 = q at *
  have : q = 0 ∨ q = 1 := by omega
  rcases this with rfl | rfl <;> rfl

/-! parts -/
theorem shL_und (L : List Le) (d i : Nat) (hd : d ≤ 2) : shL L (d : Int) (i : Int) = TR.und idxL (8 - d) i L := by
  unfold shL TR.und
  refine List.filter_congr fun f _ => ?_
  unfold shP idxL shN
  have e : shQ (idxN f.n) (d : Int) = idxN f.n / 2 ^ (8 - d) := by
    unfold shQ
    rw [if_pos (by omega), show (8 - (d : Int)).toNat = 8 - d by omega]
  rw [e]
  generalize idxN f.n / 2 ^ (8 - d) = q
  by_cases h : q = i
  · rw [decide_eq_true h, decide_eq_true (by omega)]
  · rw [decide_eq_false h, decide_eq_false (by omega)]
theorem shN_div (t : ByteArray) (d : Nat) (hd : d ≤ 2) : shN t (d : Int) = idxN t / 2 ^ (8 - d) := by
  unfold shN shQ
  rw [if_pos (by omega), show (8 - (d : Int)).toNat = 8 - d by omega]
theorem ok_und {L : List Le} (h : LV.LOk L) (k p : Nat) : LV.LOk (TR.und idxL k p L) := LV.leavesB_iff.1 (leaves_und h k p)
/-- a part's own hash is that of its place -/
theorem tr_part (x : Int) (L : List Le) (h p : Nat) : trB x h p (TR.und idxL h p L) = trB x h p L := TR.tr_of (idx := idxL) (hN := hnB x) (hB := bhB x) h 0 p p L (by simp)
theorem sr_at {L : List Le} {x : Int} (h : 1 ≤ x ∧ x ≤ 32) (hL : LV.LOk L) (d i : Nat) (hd : d ≤ 2) (hi : i < 2 ^ d) : srB L (d : Int) (i : Int) x = trB x (8 - d) i L := by
  unfold srB nhB
  have e : (2 : Int) ^ (d : Int).toNat = ((2 ^ d : Nat) : Int) := by simp
  rw [if_pos (by omega), if_pos ⟨LV.leavesB_iff.2 hL, by omega, by rw [e]; omega, h⟩]
  rfl
theorem shC_pow (d : Nat) (hd : d ≤ 2) : shC (d : Int) = 2 ^ d := by
  unfold shC
  rw [if_pos (by omega)]
  rfl
theorem lgN_pow (d : Nat) (hd : d ≤ 2) : lgN (2 ^ d) = d := by
  have : d = 0 ∨ d = 1 ∨ d = 2 := by omega
  rcases this with rfl | rfl | rfl <;> rfl
theorem rtL_right {L : List Le} {x : Int} (h : 1 ≤ x ∧ x ≤ 32) (hL : LV.LOk L) (hh d : Nat) (hd : d ≤ 2) : rtB (rtL x L hh d) x = true := by
  unfold rtB
  have h1 : rtN (rtL x L hh d).length = true := by
    rw [rtL_len]
    have : d = 0 ∨ d = 1 ∨ d = 2 := by omega
    rcases this with rfl | rfl | rfl <;> rfl
  rw [h1, wideB_good (fun j hj => ?_), decide_eq_true h]
  · rfl
  · have : (rtL x L hh d)[j] = trB x hh j L := by simp [rtL]
    rw [this, trB_size h hL]
    omega
/-- the roots of all shards combine to the root of all -/
theorem cr_root {L : List Le} {x : Int} (h : 1 ≤ x ∧ x ≤ 32) (hL : LV.LOk L) (d : Nat) (hd : d ≤ 2) : crB (rtL x L (8 - d) d) x = trB x 8 0 L := by
  unfold crB
  rw [rtL_right h hL _ d hd, if_pos rfl, rtL_len, lgN_pow d hd, rtL_top, show 8 - d + d = 8 by omega]
theorem cs_sides {L : List Le} {x : Int} (h : 1 ≤ x ∧ x ≤ 32) (hL : LV.LOk L) (N d : Nat) (hN : N ≤ 255) (hd : d ≤ 2) :
    csB (rtL x L (8 - d) d) ((N / 2 ^ (8 - d) : Nat) : Int) x = true ∧ csL (rtL x L (8 - d) d) ((N / 2 ^ (8 - d) : Nat) : Int) x = TR.sides idxL (hnB x) (bhB x) N L (8 - d) d := by
  have hlt : N / 2 ^ (8 - d) < 2 ^ d := by
    rw [Nat.div_lt_iff_lt_mul (Nat.two_pow_pos _), ← Nat.pow_add, show d + (8 - d) = 8 by omega]
    show N < 256
    omega
  have h1 : csB (rtL x L (8 - d) d) ((N / 2 ^ (8 - d) : Nat) : Int) x = true := by
    unfold csB
    rw [rtL_right h hL _ d hd, rtL_len, Bool.true_and, decide_eq_true_iff]
    exact ⟨Int.natCast_nonneg _, Int.ofNat_lt.2 hlt⟩
  refine ⟨h1, ?_⟩
  unfold csL
  rw [h1, if_pos rfl, rtL_len, lgN_pow d hd, Int.toNat_natCast]
  exact rtL_sides x L N (8 - d) d (by rw [show 8 - d + d = 8 by omega]; show N < 256; omega) d (Nat.le_refl _)
/-- .. and a place's hash goes on up to it -/
theorem fu_part {L : List Le} {x : Int} (N d : Nat) (hN : N ≤ 255) (hd : d ≤ 2) : fuB (trB x (8 - d) (N / 2 ^ (8 - d)) L) (N : Int) (d : Int) (TR.sides idxL (hnB x) (bhB x) N L (8 - d) d) x = trB x 8 0 L := by
  unfold fuB
  rw [if_pos ⟨by omega, by rw [TR.sides_len]; omega⟩, Int.toNat_natCast]
  exact fold_part x L N (8 - d) d hN (by omega)

end Go.Proofs.YtmcejkfknbjjkaaGreatDoor
