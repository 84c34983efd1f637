/-
  Texts laid together: Lq, Yi, Nb, Yj.
-/
import Derived.Test.YthlgohplljcgfaaGreatDoorPkESN8
/-
  What putting and dropping a leaf answers: the list that is left, and whether it was done.
-/
namespace Go.Proofs.YthlgohplljcgfaaGreatDoor
open Go.RowKit Go.BigFrame Go.Sort
set_option linter.unusedVariables false

/-- a list answered, and whether -/
def LqP (M : List Le) (R : Bool) (w : World) (e : Ending) (w' : World) : Prop := ∃ a cap g, e = .returned (.tuple #[.slice a M.length cap, .bool R]) ∧ RW 2 lcs w' (.slice a M.length cap) g M ∧ w.heap.size ≤ g ∧ Below w.heap.size w w'
/-- a list answered, and whether; where it is nil it has no room -/
def LqN (M : List Le) (R : Bool) (w : World) (e : Ending) (w' : World) : Prop := ∃ a cap g, e = .returned (.tuple #[.slice a M.length cap, .bool R]) ∧ RW 2 lcs w' (.slice a M.length cap) g M ∧ w.heap.size ≤ g ∧ Below w.heap.size w w' ∧ (a = none → cap = 0)
theorem LqN.plain {M : List Le} {R : Bool} {w w' : World} {e : Ending} (h : LqN M R w e w') : LqP M R w e w' := by
  obtain ⟨a, cap, g, h1, h2, h3, h4, _⟩ := h
  exact ⟨a, cap, g, h1, h2, h3, h4⟩
theorem OL.nil0 {B : Nat} {w0 w : World} {a : Option Addr} {n cap : Nat} {l : List Le} (h : OL B w0 w (.slice a n cap) l) : a = none → cap = 0 := by
  obtain ⟨⟨_, h1⟩, _, _⟩ := h
  rcases h1 with ⟨h1, _⟩ | ⟨g, c, cur, h1, _⟩
  · simp at h1; exact fun _ => h1.2.2
  · simp at h1; exact fun e => by rw [e] at h1; simp at h1
theorem putR_no {L : List Le} {f : Le} (h : LV.putB L f = false) : LV.putR L f = L := by unfold LV.putR; rw [h]; rfl
theorem putR_yes {L : List Le} {f : Le} (h : LV.putB L f = true) : LV.putR L f = LV.put L f := by unfold LV.putR; rw [h]; rfl
theorem dropR_no {L : List Le} {x : ByteArray} (h : LV.dropB L x = false) : LV.dropR L x = L := by unfold LV.dropR; rw [h]; rfl
theorem dropR_yes {L : List Le} {x : ByteArray} (h : LV.dropB L x = true) : LV.dropR L x = LV.wout L x := by unfold LV.dropR; rw [h]; rfl

end Go.Proofs.YthlgohplljcgfaaGreatDoor
/-
  All parts together, in order: plain facts.
-/
namespace Go.Proofs.YthlgohplljcgfaaGreatDoor
set_option linter.unusedVariables false
namespace LV
open F (ltN ltN_eq ltN_irrefl ltN_trans ltN_tri ltN_ne ltN_asymm)

/-- are these leaves right when they are put in order? -/
def AllOk (A : List Le) : Prop := ∃ L : List Le, L.Perm A ∧ LOk L
open Classical in
noncomputable def allB (A : List Le) : Bool := decide (AllOk A)
open Classical in
noncomputable def allR (A : List Le) : List Le := if h : AllOk A then h.choose else []
theorem allB_yes {A : List Le} (h : AllOk A) : allB A = true := by simp [allB, h]
theorem allB_no {A : List Le} (h : ¬ AllOk A) : allB A = false := by simp [allB, h]
theorem allR_no {A : List Le} (h : ¬ AllOk A) : allR A = [] := by simp [allR, h]

def Dist (A : List Le) : Prop := A.Pairwise fun f g => f.n ≠ g.n
theorem Dist.perm {A B : List Le} (h : Dist A) (hp : A.Perm B) : Dist B := hp.pairwise h (fun {a b} h => Ne.symm h)
theorem srt_dist {L : List Le} (h : Srt L) : Dist L := List.Pairwise.imp (fun h => ltN_ne h) h
theorem AllOk.dist {A : List Le} (h : AllOk A) : Dist A := by
  obtain ⟨L, hp, hL⟩ := h
  exact (srt_dist hL.2.2).perm hp
theorem AllOk.mem {A : List Le} (h : AllOk A) {f : Le} (hf : f ∈ A) : leB f = true := by
  obtain ⟨L, hp, hL⟩ := h
  exact hL.2.1 f (hp.mem_iff.2 hf)
theorem AllOk.len {A : List Le} (h : AllOk A) : A.length ≤ 24 := by
  obtain ⟨L, hp, hL⟩ := h
  rw [← hp.length_eq]
  exact hL.1
theorem allR_yes {A L : List Le} (hp : L.Perm A) (hL : LOk L) : allR A = L := by
  have h : AllOk A := ⟨L, hp, hL⟩
  have e : allR A = h.choose := by simp [allR, h]
  have h1 := h.choose_spec
  rw [e]
  exact srt_ext h1.2.2.2 hL.2.2 (fun f => by rw [h1.1.mem_iff, hp.mem_iff])

/-- in order, though alike names may stand there -/
def Wsrt (L : List Le) : Prop := L.Pairwise fun f g => ltN g.n f.n = false
theorem wsrt_srt {L : List Le} (h : Wsrt L) (hd : Dist L) : Srt L := by
  have h2 : L.Pairwise fun f g => ltN g.n f.n = false ∧ f.n ≠ g.n := List.Pairwise.and h hd
  refine List.Pairwise.imp ?_ h2
  rintro a b ⟨h3, h4⟩
  rcases ltN_tri a.n b.n with h5 | h5 | h5
  · exact h5
  · exact absurd h5 h4
  · rw [h3] at h5; cases h5
theorem wsrt_ok {A L : List Le} (hp : L.Perm A) (hw : Wsrt L) : leavesB L = allB A := by
  by_cases h : AllOk A
  · rw [allB_yes h, leavesB_iff]
    have hd : Dist L := h.dist.perm hp.symm
    exact ⟨by rw [hp.length_eq]; exact h.len, fun f hf => h.mem (hp.mem_iff.1 hf), wsrt_srt hw hd⟩
  · rw [allB_no h, leavesB_no]
    exact fun hL => h ⟨L, hp, hL⟩

/-- O is what putting the leaves A one by one has made -/
def PutI (A O : List Le) : Prop := LOk O ∧ (O.Perm A ∨ (O.length < A.length ∧ ¬ Dist A))
theorem ok_none : LOk [] := ⟨by simp, fun f hf => by simp at hf, List.Pairwise.nil⟩
theorem PutI.zero : PutI [] [] := ⟨ok_none, .inl (List.Perm.refl _)⟩
theorem put_perm {O : List Le} {f : Le} (h : ∀ g ∈ O, g.n ≠ f.n) : (put O f).Perm (f :: O) := by
  have h1 := List.filter_append_perm (fun g : Le => ltN g.n f.n) O
  have e : O.filter (fun g => !ltN g.n f.n) = O.filter (fun g => ltN f.n g.n) := by
    refine List.filter_congr fun g hg => ?_
    rcases ltN_tri g.n f.n with h2 | h2 | h2
    · rw [h2, ltN_asymm h2]; rfl
    · exact absurd h2 (h g hg)
    · rw [h2, ltN_asymm h2]; rfl
  rw [e] at h1
  unfold put
  exact List.perm_middle.trans (h1.cons f)
theorem dist_app {A B : List Le} (h : Dist (A ++ B)) : Dist A := (List.pairwise_append.1 h).1
theorem PutI.step {A O : List Le} {f : Le} (h : PutI A O) (hb : putB O f = true) : PutI (A ++ [f]) (put O f) := by
  refine ⟨putB_ok hb, ?_⟩
  obtain ⟨hO, hp | ⟨hl, hd⟩⟩ := h
  · cases hq : find O f.n with
    | none => exact .inl (((put_perm (find_none hq)).trans (hp.cons f)).trans (List.perm_append_singleton f A).symm)
    | some g =>
      right
      rw [len_put_in hO.2.2 hq rfl]
      refine ⟨by rw [hp.length_eq]; simp, fun hd => ?_⟩
      obtain ⟨h1, h2⟩ := find_some hq
      exact (List.pairwise_append.1 hd).2.2 g (hp.mem_iff.1 h1) f (by simp) h2
  · right
    refine ⟨?_, fun h => hd (dist_app h)⟩
    have := len_wout_le O f.n
    rw [len_put, List.length_append]
    simp
    omega
theorem PutI.stop {A O B : List Le} {f : Le} (h : PutI A O) (hb : putB O f = false) : ¬ AllOk (A ++ f :: B) := by
  intro hA
  obtain ⟨hO, hp | ⟨hl, hd⟩⟩ := h
  · have hf := hA.mem (f := f) (by simp)
    have hl := hA.len
    unfold putB at hb
    rw [leavesB_iff.2 hO, hf] at hb
    simp only [Bool.true_and, Bool.or_eq_false_iff, decide_eq_false_iff_not] at hb
    have := hp.length_eq
    rw [List.length_append] at hl
    simp at hl
    omega
  · exact hd (dist_app hA.dist)
theorem PutI.done {A O : List Le} (h : PutI A O) (hl : O.length = A.length) : AllOk A ∧ allR A = O := by
  obtain ⟨hO, hp | ⟨hl2, hd⟩⟩ := h
  · exact ⟨⟨O, hp, hO⟩, allR_yes hp hO⟩
  · omega
theorem PutI.short {A O : List Le} (h : PutI A O) (hl : O.length ≠ A.length) : ¬ AllOk A := by
  obtain ⟨hO, hp | ⟨hl2, hd⟩⟩ := h
  · exact absurd hp.length_eq hl
  · exact fun hA => hd hA.dist
theorem PutI.len {A O : List Le} (h : PutI A O) : O.length ≤ A.length := by
  obtain ⟨hO, hp | ⟨hl2, hd⟩⟩ := h
  · exact Nat.le_of_eq hp.length_eq
  · omega

/-- cut by a number below N, all parts together are all -/
theorem parts_perm (s : Le → Nat) (L : List Le) : ∀ N, ((List.range N).flatMap fun i => L.filter fun f => decide (s f = i)).Perm (L.filter fun f => decide (s f < N))
  | 0 => by simp
  | N + 1 => by
    rw [List.range_succ, List.flatMap_append, List.flatMap_singleton]
    have h1 := List.filter_append_perm (fun f : Le => decide (s f < N)) (L.filter fun f => decide (s f < N + 1))
    rw [List.filter_filter, List.filter_filter] at h1
    have e1 : (L.filter fun f => decide (s f < N) && decide (s f < N + 1)) = L.filter fun f => decide (s f < N) := List.filter_congr fun f _ => by
      by_cases h : s f < N
      · rw [decide_eq_true h, decide_eq_true (by omega)]; rfl
      · rw [decide_eq_false h]; rfl
    have e2 : (L.filter fun f => !decide (s f < N) && decide (s f < N + 1)) = L.filter fun f => decide (s f = N) := List.filter_congr fun f _ => by
      by_cases h : s f < N
      · rw [decide_eq_true h, decide_eq_false (show ¬ s f = N by omega)]; rfl
      · by_cases h2 : s f = N
        · rw [decide_eq_false h, decide_eq_true h2, decide_eq_true (by omega)]; rfl
        · rw [decide_eq_false h, decide_eq_false h2, decide_eq_false (by omega)]; rfl
    rw [e1, e2] at h1
    exact ((parts_perm s L N).append_right _).trans h1
theorem parts_all (s : Le → Nat) (L : List Le) (N : Nat) (h : ∀ f ∈ L, s f < N) : ((List.range N).flatMap fun i => L.filter fun f => decide (s f = i)).Perm L := by
  have h1 := parts_perm s L N
  rw [List.filter_eq_self.2 (fun f hf => by simpa using h f hf)] at h1
  exact h1
end LV

end Go.Proofs.YthlgohplljcgfaaGreatDoor
/-
  A leaf put into a list: the specification's answer.
-/
namespace Go.Proofs.YthlgohplljcgfaaGreatDoor
open Go.RowKit Go.BigFrame Go.Sort
set_option linter.unusedVariables false
set_option linter.unusedSimpArgs false

theorem put_wout (L : List Le) (f : Le) : (LV.wout L f.n).filter (fun g => F.ltN g.n f.n) ++ [f] ++ (LV.wout L f.n).filter (fun g => F.ltN f.n g.n) = LV.put L f := by
  unfold LV.put LV.wout
  rw [List.filter_filter, List.filter_filter, List.append_assoc]
  have e1 : (fun a : Le => F.ltN a.n f.n && !decide (a.n = f.n)) = fun a => F.ltN a.n f.n := by
    funext a
    cases h : F.ltN a.n f.n
    · rfl
    · rw [decide_eq_false (F.ltN_ne h)]; rfl
  have e2 : (fun a : Le => F.ltN f.n a.n && !decide (a.n = f.n)) = fun a => F.ltN f.n a.n := by
    funext a
    cases h : F.ltN f.n a.n
    · rfl
    · rw [decide_eq_false (fun e => F.ltN_ne h e.symm)]; rfl
  rw [e1, e2]
  rfl
theorem small_put {L : List Le} {f : Le} (h : SmallL L) (hn : f.n.size ≤ 1048576) (hv : f.v.size ≤ 1048576) : SmallL (LV.put L f) := fun g hg => by
  rcases LV.mem_put.1 hg with rfl | ⟨h1, _⟩
  · exact ⟨hn, hv⟩
  · exact h g h1

/-- what grows, and the row that it is taken of -/
def NbS (w wr : World) (u : Value) (l : List Le) (v : Value) (g : Nat) (K : List Le) : Prop := OL w.heap.size w wr u l ∧ RS 2 lcs wr v g 0 K ∧ (0 < K.length → u.ownBlock ≠ some g ∧ g < wr.heap.size)
theorem NbS.later {w wr W : World} {u v : Value} {l K : List Le} {g : Nat} (h : NbS w wr u l v g K) (hb : Below wr.heap.size wr W) : NbS w W u l v g K := ⟨h.1.later hb, h.2.1.later hb, fun hp => ⟨(h.2.2 hp).1, Nat.lt_of_lt_of_le (h.2.2 hp).2 hb.size⟩⟩
theorem NbS.app {w wr W : World} {u v : Value} {l l' K : List Le} {g g5 n5 cap5 : Nat} (h : NbS w wr u l v g K) (ho : OL w.heap.size w W (.slice (some ⟨g5, 0, none⟩) n5 cap5) l') (hg : wr.grownBy W u.ownBlock) (hl : u.ownBlock = some g5 ∨ g5 = wr.heap.size) : NbS w W (.slice (some ⟨g5, 0, none⟩) n5 cap5) l' v g K := by
  refine ⟨ho, h.2.1.grown hg (fun hp => fun e => (h.2.2 hp).1 e.symm), fun hp => ⟨?_, Nat.lt_of_lt_of_le (h.2.2 hp).2 hg.size⟩⟩
  intro e
  have e5 : g5 = g := by simpa [Value.ownBlock] using e
  rcases hl with h1 | h1
  · exact (h.2.2 hp).1 (by rw [h1, e5])
  · have := (h.2.2 hp).2
    omega

theorem le_of_notL {a b : ByteArray} (h : F.ltN b a = false) : (Op.bytesLess a.toList b.toList || a.toList == b.toList) = true := by
  rcases F.ltN_tri a b with h1 | h1 | h1
  · have : Op.bytesLess a.toList b.toList = true := h1
    rw [this]; rfl
  · subst h1; simp
  · rw [h] at h1; cases h1
theorem gt_ofL {a b : ByteArray} (h : F.ltN b a = true) : (Op.bytesLess a.toList b.toList || a.toList == b.toList) = false := by
  have h1 : Op.bytesLess a.toList b.toList = false := F.ltN_asymm h
  rw [h1, LV.bytes_ne (F.ltN_ne h).symm]
  rfl
def ltP (x : ByteArray) (g : Le) : Bool := F.ltN g.n x
def gtP (x : ByteArray) (g : Le) : Bool := F.ltN x g.n
/-- the first m leaves that P wants, behind those of l0 -/
def flL (l0 : List Le) (P : Le → Bool) (K : List Le) (m : Nat) : List Le := l0 ++ (K.take m).filter P
theorem flL_step (l0 : List Le) (P : Le → Bool) (K : List Le) (m : Nat) (h : m < K.length) : flL l0 P K (m + 1) = if P K[m] = true then flL l0 P K m ++ [K[m]] else flL l0 P K m := by
  unfold flL
  rw [LV.filt_step P h]
  split <;> simp
theorem flL_len (l0 : List Le) (P : Le → Bool) (K : List Le) (m : Nat) : (flL l0 P K m).length ≤ l0.length + K.length := by
  have := LV.filt_len K m P
  simp only [flL, List.length_append]
  omega
theorem flL_all (l0 : List Le) (P : Le → Bool) (K : List Le) : flL l0 P K K.length = l0 ++ K.filter P := by simp [flL]
theorem flL_zero (l0 : List Le) (P : Le → Bool) (K : List Le) : flL l0 P K 0 = l0 := by simp [flL]

def NbR (w : World) (l0 : List Le) (P : Le → Bool) (v : Value) (g : Nat) (K : List Le) (u i : Value) (wr : World) : Prop := ∃ (m : Nat) (au : Option Addr) (cu : Nat), m ≤ K.length ∧ i = .int .i64 m ∧ u = .slice au (flL l0 P K m).length cu ∧ Hid (NbS w wr u (flL l0 P K m) v g K)

set_option maxRecDepth 100000 in
set_option maxHeartbeats 4000000 in
theorem sLeafPutN_any (p : Option Addr) (cap : Nat) (ga oa : Nat) (L : List Le) (x y : ByteArray) (w : World) (hv : RS 2 lcs w (.slice p L.length cap) ga oa L) (hnil : p = none → cap = 0) (hsm : SmallL L) (hL : L.length ≤ 1048576) (hn : x.size ≤ 1048576) (hvs : y.size ≤ 1048576) :
    Calls Tryz.prog 177 #[.slice p L.length cap, .string x, .string y] w (LqN (LV.putR L ⟨x, y⟩) (LV.putB L ⟨x, y⟩) w) := by
  have HV : Hid (RS 2 lcs w (.slice p L.length cap) ga oa L ∧ SmallL L ∧ SmallL (LV.put L ⟨x, y⟩)) := ⟨hv, hsm, small_put hsm hn hvs⟩
  have hb1 : Below w.heap.size w (w.alloc (.cells #[] 134)) := (Below.refl _ _).alloc (Nat.le_refl _) _
  have hW := l09Without_any _ ga oa L x _ (hv.later hb1)
  have ho1 : OL w.heap.size w (w.alloc (.cells #[] 134)) (.slice (some ⟨w.heap.size, 0, none⟩) 0 0) [] := OL.made _ w w (Below.refl _ _) (Nat.le_refl _)
  have HO1 : Hid (OL w.heap.size w (w.alloc (.cells #[] 134)) (.slice (some ⟨w.heap.size, 0, none⟩) 0 0) []) := ho1
  have hKl : (LV.wout L x).length ≤ L.length := LV.len_wout_le L x
  have hPl : (LV.put L ⟨x, y⟩).length ≤ 1100000 := by rw [LV.len_put]; show (LV.wout L x).length + 1 ≤ 1100000; omega
  have HPW : Hid ((LV.wout L x).filter (ltP x) ++ [⟨x, y⟩] ++ (LV.wout L x).filter (gtP x) = LV.put L ⟨x, y⟩) := put_wout L ⟨x, y⟩
  clear hv hsm hb1 ho1
  go_enter Tryz.func177, Tryz.ntmps177
  go_wp2_with fail
  refine hW.mono ?_
  rintro e w2 ⟨u2, rfl, ho2⟩
  obtain ⟨g2, hr2, hg2, _⟩ := ho2.rw (by omega)
  obtain ⟨a2, c2, rfl⟩ := ho2.shape
  generalize LV.wout L x = K at *
  have HST : Hid (NbR w [] (ltP x) (.slice a2 K.length c2) g2 K (.slice (some ⟨w.heap.size, 0, none⟩) 0 0) (.int .i64 0) w2) := by
    refine ⟨0, some ⟨w.heap.size, 0, none⟩, 0, by omega, rfl, by simp [flL], ?_⟩
    rw [flL_zero]
    refine ⟨HO1.out.later ho2.2.1, hr2.1, fun hp => ⟨?_, hr2.lt hp⟩⟩
    intro e
    have e5 : w.heap.size = g2 := by simpa [Value.ownBlock] using e
    simp at hg2
    omega
  have HA2 : Hid (0 < K.length → a2 = some ⟨g2, 0, none⟩) := fun hp => by
    obtain ⟨⟨a', c', ev, _, h1, _⟩, _⟩ := hr2
    simp at ev
    rw [ev.1]
    exact (h1 hp).1
  clear hW ho2 hr2 hg2 HO1
  go_wp2
  go_loopw [8, 10] (fun u i wr => NbR w [] (ltP x) (.slice a2 K.length c2) g2 K u i wr) (fun _ i _ => K.length - (intOf i).toNat)
  case atStart => exact HST.out
  case round =>
    obtain ⟨m, au, cu, hm, rfl, rfl, HI⟩ := hrel
    clear HST
    by_cases hlt : m < K.length
    · have ea := HA2.out (by omega)
      subst ea
      obtain ⟨c0, c1⟩ := HI.out.2.1.leaf m hlt
      obtain ⟨X, hX⟩ : ∃ X, K[m]'hlt = X := ⟨_, rfl⟩
      rw [hX, Nat.zero_add] at c0 c1
      have hst := flL_step [] (ltP x) K m hlt
      rw [hX] at hst
      have hle : (flL [] (ltP x) K m).length ≤ K.length := by simpa using flL_len [] (ltP x) K m
      have i1 : (m : Int) < (K.length : Int) := by omega
      have i2 : (0 : Int) ≤ (m : Int) := by omega
      clear hX
      cases hk : ltP x X
      · have q : Op.bytesLess X.n.toList x.toList = false := hk
        rw [hk] at hst
        have HJ : Hid (NbS w wr (.slice au (flL [] (ltP x) K m).length cu) (flL [] (ltP x) K (m + 1)) (.slice (some ⟨g2, 0, none⟩) K.length c2) g2 K ∧ (flL [] (ltP x) K m).length = (flL [] (ltP x) K (m + 1)).length) := by rw [hst]; exact ⟨HI.out, rfl⟩
        generalize hl : flL [] (ltP x) K m = l at *
        clear HI hst hk hl
        go_wp2
        go_roundw
        case rel => exact ⟨m + 1, au, cu, by omega, by go_num, by rw [← HJ.out.2], HJ.out.1⟩
        case measure => simp [intOf]; omega
      · have q : Op.bytesLess X.n.toList x.toList = true := hk
        rw [hk] at hst
        have HJ : Hid (flL [] (ltP x) K (m + 1) = flL [] (ltP x) K m ++ [X]) := hst
        generalize hl : flL [] (ltP x) K m = l at *
        have hba : Below wr.heap.size wr (wr.alloc (.cells #[.string X.n, .string X.v] 134)) := (Below.refl _ _).alloc (Nat.le_refl _) _
        have HSA : Hid (NbS w (wr.alloc (.cells #[.string X.n, .string X.v] 134)) (.slice au l.length cu) l (.slice (some ⟨g2, 0, none⟩) K.length c2) g2 K) := HI.out.later hba
        have HRN : Hid ((wr.alloc (.cells #[.string X.n, .string X.v] 134)).rangeAt wr.heap.size 0 (lcs X)) := range_new _ [.string X.n, .string X.v] 134
        clear hba HI hst hk hl
        go_wp2_with (at_builtin; refine wp_leafL rfl _ _ rfl w.heap.size w (.slice au l.length cu) l X rfl HSA.out.1 _ rfl HRN.out (by omega) ?_)
        intro g5 cap5 w5 ho5 hg5 hl5
        have HK : Hid (NbS w w5 (.slice (some ⟨g5, 0, none⟩) (l.length + 1) cap5) (flL [] (ltP x) K (m + 1)) (.slice (some ⟨g2, 0, none⟩) K.length c2) g2 K ∧ l.length + 1 = (flL [] (ltP x) K (m + 1)).length) := ⟨HSA.out.app (by rw [HJ.out]; exact ho5) hg5 (by simpa using hl5), by rw [HJ.out]; simp⟩
        clear ho5 hg5 hl5 HSA HRN HJ c0 c1
        go_wp2
        go_roundw
        case rel => exact ⟨m + 1, _, _, by omega, by go_num, by rw [← HK.out.2], HK.out.1⟩
        case measure => simp [intOf]; omega
    · have hme : m = K.length := by omega
      subst hme
      have hfl := flL_all [] (ltP x) K
      have hle := flL_len [] (ltP x) K K.length
      have HPW2 : Hid ((flL [] (ltP x) K K.length ++ [⟨x, y⟩]) ++ K.filter (gtP x) = LV.put L ⟨x, y⟩) := by rw [hfl, List.nil_append]; exact HPW.out
      generalize flL [] (ltP x) K K.length = l at *
      have hba : Below wr.heap.size wr (wr.alloc (.cells #[.string x, .string y] 134)) := (Below.refl _ _).alloc (Nat.le_refl _) _
      have HSA : Hid (NbS w (wr.alloc (.cells #[.string x, .string y] 134)) (.slice au l.length cu) l (.slice a2 K.length c2) g2 K) := HI.out.later hba
      have HRN : Hid ((wr.alloc (.cells #[.string x, .string y] 134)).rangeAt wr.heap.size 0 (lcs ⟨x, y⟩)) := range_new _ [.string x, .string y] 134
      clear hba HI hfl HPW
      go_wp2_with (at_builtin; refine wp_leafL rfl _ _ rfl w.heap.size w (.slice au l.length cu) l ⟨x, y⟩ rfl HSA.out.1 _ rfl HRN.out (by simp at hle; omega) ?_)
      intro g5 cap5 w5 ho5 hg5 hl5
      have HS5 : Hid (NbS w w5 (.slice (some ⟨g5, 0, none⟩) (l.length + 1) cap5) (l ++ [⟨x, y⟩]) (.slice a2 K.length c2) g2 K ∧ l.length + 1 = (l ++ [(⟨x, y⟩ : Le)]).length) := ⟨HSA.out.app ho5 hg5 (by simpa using hl5), by simp⟩
      have hl2 : (l ++ [(⟨x, y⟩ : Le)]).length ≤ K.length + 1 := by simp at hle ⊢; omega
      clear ho5 hg5 hl5 HSA HRN hle
      generalize l ++ [(⟨x, y⟩ : Le)] = l2 at *
      have HST : Hid (NbR w l2 (gtP x) (.slice a2 K.length c2) g2 K (.slice (some ⟨g5, 0, none⟩) (l.length + 1) cap5) (.int .i64 0) w5) := by
        refine ⟨0, some ⟨g5, 0, none⟩, cap5, by omega, rfl, by rw [flL_zero, HS5.out.2], ?_⟩
        rw [flL_zero]
        exact HS5.out.1
      clear HS5
      generalize l.length + 1 = n5 at *
      go_wp2
      go_loopw [8, 11] (fun u i wr => NbR w l2 (gtP x) (.slice a2 K.length c2) g2 K u i wr) (fun _ i _ => K.length - (intOf i).toNat)
      case atStart => exact HST.out
      case round =>
        obtain ⟨m, au, cu, hm, rfl, rfl, HI⟩ := hrel
        clear HST
        by_cases hlt : m < K.length
        · have ea := HA2.out (by omega)
          subst ea
          obtain ⟨c0, c1⟩ := HI.out.2.1.leaf m hlt
          obtain ⟨X, hX⟩ : ∃ X, K[m]'hlt = X := ⟨_, rfl⟩
          rw [hX, Nat.zero_add] at c0 c1
          have hst := flL_step l2 (gtP x) K m hlt
          rw [hX] at hst
          have hle : (flL l2 (gtP x) K m).length ≤ l2.length + K.length := by simpa using flL_len l2 (gtP x) K m
          have i1 : (m : Int) < (K.length : Int) := by omega
          have i2 : (0 : Int) ≤ (m : Int) := by omega
          clear hX
          cases hk : gtP x X
          · have q : (Op.bytesLess X.n.toList x.toList || X.n.toList == x.toList) = true := le_of_notL hk
            rw [hk] at hst
            have HJ : Hid (NbS w wr (.slice au (flL l2 (gtP x) K m).length cu) (flL l2 (gtP x) K (m + 1)) (.slice (some ⟨g2, 0, none⟩) K.length c2) g2 K ∧ (flL l2 (gtP x) K m).length = (flL l2 (gtP x) K (m + 1)).length) := by rw [hst]; exact ⟨HI.out, rfl⟩
            generalize hl : flL l2 (gtP x) K m = l at *
            clear HI hst hk hl
            go_wp2
            go_roundw
            case rel => exact ⟨m + 1, au, cu, by omega, by go_num, by rw [← HJ.out.2], HJ.out.1⟩
            case measure => simp [intOf]; omega
          · have q : (Op.bytesLess X.n.toList x.toList || X.n.toList == x.toList) = false := gt_ofL hk
            rw [hk] at hst
            have HJ : Hid (flL l2 (gtP x) K (m + 1) = flL l2 (gtP x) K m ++ [X]) := hst
            generalize hl : flL l2 (gtP x) K m = l at *
            have hba : Below wr.heap.size wr (wr.alloc (.cells #[.string X.n, .string X.v] 134)) := (Below.refl _ _).alloc (Nat.le_refl _) _
            have HSA : Hid (NbS w (wr.alloc (.cells #[.string X.n, .string X.v] 134)) (.slice au l.length cu) l (.slice (some ⟨g2, 0, none⟩) K.length c2) g2 K) := HI.out.later hba
            have HRN : Hid ((wr.alloc (.cells #[.string X.n, .string X.v] 134)).rangeAt wr.heap.size 0 (lcs X)) := range_new _ [.string X.n, .string X.v] 134
            clear hba HI hst hk hl
            go_wp2_with (at_builtin; refine wp_leafL rfl _ _ rfl w.heap.size w (.slice au l.length cu) l X rfl HSA.out.1 _ rfl HRN.out (by omega) ?_)
            intro g5 cap5 w5 ho5 hg5 hl5
            have HK : Hid (NbS w w5 (.slice (some ⟨g5, 0, none⟩) (l.length + 1) cap5) (flL l2 (gtP x) K (m + 1)) (.slice (some ⟨g2, 0, none⟩) K.length c2) g2 K ∧ l.length + 1 = (flL l2 (gtP x) K (m + 1)).length) := ⟨HSA.out.app (by rw [HJ.out]; exact ho5) hg5 (by simpa using hl5), by rw [HJ.out]; simp⟩
            clear ho5 hg5 hl5 HSA HRN HJ c0 c1
            go_wp2
            go_roundw
            case rel => exact ⟨m + 1, _, _, by omega, by go_num, by rw [← HK.out.2], HK.out.1⟩
            case measure => simp [intOf]; omega
        · have hme : m = K.length := by omega
          subst hme
          have hfl : flL l2 (gtP x) K K.length = LV.put L ⟨x, y⟩ := by rw [flL_all]; exact HPW2.out
          have HI2 : Hid (OL w.heap.size w wr (.slice au (flL l2 (gtP x) K K.length).length cu) (LV.put L ⟨x, y⟩)) := by rw [← hfl]; exact HI.out.1
          rw [hfl] at HI2 ⊢
          clear HI hfl HPW2
          have h1 := sLeavesOk_any _ ga oa L wr (HV.out.1.later HI2.out.2.1) HV.out.2.1
          obtain ⟨gq, hrq, hgq, _⟩ := HI2.out.rw hPl
          have HO2 : Hid (∀ W, Below wr.heap.size wr W → Calls Tryz.prog 183 #[.slice au (LV.put L ⟨x, y⟩).length cu] W fun e w' => e = .returned (.bool (LV.leavesB (LV.put L ⟨x, y⟩))) ∧ Below W.heap.size W w') := fun W hW => sLeavesOk_any _ gq 0 _ W (hrq.1.later hW) HV.out.2.2
          have HRQ : Hid (RW 2 lcs wr (.slice au (LV.put L ⟨x, y⟩).length cu) gq (LV.put L ⟨x, y⟩) ∧ w.heap.size ≤ gq ∧ Below w.heap.size w wr ∧ (au = none → cu = 0)) := ⟨hrq, hgq, HI2.out.2.1, HI2.out.nil0⟩
          have HPB : Hid (LV.putB L ⟨x, y⟩ = (LV.leavesB L && LV.leavesB (LV.put L ⟨x, y⟩))) := LV.putB_spec L ⟨x, y⟩
          have HPN : Hid (LV.putB L ⟨x, y⟩ = false → LV.putR L ⟨x, y⟩ = L) := putR_no
          have HPY : Hid (LV.putB L ⟨x, y⟩ = true → LV.putR L ⟨x, y⟩ = LV.put L ⟨x, y⟩) := putR_yes
          have HNO : Hid (∀ W v', OL w.heap.size w W v' L → LV.putB L ⟨x, y⟩ = false → LqN (LV.putR L ⟨x, y⟩) (LV.putB L ⟨x, y⟩) w (.returned (.tuple #[v', .bool false])) W) := fun W v' ho hf => by
            rw [HPN.out hf, hf]
            obtain ⟨gz, hrz, hgz, _⟩ := ho.rw (by omega)
            obtain ⟨az, cz, rfl⟩ := ho.shape
            exact ⟨az, cz, gz, rfl, hrz, hgz, ho.2.1, ho.nil0⟩
          clear hrq hgq HI2
          generalize LV.put L ⟨x, y⟩ = M at *
          cases hR1 : LV.leavesB L
          · rw [hR1] at h1
            rw [hR1, Bool.false_and] at HPB
            go_wp2_with fail
            refine h1.mono ?_
            rintro e w6 ⟨rfl, hb6⟩
            have b6 : Below w.heap.size w w6 := HRQ.out.2.2.1.trans (hb6.mono HRQ.out.2.2.1.size)
            clear h1 hb6
            have ho6 : OL w.heap.size w (w6.alloc (.cells #[] 134)) (.slice (some ⟨w6.heap.size, 0, none⟩) 0 0) [] := OL.made _ w w6 b6 b6.size
            have hrs6 := HV.out.1.later (b6.alloc b6.size (.cells #[] 134))
            clear HO2 HRQ HPN HPY HV
            go_wp2_with (at_builtin; refine wp_rowL rfl _ _ rfl w.heap.size w w6.heap.size rfl ho6 p ga oa cap L rfl hrs6 hnil ?_)
            intro v' w7 ho7
            have HF := HNO.out w7 v' ho7 HPB.out
            have HF2 : Hid (LqN (LV.putR L ⟨x, y⟩) (LV.putB L ⟨x, y⟩) w (.returned (.tuple #[v', .bool false])) w7) := HF
            clear ho7 ho6 hrs6 HNO HF b6
            go_wp2
            go_ret2
            exact HF2.out
          · rw [hR1] at h1
            rw [hR1, Bool.true_and] at HPB
            go_wp2_with fail
            refine h1.mono ?_
            rintro e w6 ⟨rfl, hb6⟩
            clear h1
            go_wp2_with fail
            refine (HO2.out _ hb6).mono ?_
            rintro e w8 ⟨rfl, hb8⟩
            have hb9 : Below wr.heap.size wr w8 := hb6.trans (hb8.mono hb6.size)
            have b6 : Below w.heap.size w w8 := HRQ.out.2.2.1.trans (hb9.mono HRQ.out.2.2.1.size)
            cases hR2 : LV.leavesB M
            · rw [hR2] at HPB
              clear hb6 hb8 hb9
              have ho6 : OL w.heap.size w (w8.alloc (.cells #[] 134)) (.slice (some ⟨w8.heap.size, 0, none⟩) 0 0) [] := OL.made _ w w8 b6 b6.size
              have hrs6 := HV.out.1.later (b6.alloc b6.size (.cells #[] 134))
              clear HO2 HRQ HPN HPY HV
              go_wp2_with (at_builtin; refine wp_rowL rfl _ _ rfl w.heap.size w w8.heap.size rfl ho6 p ga oa cap L rfl hrs6 hnil ?_)
              intro v' w7 ho7
              have HF := HNO.out w7 v' ho7 HPB.out
              have HF2 : Hid (LqN (LV.putR L ⟨x, y⟩) (LV.putB L ⟨x, y⟩) w (.returned (.tuple #[v', .bool false])) w7) := HF
              clear ho7 ho6 hrs6 HNO HF b6
              go_wp2
              go_ret2
              exact HF2.out
            · rw [hR2] at HPB
              have HF2 : Hid (LqN (LV.putR L ⟨x, y⟩) (LV.putB L ⟨x, y⟩) w (.returned (.tuple #[.slice au M.length cu, .bool true])) w8) := by
                unfold LqN
                rw [HPY.out HPB.out, HPB.out]
                exact ⟨au, cu, gq, rfl, HRQ.out.1.later hb9, HRQ.out.2.1, b6, HRQ.out.2.2.2⟩
              clear hb6 hb8 hb9 b6 HO2 HRQ HPN HPY HV HNO
              go_wp2
              go_ret2
              exact HF2.out
theorem sLeafPut_any (p : Option Addr) (cap : Nat) (ga oa : Nat) (L : List Le) (x y : ByteArray) (w : World) (hv : RS 2 lcs w (.slice p L.length cap) ga oa L) (hnil : p = none → cap = 0) (hsm : SmallL L) (hL : L.length ≤ 1048576) (hn : x.size ≤ 1048576) (hvs : y.size ≤ 1048576) :
    Calls Tryz.prog 177 #[.slice p L.length cap, .string x, .string y] w (LqP (LV.putR L ⟨x, y⟩) (LV.putB L ⟨x, y⟩) w) := (sLeafPutN_any p cap ga oa L x y w hv hnil hsm hL hn hvs).mono fun _ _ h => h.plain

end Go.Proofs.YthlgohplljcgfaaGreatDoor
/-
  All parts together: the specification's answer.
-/
namespace Go.Proofs.YthlgohplljcgfaaGreatDoor
open Go.RowKit Go.BigFrame Go.Sort
set_option linter.unusedVariables false
set_option linter.unusedSimpArgs false

/-- a row of rows of leaves -/
def PS (w : World) (v : Value) (g o : Nat) (P : List (List Le)) : Prop := ∃ a c, v = .slice a P.length c ∧ P.length ≤ 1100000 ∧ (0 < P.length → a = some ⟨g, o, none⟩ ∧ g < w.heap.size) ∧
  ∀ j (h : j < P.length), ∃ aj cj gj oj, w.cell? ⟨g, o + j, none⟩ = some (.slice aj P[j].length cj) ∧ RS 2 lcs w (.slice aj P[j].length cj) gj oj P[j]
theorem PS.later {w w' : World} {v : Value} {g o : Nat} {P : List (List Le)} (h : PS w v g o P) (hb : Below w.heap.size w w') : PS w' v g o P := by
  obtain ⟨a, c, hv, hl, hA, hc⟩ := h
  refine ⟨a, c, hv, hl, fun hp => ⟨(hA hp).1, Nat.lt_of_lt_of_le (hA hp).2 hb.size⟩, fun j hj => ?_⟩
  obtain ⟨aj, cj, gj, oj, h1, h2⟩ := hc j hj
  exact ⟨aj, cj, gj, oj, (cell_kept (hb.block g (hA (by omega)).2)).trans h1, h2.later hb⟩
theorem PS.at {w : World} {v : Value} {g o : Nat} {P : List (List Le)} (h : PS w v g o P) (j : Nat) (hj : j < P.length) : ∃ aj cj gj oj, w.cell? ⟨g, o + j, none⟩ = some (.slice aj P[j].length cj) ∧ RS 2 lcs w (.slice aj P[j].length cj) gj oj P[j] := by
  obtain ⟨a, c, hv, hl, hA, hc⟩ := h
  exact hc j hj
def SmallP (P : List (List Le)) : Prop := ∀ p ∈ P, SmallL p

/-- what has been put so far -/
def AlI (w wr : World) (a : Option Addr) (cap q : Nat) (O A : List Le) : Prop := RW 2 lcs wr (.slice a O.length cap) q O ∧ w.heap.size ≤ q ∧ Below w.heap.size w wr ∧ (a = none → cap = 0) ∧ LV.PutI A O
theorem AlI.small {w wr : World} {a : Option Addr} {cap q : Nat} {O A : List Le} (h : AlI w wr a cap q O A) : SmallL O := fun f hf => by
  have := LV.leB_sizes (h.2.2.2.2.1.2.1 f hf)
  omega
def YaO (w : World) (P : List (List Le)) (u n i : Value) (wr : World) : Prop := ∃ (m : Nat) (a : Option Addr) (cap q : Nat) (O : List Le), m ≤ P.length ∧ i = .int .i64 m ∧ u = .slice a O.length cap ∧ n = .int .i64 ((P.take m).flatten.length : Int) ∧ Hid (AlI w wr a cap q O (P.take m).flatten)
def YaI (w : World) (B p : List Le) (u n i : Value) (wr : World) : Prop := ∃ (m : Nat) (a : Option Addr) (cap q : Nat) (O : List Le), m ≤ p.length ∧ i = .int .i64 m ∧ u = .slice a O.length cap ∧ n = .int .i64 ((B.length + m : Nat) : Int) ∧ Hid (AlI w wr a cap q O (B ++ p.take m))
theorem parts_step {P : List (List Le)} {m : Nat} (hm : m < P.length) : (P.take (m + 1)).flatten = (P.take m).flatten ++ P[m] := by
  rw [List.take_succ_eq_append_getElem hm, List.flatten_append]
  simp
theorem parts_len {P : List (List Le)} {m : Nat} (hm : m < P.length) : (P.take m).flatten.length + P[m].length ≤ P.flatten.length := by
  have h := congrArg List.length (congrArg List.flatten (List.take_append_drop (m + 1) P))
  rw [List.flatten_append, List.length_append, parts_step hm, List.length_append] at h
  omega
theorem app_cut (X p t r Y : List Le) (f : Le) (h : p = t ++ f :: r) : X ++ p ++ Y = (X ++ t) ++ f :: (r ++ Y) := by
  subst h
  simp
theorem parts_split {P : List (List Le)} {m k : Nat} (hm : m < P.length) (hk : k < P[m].length) : ∃ R, P.flatten = ((P.take m).flatten ++ P[m].take k) ++ P[m][k] :: R := by
  have h : P.flatten = (P.take (m + 1)).flatten ++ (P.drop (m + 1)).flatten := by rw [← List.flatten_append, List.take_append_drop]
  rw [parts_step hm] at h
  have h2 : P[m] = P[m].take k ++ P[m][k] :: P[m].drop (k + 1) := by
    rw [← List.drop_eq_getElem_cons hk]
    exact (List.take_append_drop k _).symm
  exact ⟨P[m].drop (k + 1) ++ (P.drop (m + 1)).flatten, h.trans (app_cut _ _ _ _ _ _ h2)⟩

end Go.Proofs.YthlgohplljcgfaaGreatDoor
