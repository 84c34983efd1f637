/-
  Texts laid together: Nx, Ih, Fu, Sb, Si.
-/
import Derived.Test.YtfiapodjiifmaaaGreatDoorPkP17
import Derived.Test.YtfiapodjiifmaaaGreatDoorPkP12
import Derived.Test.YtfiapodjiifmaaaGreatDoorPkP16
import Derived.Test.YtfiapodjiifmaaaGreatDoorPkP1
import Derived.Test.YtfiapodjiifmaaaGreatDoorPkP2
/-
  The program's buckets of a list, and the node over them.
-/
namespace Go.Proofs.YtfiapodjiifmaaaGreatDoor
open Go.RowKit Go.BigFrame Go.Sort
set_option linter.unusedVariables false
set_option linter.unusedSimpArgs false

/-- an array of so many nil slices -/
def zB : Array Value := (List.replicate 256 (Value.slice none 0 0)).toArray
theorem zeroBk : (Tryz.prog.info? 117).map (fun i => (i.zero, i.size)) = some (some (.agg zB), 256) := by kernel_rfl
theorem zB_at (j : Nat) (h : j < 256) : zB[j]? = some (.slice none 0 0) := by
  unfold zB
  rw [List.getElem?_toArray, List.getElem?_replicate, if_pos h]
section
variable {w : World} {ops : Array Oper} {rest : List Oper} {o : Oper} {a : Act} {Q : Exit → Act → World → Prop}
theorem wp_allocB (hgd : o.guard = none) (ho : o.op = .alloc 117)
    (h : wpList Tryz.prog ops Q rest (a.put o.dst (.pointer (some ⟨w.heap.size, 0, none⟩))) (w.alloc (.cells zB 117))) : wpList Tryz.prog ops Q (o :: rest) a w := by
  refine wpList_plain hgd fun K hK => ?_
  have h1 := (zero_of_info zeroBk).1
  have hr : (Instr.alloc 117 true (.tuple #[])).run Tryz.prog w = .ok (.pointer (some ⟨w.heap.size, 0, none⟩)) (w.alloc (.cells zB 117)) := by
    unfold Instr.alloc
    simp [h1, newVar, newRow, Value.cells]
  unfold Oper.wp
  simp [execOp, ho, hr, Result.andThen]
  exact hK _ _ h
end

/-- block g is the array of the slices F -/
def BA (w : World) (g : Nat) (F : Nat → Value) : Prop := ∃ cur, w.heap[g]? = some (.cells cur 117 (0, 0)) ∧ cur.size = 256 ∧ ∀ j, j < 256 → cur[j]? = some (F j)
theorem BA.cell {w : World} {g : Nat} {F : Nat → Value} (h : BA w g F) (j : Nat) (hj : j < 256) : w.cell? ⟨g, j, none⟩ = some (F j) := by
  obtain ⟨cur, h1, _, h3⟩ := h
  rw [cell_of_row w g j cur _ (0, 0) h1]
  exact h3 j hj
theorem BA.frozen {w : World} {g : Nat} {F : Nat → Value} (h : BA w g F) (j : Nat) : w.frozen? ⟨g, j, none⟩ = false := by
  obtain ⟨cur, h1, _⟩ := h
  simp [World.frozen?, h1]
theorem BA.lt {w : World} {g : Nat} {F : Nat → Value} (h : BA w g F) : g < w.heap.size := by
  obtain ⟨cur, h1, _⟩ := h
  exact (Array.getElem?_eq_some_iff.1 h1).1
theorem BA.keep {w w' : World} {g : Nat} {F : Nat → Value} (h : BA w g F) (he : w'.heap[g]? = w.heap[g]?) : BA w' g F := by
  obtain ⟨cur, h1, h2⟩ := h
  exact ⟨cur, by rw [he]; exact h1, h2⟩
theorem BA.set {w : World} {g : Nat} {F : Nat → Value} (h : BA w g F) (i : Nat) (hi : i < 256) (v : Value) : BA (w.setCell ⟨g, i, none⟩ v) g (fun j => if j = i then v else F j) := by
  obtain ⟨cur, h1, h2, h3⟩ := h
  refine ⟨_, heap_setCell_same w g i cur _ _ h1, by simpa using h2, fun j hj => ?_⟩
  rw [Array.getElem?_setIfInBounds]
  by_cases he : i = j
  · subst he
    simp [h2, hi]
  · rw [if_neg he, h3 j hj]
    show some (F j) = some (if j = i then v else F j)
    rw [if_neg (fun e : j = i => he e.symm)]

theorem OL.setOther {B : Nat} {w0 w : World} {v : Value} {l : List Le} {g : Nat} (h : OL B w0 w v l) (hg : B ≤ g) (hne : v.ownBlock ≠ some g) (i : Nat) (x : Value) : OL B w0 (w.setCell ⟨g, i, none⟩ x) v l := by
  refine ⟨⟨h.1.1, ?_⟩, h.2.1.setCell (p := ⟨g, i, none⟩) hg _, by rw [World.size_setCell]; exact h.2.2⟩
  rcases h.1.2 with hn | ⟨q, cap, cur, hv, hbq, hq, rest⟩
  · exact .inl hn
  · refine .inr ⟨q, cap, cur, hv, hbq, ?_, rest⟩
    rw [heap_setCell_other w ⟨g, i, none⟩ q x (fun e => hne (by rw [hv, e]; rfl))]
    exact hq

/-- the buckets of the leaves l, in the array at g -/
def GB (B : Nat) (w0 w : World) (g : Nat) (F : Nat → Value) (l : List Le) : Prop :=
  BA w g F ∧ B ≤ g ∧ (∀ i, i < 256 → OL B w0 w (F i) (TR.und idxL 0 i l)) ∧ (∀ i, i < 256 → (F i).ownBlock ≠ some g) ∧ ∀ i j, i < 256 → j < 256 → i ≠ j → ∀ q, (F i).ownBlock = some q → (F j).ownBlock ≠ some q
theorem GB.later {B : Nat} {w0 w w' : World} {g : Nat} {F : Nat → Value} {l : List Le} (h : GB B w0 w g F l) (hb : Below w.heap.size w w') : GB B w0 w' g F l :=
  ⟨h.1.keep (hb.block g h.1.lt), h.2.1, fun i hi => (h.2.2.1 i hi).later hb, h.2.2.2⟩
theorem GB.below {B : Nat} {w0 w : World} {g : Nat} {F : Nat → Value} {l : List Le} (h : GB B w0 w g F l) : Below B w0 w := (h.2.2.1 0 (by omega)).2.1
theorem GB.made (w : World) : GB w.heap.size w (w.alloc (.cells zB 117)) w.heap.size (fun _ => .slice none 0 0) [] := by
  have hb : Below w.heap.size w (w.alloc (.cells zB 117)) := (Below.refl _ _).alloc (Nat.le_refl _) _
  have hz : zB.size = 256 := by
    unfold zB
    rw [List.size_toArray, List.length_replicate]
  exact ⟨⟨zB, Go.heap_alloc_new w _, hz, fun j hj => zB_at j hj⟩, Nat.le_refl _, fun i hi => ⟨World.ownsRow_nil _ _ _ _, hb, by simp⟩, fun i hi => by simp [Value.ownBlock], fun i j _ _ _ q h => by simp [Value.ownBlock] at h⟩
/-- behind the append the array is as it was -/
theorem GB.app1 {B : Nat} {w0 w w5 : World} {g : Nat} {F : Nat → Value} {l : List Le} {i : Nat} (h : GB B w0 w g F l) (hi : i < 256) (hg : w.grownBy w5 (F i).ownBlock) : BA w5 g F :=
  h.1.keep (hg.block g h.1.lt (fun e => h.2.2.2.1 i hi e.symm))
/-- a leaf appended to its bucket, and the bucket stored -/
theorem GB.app {B : Nat} {w0 w w5 : World} {g g5 n cap5 i : Nat} {F : Nat → Value} {l : List Le} {X : Le} (h : GB B w0 w g F l) (hi : i < 256) (hx : idxL X = i) (ho : OL B w0 w5 (.slice (some ⟨g5, 0, none⟩) n cap5) (TR.und idxL 0 i l ++ [X])) (hg : w.grownBy w5 (F i).ownBlock) (hl : (F i).ownBlock = some g5 ∨ g5 = w.heap.size) :
    GB B w0 (w5.setCell ⟨g, i, none⟩ (.slice (some ⟨g5, 0, none⟩) n cap5)) g (fun j => if j = i then .slice (some ⟨g5, 0, none⟩) n cap5 else F j) (l ++ [X]) := by
  have hba := h.app1 hi hg
  have hg5 : g5 ≠ g := by
    rcases hl with e | e
    · intro e2
      subst e2
      exact h.2.2.2.1 i hi e
    · have := h.1.lt
      omega
  have hown : ∀ j, j < 256 → j ≠ i → (F j).ownBlock ≠ some g5 := by
    intro j hj hji e
    rcases hl with e2 | e2
    · exact h.2.2.2.2 j i hj hi hji g5 e e2
    · have := ((h.2.2.1 j hj).1.lt g5 e).2
      omega
  have hund : ∀ j, TR.und idxL 0 j (l ++ [X]) = if j = i then TR.und idxL 0 i l ++ [X] else TR.und idxL 0 j l := by
    intro j
    unfold TR.und
    rw [List.filter_append]
    by_cases e : j = i
    · subst e
      rw [if_pos rfl]
      simp [hx]
    · rw [if_neg e]
      have : idxL X / 2 ^ 0 ≠ j := by simpa [hx] using fun h => e h.symm
      simp only [List.filter_cons, decide_eq_false this]
      simp
  refine ⟨hba.set i hi _, h.2.1, fun j hj => ?_, fun j hj => ?_, fun a b ha hb hab q hq => ?_⟩
  · rw [hund j]
    show OL B w0 _ (if j = i then _ else F j) _
    by_cases e : j = i
    · rw [if_pos e, if_pos e]
      exact ho.setOther h.2.1 (fun e2 => hg5 (by simpa [Value.ownBlock] using e2)) i _
    · rw [if_neg e, if_neg e]
      have h1 : OL B w0 w5 (F j) (TR.und idxL 0 j l) := (h.2.2.1 j hj).grown hg (fun q hq => ⟨((h.2.2.1 i hi).1.lt q hq).1, fun e2 => h.2.2.2.2 i j hi hj (fun e3 => e e3.symm) q hq e2⟩)
      exact h1.setOther h.2.1 (h.2.2.2.1 j hj) i _
  · show (if j = i then Value.slice (some ⟨g5, 0, none⟩) n cap5 else F j).ownBlock ≠ some g
    by_cases e : j = i
    · rw [if_pos e]
      exact fun e2 => hg5 (by simpa [Value.ownBlock] using e2)
    · rw [if_neg e]
      exact h.2.2.2.1 j hj
  · have hq' : (if a = i then Value.slice (some ⟨g5, 0, none⟩) n cap5 else F a).ownBlock = some q := hq
    show (if b = i then Value.slice (some ⟨g5, 0, none⟩) n cap5 else F b).ownBlock ≠ some q
    by_cases ea : a = i
    · rw [if_pos ea] at hq'
      have e5 : g5 = q := by simpa [Value.ownBlock] using hq'
      rw [if_neg (fun e => hab (ea.trans e.symm)), ← e5]
      exact hown b hb (fun e => hab (ea.trans e.symm))
    · rw [if_neg ea] at hq'
      by_cases eb : b = i
      · rw [if_pos eb]
        intro e2
        have e5 : g5 = q := by simpa [Value.ownBlock] using e2
        rw [← e5] at hq'
        exact hown a ha ea hq'
      · rw [if_neg eb]
        exact h.2.2.2.2 a b ha hb hab q hq'
/-- as grown wants them -/
theorem GB.row {B : Nat} {w0 w : World} {g : Nat} {F : Nat → Value} {l : List Le} (h : GB B w0 w g F l) (hl : l.length ≤ 24) (b n : Nat) (hb : b + n ≤ 256) : BkW w g b l b n := by
  intro j hj
  obtain ⟨gj, hrw, _, _⟩ := (h.2.2.1 (b + j) (by omega)).rw (Nat.le_trans (und_len 0 (b + j) l) (by omega))
  exact ⟨F (b + j), gj, h.1.cell (b + j) (by omega), hrw.1⟩

section
variable {w : World} {ops : Array Oper} {o : Oper} {a : Act} {K : Act → World → Prop} {Q : Exit → Act → World → Prop}
/-- a leaf appended, and where the row lies then: as one step of a region that draws its order -/
theorem step_leafL {E : Prop} (hgd : o.guard = none) (s x : Operand)
    (ho : o.op = .call { callee := .builtin .append, args := #[s, x], argTypes := #[24, 24] })
    (B : Nat) (w0 : World) (u : Value) (l : List Le) (f : Le) (hs : a.eval s = u) (h : OL B w0 w u l) (p : Nat) (hx : a.eval x = .slice (some ⟨p, 0, none⟩) 1 1)
    (hnews : w.rangeAt p 0 (lcs f)) (hlen : l.length + 1 ≤ 1000000)
    (hk : ∀ g cap w', OL B w0 w' (.slice (some ⟨g, 0, none⟩) (l.length + 1) cap) (l ++ [f]) → w.grownBy w' u.ownBlock → (u.ownBlock = some g ∨ g = w.heap.size) → K (a.put o.dst (.slice (some ⟨g, 0, none⟩) (l.length + 1) cap)) w') : if Region.wanted o (yielded ops a.tmps) = true then Oper.wp Tryz.prog o a w K Q else E := by
  obtain ⟨i0, hi, hz0, hz1, hz2⟩ := info_parts Tryz.infoLeaf
  refine step_append_lies w hgd s x 24 ho B 53 i0 _ 2 32 Tryz.underlying24 hi hz0 hz1 hz2 rfl (by decide) u l.length (l.flatMap lcs) hs h.1 ⟨p, 0, none⟩ 1 1 (lcs f) hx rfl ?_
    (fun u hu => by simp [lcs] at hu; rcases hu with rfl | rfl <;> rfl) (by omega) (by unfold maxLen; omega) (by omega) h.2.2 w.heap.size rfl ?_
  · intro j u hj
    have := hnews j u hj
    rw [Addr.add_mid]
    exact this
  · intro g cap w' h1 h2 h3 _
    exact hk _ _ _ ⟨by rw [List.flatMap_append, List.flatMap_singleton, List.length_append]; exact h1, h.2.1.grown h2 h.2.2 (fun k hk => (h.1.lt k hk).1), Nat.le_trans h.2.2 h2.size⟩ h2 h3
end

theorem index_bk (g N : Nat) (h : (N : Int) < 256) (h0 : (0 : Int) ≤ N) (W : World) : (Instr.indexAt 117 (.pointer (some ⟨g, 0, none⟩)) (.int .i64 (N : Int))).run Tryz.prog W = .ok (.pointer (some ⟨g, N, none⟩)) W := by
  go_simp
theorem slice_bk (g b c N : Nat) (hc : c = b + N) (h : c ≤ 256) (hN : 0 < N) (W : World) : (Instr.sliceAt 117 (.pointer (some ⟨g, 0, none⟩)) (some (.int .i64 (b : Int))) (some (.int .i64 (c : Int))) none).run Tryz.prog W = .ok (.slice (some ⟨g, b, none⟩) N (256 - b)) W := by
  have e1 : Tryz.prog.arrayLen 117 = 256 := by kernel_rfl
  have e2 : Tryz.prog.elem 117 = 24 := by kernel_rfl
  have ht : Tryz.prog.underlying 117 = some (.array (Tryz.prog.arrayLen 117) (Tryz.prog.elem 117)) := by rw [e1, e2]; exact Tryz.underlying117
  have h4 : ¬ (256 : Nat) = b := by omega
  have h5 : c - b = N := by omega
  have hz : (sizeOf 24).run Tryz.prog W = .ok 1 W := by go_simp
  rw [run_sliceAt_array_lh W 117 ⟨g, 0, none⟩ ht .i64 .i64 (b : Int) (c : Int) (by omega) (by omega) (by rw [e1]; omega), e1, e2, hz]
  simp only [Result.andThen, slicedAt, Int.toNat_natCast, if_neg h4, h5, Nat.mul_one, Addr.add_mid, Nat.zero_add]
def NxR (w : World) (L : List Le) (i : Value) (wr : World) : Prop := ∃ (m : Nat) (F : Nat → Value), m ≤ L.length ∧ i = .int .i64 m ∧ Hid (GB w.heap.size w wr w.heap.size F (L.take m))

set_option maxRecDepth 100000 in
set_option maxHeartbeats 2000000 in
theorem nodeAt_any (v : Value) (ga oa : Nat) (L : List Le) (l p : Nat) (x : Int) (w : World) (hv : RS 2 lcs w v ga oa L) (hsm : SmallL L) (hL : LV.LOk L) (hl8 : l ≤ 8) (hp : p < 2 ^ l) (hT : Tb w) :
    Calls Tryz.prog 55 #[v, .int .i64 (l : Int), .int .i64 (p : Int), .int .i64 x] w fun e w' => ∃ u, e = .returned u ∧ NT x L w' (8 - l) p u ∧ Below w.heap.size w w' := by
  have HV : Hid (RS 2 lcs w v ga oa L ∧ SmallL L ∧ LV.LOk L ∧ Tb w) := ⟨hv, hsm, hL, hT⟩
  obtain ⟨a, cap, rfl, hl, hA, _⟩ := hv
  obtain ⟨n, hn⟩ : ∃ n, L.length = n := ⟨_, rfl⟩
  have HA : Hid (0 < n → a = some ⟨ga, oa, none⟩) := by rw [← hn]; exact fun h => (hA h).1
  have HN : Hid (L.length = n) := hn
  have hl24 : L.length ≤ 24 := hL.1
  rw [hn] at hl hl24 HV ⊢
  clear hA hsm hn hL hT
  have HST : Hid (NxR w L (.int .i64 0) (w.alloc (.cells zB 117))) := ⟨0, _, by omega, rfl, GB.made w⟩
  go_enter Tryz.func55, Tryz.ntmps55
  go_wp2_with (first | (refine wp_allocB rfl rfl ?_))
  go_loopw [16] (fun i wr => NxR w L i wr) (fun i _ => n - (intOf i).toNat)
  case atStart => exact HST.out
  case round =>
    obtain ⟨m, F, hm, rfl, HI⟩ := hrel
    clear HST
    rw [HN.out] at hm
    by_cases hlt : m < n
    · have ea := HA.out (by omega)
      subst ea
      have hbw := HI.out.below
      obtain ⟨c0, c1⟩ := (HV.out.1.later hbw).leaf m (by rw [HN.out]; exact hlt)
      have hxs := HV.out.2.1 (L[m]'(by rw [HN.out]; exact hlt)) (List.getElem_mem _)
      have hst : L.take (m + 1) = L.take m ++ [L[m]'(by rw [HN.out]; exact hlt)] := List.take_succ_eq_append_getElem _
      generalize L[m]'(by rw [HN.out]; exact hlt) = X at *
      have i1 : (m : Int) < (n : Int) := by omega
      have i2 : (0 : Int) ≤ (m : Int) := by omega
      have hba : Below wr.heap.size wr (wr.alloc (.cells #[.string X.n, .string X.v] 53)) := (Below.refl _ _).alloc (Nat.le_refl _) _
      have hT1 := (HV.out.2.2.2.later hbw).later hba
      have hix := IndexOf_any X.n _ hxs.1 hT1.1 hT1.2
      change Calls Tryz.prog 24 _ _ (fun e w' => e = .returned (.int .i64 (idxN X.n : Int)) ∧ Below _ _ w') at hix
      have hN256 : idxN X.n < 256 := UInt8.toNat_lt _
      have HX : Hid (idxL X = idxN X.n) := rfl
      generalize idxN X.n = N at *
      have HIa : Hid (GB w.heap.size w (wr.alloc (.cells #[.string X.n, .string X.v] 53)) w.heap.size F (L.take m)) := HI.out.later hba
      have x0 : (wr.alloc (.cells #[.string X.n, .string X.v] 53)).cell? ⟨wr.heap.size, 0, none⟩ = some (.string X.n) := by rw [World.cell?_alloc_at _ _ _ _ rfl]; rfl
      have x1 : (wr.alloc (.cells #[.string X.n, .string X.v] 53)).cell? ⟨wr.heap.size, 1, none⟩ = some (.string X.v) := by rw [World.cell?_alloc_at _ _ _ _ rfl]; rfl
      have HXX : Hid ((wr.alloc (.cells #[.string X.n, .string X.v] 53)).cell? ⟨wr.heap.size, 0, none⟩ = some (.string X.n) ∧ (wr.alloc (.cells #[.string X.n, .string X.v] 53)).cell? ⟨wr.heap.size, 1, none⟩ = some (.string X.v)) := ⟨x0, x1⟩
      clear x0 x1 HI hba hT1 hbw HA
      go_wp2_with fail
      refine hix.mono ?_
      rintro e w1 ⟨rfl, hb1⟩
      have HI1 : Hid (GB w.heap.size w w1 w.heap.size F (L.take m)) := HIa.out.later hb1
      have x0 := cell_later HXX.out.1 hb1
      have x1 := cell_later HXX.out.2 hb1
      clear HIa HXX hix hb1 c0 c1
      have hbb : Below w1.heap.size w1 (w1.alloc (.cells #[.string X.n, .string X.v] 53)).drew := ((Below.refl _ _).alloc (Nat.le_refl _) _).drew
      have HI2 : Hid (GB w.heap.size w (w1.alloc (.cells #[.string X.n, .string X.v] 53)).drew w.heap.size F (L.take m)) := HI1.out.later hbb
      have HRN : Hid ((w1.alloc (.cells #[.string X.n, .string X.v] 53)).drew.rangeAt w1.heap.size 0 (lcs X)) := range_new w1 [.string X.n, .string X.v] 53
      have d0 := HI1.out.1.cell N hN256
      have d1 : (w1.alloc (.cells #[.string X.n, .string X.v] 53)).cell? ⟨w.heap.size, N, none⟩ = some (F N) := HI2.out.1.cell N hN256
      have HLN : Hid ((TR.und idxL 0 N (L.take m)).length + 1 ≤ 1000000) := by
        show (TR.und idxL 0 N (L.take m)).length + 1 ≤ 1000000
        have h1 := und_len 0 N (L.take m)
        rw [List.length_take] at h1
        omega
      have HSV : Hid (∀ W G, GB w.heap.size w W w.heap.size G (L.take m ++ [X]) → NxR w L (.int .i64 ((m : Int) + 1)) W) := by
        rw [← hst]
        exact fun W G hG => ⟨m + 1, G, by rw [HN.out]; omega, by congr 1, hG⟩
      have hj1 : (N : Int) < 256 := by omega
      have hj0 : (0 : Int) ≤ (N : Int) := by omega
      obtain ⟨FN, hFN⟩ : ∃ FN, F N = FN := ⟨_, rfl⟩
      have HFN : Hid (F N = FN) := hFN
      rw [hFN] at d0 d1
      clear hst hFN HV
      generalize L.take m = l0 at *
      have hIX := index_bk w.heap.size N hj1 hj0
      clear hj1 hj0
      go_wp2
      go_region_law ((refine step_leafL rfl _ _ rfl w.heap.size w FN (TR.und idxL 0 N l0) X (by rfl) (by have h := HI2.out.2.2.1 N hN256; rw [HFN.out] at h; exact h) _ (by rfl) HRN.out HLN.out ?_; intro g8 cap8 w9 ho9 hg9 hl9; have hs9 := HI2.out.app1 hN256 (by rw [HFN.out]; exact hg9); have e1 := hs9.cell N hN256; have f1 := hs9.frozen N))
      all_goals
        have HN2 : Hid (NxR w L (.int .i64 ((m : Int) + 1)) (w9.setCell ⟨w.heap.size, N, none⟩ (.slice (some ⟨g8, 0, none⟩) ((TR.und idxL 0 N l0).length + 1) cap8))) := HSV.out _ _ (HI2.out.app hN256 HX.out ho9 (by rw [HFN.out]; exact hg9) (by rw [HFN.out]; exact hl9))
        clear hs9 e1 f1 ho9 hg9 hl9 HI1 HI2 HRN HSV HFN d0 d1 x0 x1 hIX
        go_wp2
        go_roundw
        case rel => exact HN2.out
        case measure => simp [intOf]; omega
    · have hme : m = n := by omega
      have e : L.take m = L := List.take_of_length_le (by rw [HN.out]; omega)
      rw [e] at HI
      subst hme
      clear e HA HN
      obtain ⟨N, hN⟩ : ∃ N, 2 ^ (8 - l) = N := ⟨_, rfl⟩
      have hNpos : 0 < N := by rw [← hN]; exact Nat.two_pow_pos _
      have h256 : 2 ^ l * N = 256 := by
        rw [← hN, ← Nat.pow_add, show l + (8 - l) = 8 by omega]
      have hq : (256 : Int) / 2 ^ l = (N : Int) := by
        have e1 : ((2 ^ l : Nat) : Int) = (2 : Int) ^ l := by simp
        have e3 : (256 : Int) = ((2 ^ l * N : Nat) : Int) := by rw [h256]; rfl
        rw [← e1, e3]
        have e2 : ((2 ^ l * N : Nat) : Int) / ((2 ^ l : Nat) : Int) = ((2 ^ l * N / 2 ^ l : Nat) : Int) := by simp
        rw [e2, Nat.mul_div_cancel_left _ (Nat.two_pow_pos l)]
      obtain ⟨b, hb⟩ : ∃ b, p * N = b := ⟨_, rfl⟩
      have hbc : b + N ≤ 256 := by
        have h1 : (p + 1) * N ≤ 2 ^ l * N := Nat.mul_le_mul_right N hp
        rw [h256, Nat.add_mul, Nat.one_mul, hb] at h1
        exact h1
      have hpl : p ≤ 256 := by
        have h1 : 2 ^ l ≤ 2 ^ 8 := Nat.pow_le_pow_right (by omega) hl8
        omega
      obtain ⟨c, hc⟩ : ∃ c, b + N = c := ⟨_, rfl⟩
      have m1 : (p : Int) * (N : Int) = (b : Int) := by rw [← hb]; simp
      have m2 : ((p : Int) + 1) * (N : Int) = (c : Int) := by rw [Int.add_mul, m1, ← hc]; simp
      have a1 : IntKind.i64.wrap ((p : Int) * (N : Int)) = (b : Int) := by rw [m1]; exact IntWalk.i64_in _ (by omega)
      have a2 : IntKind.i64.wrap ((p : Int) + 1) = (p : Int) + 1 := IntWalk.i64_in _ (by omega)
      have a3 : IntKind.i64.wrap (((p : Int) + 1) * (N : Int)) = (c : Int) := by rw [m2]; exact IntWalk.i64_in _ (by omega)
      have hSL := slice_bk w.heap.size b c N hc.symm (by omega) hNpos
      have hE : Hid (Calls Tryz.prog 80 #[.int .i64 (l : Int), .int .i64 x] wr.drew fun e w' => ∃ v, e = .returned v ∧ EmN x w' (8 - l) v ∧ Below wr.heap.size wr w') :=
        (emptyAt_any x (8 - l) (l : Int) wr.drew (by omega) (by omega) (HV.out.2.2.2.later (HI.out.below.trans (Below.refl _ _).drew))).mono fun e w' ⟨v, h1, h2, h3⟩ => ⟨v, h1, h2, (Below.refl _ _).drew.trans h3⟩
      have HG : Hid (∀ W v, Below wr.heap.size wr W → EmN x W (8 - l) v → Calls Tryz.prog 79 #[.slice (some ⟨w.heap.size, b, none⟩) N (256 - b), v, .int .i64 x] W fun e w' => ∃ u, e = .returned u ∧ NT x L w' (8 - l) p u ∧ Below w.heap.size w w') := fun W v hW hEm => by
        have hbw : Below w.heap.size w W := HI.out.below.trans (hW.mono HI.out.below.size)
        have h1 := grown_any x L HV.out.2.2.1 HV.out.2.1 (8 - l) p w.heap.size b N (256 - b) v W hN.symm (by omega) (by omega) (by rw [hb]; exact (HI.out.later hW).row HV.out.2.2.1.1 b N hbc) hEm (HV.out.2.2.2.later hbw)
        exact h1.mono fun e w' ⟨u, h2, h3, h4⟩ => ⟨u, h2, h3, hbw.trans (h4.mono hbw.size)⟩
      clear HI HV hb hc hN h256 hbc m1 m2 hp
      go_wp2_with fail
      clear hq
      go_region_held3 (fun _ => True) (exact trivial) ((first | (go_at_call 80; with_reducible refine hE.out.mono ?_; rintro e w5 ⟨v5, rfl, hEm, hb5⟩) | (go_at_call 79; with_reducible refine (HG.out _ _ hb5 hEm).mono ?_; rintro e w6 ⟨u6, rfl, hNT, hb6⟩)))
      have HF : Hid (∃ u, Ending.returned u6 = .returned u ∧ NT x L w6 (8 - l) p u ∧ Below w.heap.size w w6) := ⟨_, rfl, hNT, hb6⟩
      clear hE HG hEm hb5 hNT hb6 hSL
      go_wp2
      go_ret
      exact HF.out

end Go.Proofs.YtfiapodjiifmaaaGreatDoor
/-
  What NodeHash, RootOf and SidesOf answer: the program's.
-/
namespace Go.Proofs.YtfiapodjiifmaaaGreatDoor
open Go.RowKit Go.BigFrame Go.Sort
set_option linter.unusedVariables false
set_option linter.unusedSimpArgs false

end Go.Proofs.YtfiapodjiifmaaaGreatDoor
/-
  What FoldUp answers, the program's and the specification's.
-/
namespace Go.Proofs.YtfiapodjiifmaaaGreatDoor
open Go.RowKit Go.BigFrame
set_option linter.unusedVariables false
set_option linter.unusedSimpArgs false

namespace TR
variable {β : Type} {hN : β → β → β} {b : Nat → Bool}
theorem fold_snoc : ∀ (l : List β) (i : Nat) (h s : β), fold hN b i h (l ++ [s]) = if b (i + l.length) then hN s (fold hN b i h l) else hN (fold hN b i h l) s
  | [], i, h, s => rfl
  | a :: t, i, h, s => by
    have := fold_snoc t (i + 1) (if b i then hN a h else hN h a) s
    rw [show i + 1 + t.length = i + (a :: t).length by simp; omega] at this
    exact this
theorem fold_step {l : List β} {m : Nat} (hm : m < l.length) (h : β) : fold hN b 0 h (l.take (m + 1)) = if b m then hN l[m] (fold hN b 0 h (l.take m)) else hN (fold hN b 0 h (l.take m)) l[m] := by
  rw [List.take_succ_eq_append_getElem hm, fold_snoc]
  have : (l.take m).length = m := by simp; omega
  rw [this, Nat.zero_add]
end TR

theorem BitOf_at (x z : Int) (w : World) (h : 0 ≤ z ∧ z ≤ 7) : Calls Tryz.prog 38 #[.int .i64 x, .int .i64 z] w fun e w' => e = .returned (.int .i64 (bitI x z.toNat)) ∧ w' = w := by
  obtain ⟨k, rfl⟩ := Int.eq_ofNat_of_zero_le h.1
  exact BitOf_yes x k w (by omega)
/-- is the hash second at this step? -/
def fbB (ix : Int) (l i : Nat) : Bool := !decide (bitI ix (l - 1 - i) = 0)
def fuF (x ix : Int) (l : Nat) (h : ByteArray) (s : List ByteArray) : ByteArray := TR.fold (hnB x) (fbB ix l) 0 h s
/-- what FoldUp is -/
def fuB (h : ByteArray) (ix l : Int) (s : List ByteArray) (x : Int) : ByteArray := if (0 ≤ l ∧ l ≤ 8) ∧ (s.length : Int) ≤ l then fuF x ix l.toNat h s else ⟨#[]⟩

theorem fuF_step (x ix : Int) (l : Nat) (h : ByteArray) {s : List ByteArray} {m : Nat} (hm : m < s.length) : fuF x ix l h (s.take (m + 1)) = if bitI ix (l - 1 - m) = 0 then hashB 3 [fuF x ix l h (s.take m), s[m]] x else hashB 3 [s[m], fuF x ix l h (s.take m)] x := by
  unfold fuF
  rw [TR.fold_step hm]
  unfold fbB
  by_cases hb : bitI ix (l - 1 - m) = 0
  · rw [if_pos hb]; simp [hb]; rfl
  · rw [if_neg hb]; simp [hb]; rfl
theorem fuF_none (x ix : Int) (l : Nat) (h : ByteArray) : fuF x ix l h [] = h := rfl

def FuR (x ix : Int) (l : Nat) (h : ByteArray) (s : List ByteArray) (w : World) (u i : Value) (wr : World) : Prop := ∃ m : Nat, m ≤ s.length ∧ i = .int .i64 m ∧ u = .string (fuF x ix l h (s.take m)) ∧ Below w.heap.size w wr

theorem inOrder_0 (h s : ByteArray) (w : World) : Calls Tryz.prog 36 #[.string h, .string s, .int .i64 0] w fun e w' => e = .returned (.tuple #[.string h, .string s]) ∧ w' = w := by
  go_enter Tryz.func36, Tryz.ntmps36
  go_wp2
  go_ret2
  exact ⟨rfl, rfl⟩
theorem inOrder_1 (h s : ByteArray) (b : Int) (w : World) (hb : b ≠ 0) : Calls Tryz.prog 36 #[.string h, .string s, .int .i64 b] w fun e w' => e = .returned (.tuple #[.string s, .string h]) ∧ w' = w := by
  have qb : (b == 0) = false := by simpa using hb
  clear hb
  go_enter Tryz.func36, Tryz.ntmps36
  go_wp2
  go_ret2
  exact ⟨rfl, rfl⟩

end Go.Proofs.YtfiapodjiifmaaaGreatDoor
/-
  The sides that the program finds on the way down.
-/
namespace Go.Proofs.YtfiapodjiifmaaaGreatDoor
open Go.RowKit Go.BigFrame Go.Sort
set_option linter.unusedVariables false
set_option linter.unusedSimpArgs false

theorem one_new (w : World) (t : ByteArray) : (w.alloc (.cells #[.string t] 9)).cell? ⟨w.heap.size, 0, none⟩ = some (.string t) := by
  rw [World.cell?_alloc_at _ _ _ _ rfl]; rfl
theorem asFF (v : Value) (w : World) : (Instr.typeAssert (.iface 110 v) 84 110 true).run Tryz.prog w = .ok (.tuple #[v, .bool true]) w := by kernel_rfl
theorem asEF (v : Value) (w : World) : (Instr.typeAssert (.iface 114 v) 84 110 true).run Tryz.prog w = .ok (.tuple #[.pointer none, .bool false]) w := by kernel_rfl
theorem asEE (v : Value) (w : World) : (Instr.typeAssert (.iface 114 v) 84 114 true).run Tryz.prog w = .ok (.tuple #[v, .bool true]) w := by kernel_rfl
theorem asKF (v : Value) (w : World) : (Instr.typeAssert (.iface 143 v) 84 110 true).run Tryz.prog w = .ok (.tuple #[.pointer none, .bool false]) w := by kernel_rfl
theorem asKE (v : Value) (w : World) : (Instr.typeAssert (.iface 143 v) 84 114 true).run Tryz.prog w = .ok (.tuple #[.pointer none, .bool false]) w := by kernel_rfl

section
variable {w : World} {ops : Array Oper} {o : Oper} {a : Act} {K : Act → World → Prop} {Q : Exit → Act → World → Prop}
/-- hash of a node, as one step of a region that draws its order -/
theorem step_hash {E : Prop} (hgd : o.guard = none) (r : Operand) (ho : o.op = .call { callee := .invoke r "loop.example/g00284/impl.hash", args := #[], argTypes := #[] })
    (v : Value) (t : ByteArray) (hv : a.eval r = v) (hN : HsN w v t) (hk : K (a.put o.dst (.string t)) w) : if Region.wanted o (yielded ops a.tmps) = true then Oper.wp Tryz.prog o a w K Q else E := by
  have hw : Region.wanted o (yielded ops a.tmps) = true := by simp [Region.wanted, hgd]
  rw [if_pos hw]
  exact oper_hash r ho v t hv hN hk
end

theorem and_b (q : Nat) (h : q ≤ 255) : bits BinOp.and IntKind.i64 (q : Int) 1 = ((q % 2 : Nat) : Int) := by
  have : ∀ q : Fin 256, bits BinOp.and IntKind.i64 ((q.val : Nat) : Int) 1 = ((q.val % 2 : Nat) : Int) := by decide +kernel
  exact this ⟨q, by omega⟩
theorem bit_of (ix k : Nat) (hk : k ≤ 7) (hx : ix ≤ 255) : bitI (ix : Int) (7 - k) = ((ix / 2 ^ k % 2 : Nat) : Int) := by
  unfold bitI
  have e1 : 7 - (7 - k) = k := by omega
  have e2 : (ix : Int) / 2 ^ k = ((ix / 2 ^ k : Nat) : Int) := by simp
  rw [e1, e2]
  exact and_b _ (Nat.le_trans (Nat.div_le_self _ _) hx)
theorem oth_half (q : Nat) : TR.oth q / 2 = q / 2 := by unfold TR.oth; split <;> omega

/-- what sidesBelow answers at this height -/
def SbC (x : Int) (L : List Le) (ix k : Nat) : Prop := ∀ (v : Value) (l : Int) (w : World), l + (k : Int) = 8 → NT x L w k (ix / 2 ^ k) v →
    Calls Tryz.prog 54 #[v, .int .i64 (ix : Int), .int .i64 l] w fun e w' => ∃ u, e = .returned u ∧ OS w.heap.size w w' u (sdL x ix L k)

theorem sdL_zero (x : Int) (ix : Nat) (L : List Le) : sdL x ix L 0 = [] := rfl

set_option maxRecDepth 100000 in
set_option maxHeartbeats 1000000 in
theorem sidesBelow_zero (x : Int) (L : List Le) (ix : Nat) : SbC x L ix 0 := by
  intro v l w hl hN
  have HF : Hid (∃ u, Ending.returned (.slice (some ⟨w.heap.size, 0, none⟩) 0 0) = .returned u ∧ OS w.heap.size w (w.alloc (.cells #[] 9)) u (sdL x ix L 0)) := ⟨_, rfl, OS.made w⟩
  rcases hN with ⟨q, rfl, ⟨g, rfl, c0, c1⟩, _⟩ | ⟨g, rfl, c0⟩
  · have hA1 := asEF
    have hA2 := asEE
    generalize empB x 0 = T at *
    go_enter Tryz.func54, Tryz.ntmps54
    go_wp2_with fail
    go_ret
    exact HF.out
  · have hA1 := asKF
    have hA2 := asKE
    generalize trB x 0 (ix / 2 ^ 0) L = T at *
    go_enter Tryz.func54, Tryz.ntmps54
    go_wp2_with fail
    go_ret
    exact HF.out

set_option maxRecDepth 100000 in
set_option maxHeartbeats 2000000 in
theorem sidesBelow_up (x : Int) (L : List Le) (ix k : Nat) (hk : k ≤ 7) (hx : ix ≤ 255) (ih : SbC x L ix k) : SbC x L ix (k + 1) := by
  intro v l w hl hN
  have hst := sdL_up x ix L k
  have hll : (sdL x ix L k).length = k := sdL_len x ix L k
  have HLN : Hid ((sdL x ix L k).length + 1 ≤ 1000000) := by show (sdL x ix L k).length + 1 ≤ 1000000; omega
  have HF : Hid (∀ g cap W, OS w.heap.size w W (.slice (some ⟨g, 0, none⟩) ((sdL x ix L k).length + 1) cap) (sdL x ix L k ++ [trB x k (TR.oth (ix / 2 ^ k)) L]) → ∃ u, Ending.returned (.slice (some ⟨g, 0, none⟩) ((sdL x ix L k).length + 1) cap) = .returned u ∧ OS w.heap.size w W u (sdL x ix L (k + 1))) := fun g cap W hW => ⟨_, rfl, by rw [hst]; exact hW⟩
  have hq2 : ix / 2 ^ (k + 1) = ix / 2 ^ k / 2 := by rw [Nat.pow_succ, Nat.div_div_eq_div_mul]
  have HC : Hid (∀ v, NT x L w k (ix / 2 ^ k) v → Calls Tryz.prog 54 #[v, .int .i64 (ix : Int), .int .i64 (l + 1)] w.drew fun e w' => ∃ u, e = .returned u ∧ OS w.heap.size w w' u (sdL x ix L k)) := fun v hv =>
    (ih v (l + 1) w.drew (by omega) (NT.later (w := w) (Below.refl _ _).drew hv)).mono fun e w' ⟨u, h1, h2⟩ => ⟨u, h1, OS.from h2 (Below.refl _ _).drew⟩
  have l0 : 0 ≤ l := by omega
  have l8 : l < 8 := by omega
  have a1 : IntKind.i64.wrap (l + 1) = l + 1 := IntWalk.i64_in _ (by omega)
  clear hst hll
  rcases hN with ⟨q, rfl, ⟨g, b, rfl, c0, c1, hb⟩, hu⟩ | ⟨g, a, b, rfl, c0, c1, c2, hNa, hNb⟩
  · rw [hq2] at hu
    have hu1 : TR.und idxL k (ix / 2 ^ k) L = [] := TR.und_down (k := k) (j := 1) (by simp) hu
    have hu2 : TR.und idxL k (TR.oth (ix / 2 ^ k)) L = [] := TR.und_down (k := k) (j := 1) (by rw [Nat.pow_one]; exact oth_half _) hu
    have hC1 := HC.out _ (NT.empty hb hu1)
    have HH : Hid (∀ W, Below w.heap.size w W → ∃ gb, b = .pointer (some ⟨gb, 0, none⟩) ∧ W.cell? ⟨gb, 1, none⟩ = some (.string (trB x k (TR.oth (ix / 2 ^ k)) L))) := fun W hW => by
      obtain ⟨gb, h1, h2⟩ := (hb.later hW).made
      exact ⟨gb, h1, by rw [tr_emp hu2]; exact h2⟩
    obtain ⟨gb, rfl, _⟩ := hb.made
    have hA1 := asEF
    have hA2 := asEE
    have hg : g < w.heap.size := lt_of_cell c0
    clear hu hu1 hu2 HC hq2 c1 hb ih
    generalize sdL x ix L k = l0 at *
    generalize trB x k (TR.oth (ix / 2 ^ k)) L = T at *
    have HHH : Hid (∀ W, Below w.heap.size w W → Calls Tryz.prog 78 #[.pointer (some ⟨gb, 0, none⟩)] W fun e w' => e = .returned (.string T) ∧ w' = W) := fun W hW => by
      obtain ⟨gb', h1, h2⟩ := HH.out W hW
      obtain rfl : gb = gb' := by simpa using h1
      exact hashE_any gb T W h2
    go_enter Tryz.func54, Tryz.ntmps54
    go_wp2_with fail
    go_region_held3 (fun W => W.cell? ⟨g, 0, none⟩ = some (.pointer (some ⟨gb, 0, none⟩))) (first | go_keep | exact (hos1.2.1.cell (p := ⟨g, 0, none⟩) hg).trans c0 | exact (ho5.2.1.cell (p := ⟨g, 0, none⟩) hg).trans c0) ((first | (go_at_call 54; refine hC1.mono ?_; rintro e w1 ⟨u1, rfl, hos1⟩; have hbw1 := hos1.2.1; have hosa := fun o => hos1.alloc o) | (go_at_call 78; with_reducible refine (HHH.out _ hbw1).mono ?_; rintro e w2 ⟨rfl, rfl⟩) | (refine step_txtL rfl _ _ rfl w.heap.size w _ l0 T rfl (hosa _) _ rfl (one_new _ _) HLN.out ?_; intro g5 cap5 w5 ho5 hg5 hl5) | fail))
    have HF5 := HF.out _ _ _ ho5
    have HFF : Hid (∃ u, Ending.returned (.slice (some ⟨g5, 0, none⟩) (l0.length + 1) cap5) = .returned u ∧ OS w.heap.size w w5 u (sdL x ix L (k + 1))) := HF5
    clear HF5 HF ho5 hg5 hl5 HHH HH hC1
    go_wp2
    go_ret
    exact HFF.out
  · have hg : g < w.heap.size := lt_of_cell c0
    have hA1 := asFF
    have w1 : IntKind.i64.wrap 1 = 1 := rfl
    have w0 : IntKind.i64.wrap 0 = 0 := rfl
    have w2 : IntKind.i64.wrap (1 - 0) = 1 := rfl
    have w3 : IntKind.i64.wrap (1 - 1) = 0 := rfl
    have hbo := BitOf_at (ix : Int) l w ⟨l0, by omega⟩
    rw [show l.toNat = 7 - k by omega, bit_of ix k hk hx] at hbo
    by_cases hb0 : ix / 2 ^ k % 2 = 0
    · have hq : ix / 2 ^ k = 2 * (ix / 2 ^ (k + 1)) := by omega
      have ho : TR.oth (ix / 2 ^ k) = 2 * (ix / 2 ^ (k + 1)) + 1 := by unfold TR.oth; rw [if_pos hb0]; omega
      have hb : ((ix / 2 ^ k % 2 : Nat) : Int) = 0 := by omega
      rw [hb] at hbo
      have hC1 := HC.out a (by rw [hq]; exact hNa)
      have HH : Hid (∀ W, Below w.heap.size w W → HsN W b (trB x k (TR.oth (ix / 2 ^ k)) L)) := fun W hW => by
        rw [ho]
        exact (NT.later hW hNb).hash
      clear hq ho hNa hNb HC hq2 c2 ih hb
      generalize sdL x ix L k = l0 at *
      generalize trB x k (TR.oth (ix / 2 ^ k)) L = T at *
      go_enter Tryz.func54, Tryz.ntmps54
      go_wp2_with fail
      refine hbo.mono ?_
      rintro e w0 ⟨rfl, rfl⟩
      clear hbo
      go_wp2_with fail
      go_region_held3 (fun W => W.cell? ⟨g, 0, none⟩ = some a ∧ W.cell? ⟨g, 1, none⟩ = some b) (first | go_keep | exact ⟨(hos1.2.1.cell (p := ⟨g, 0, none⟩) hg).trans c0, (hos1.2.1.cell (p := ⟨g, 1, none⟩) hg).trans c1⟩ | exact ⟨(ho5.2.1.cell (p := ⟨g, 0, none⟩) hg).trans c0, (ho5.2.1.cell (p := ⟨g, 1, none⟩) hg).trans c1⟩) ((first | (go_at_call 54; refine hC1.mono ?_; rintro e w1 ⟨u1, rfl, hos1⟩; have hbw1 := hos1.2.1; have hosa := fun o => hos1.alloc o) | (refine step_hash rfl _ rfl _ T rfl (HH.out _ hbw1) ?_) | (refine step_txtL rfl _ _ rfl w0.heap.size w0 _ l0 T rfl (hosa _) _ rfl (one_new _ _) HLN.out ?_; intro g5 cap5 w5 ho5 hg5 hl5) | fail))
      have HF5 := HF.out _ _ _ ho5
      have HFF : Hid (∃ u, Ending.returned (.slice (some ⟨g5, 0, none⟩) (l0.length + 1) cap5) = .returned u ∧ OS w0.heap.size w0 w5 u (sdL x ix L (k + 1))) := HF5
      clear HF5 HF ho5 hg5 hl5 HH hC1
      go_wp2
      go_ret
      exact HFF.out
    · have hq : ix / 2 ^ k = 2 * (ix / 2 ^ (k + 1)) + 1 := by omega
      have ho : TR.oth (ix / 2 ^ k) = 2 * (ix / 2 ^ (k + 1)) := by unfold TR.oth; rw [if_neg (by omega)]; omega
      have hb : ((ix / 2 ^ k % 2 : Nat) : Int) = 1 := by omega
      rw [hb] at hbo
      have hC1 := HC.out b (by rw [hq]; exact hNb)
      have HH : Hid (∀ W, Below w.heap.size w W → HsN W a (trB x k (TR.oth (ix / 2 ^ k)) L)) := fun W hW => by
        rw [ho]
        exact (NT.later hW hNa).hash
      clear hq ho hNa hNb HC hq2 c2 ih hb
      generalize sdL x ix L k = l0 at *
      generalize trB x k (TR.oth (ix / 2 ^ k)) L = T at *
      go_enter Tryz.func54, Tryz.ntmps54
      go_wp2_with fail
      refine hbo.mono ?_
      rintro e w0 ⟨rfl, rfl⟩
      clear hbo
      go_wp2_with fail
      go_region_held3 (fun W => W.cell? ⟨g, 0, none⟩ = some a ∧ W.cell? ⟨g, 1, none⟩ = some b) (first | go_keep | exact ⟨(hos1.2.1.cell (p := ⟨g, 0, none⟩) hg).trans c0, (hos1.2.1.cell (p := ⟨g, 1, none⟩) hg).trans c1⟩ | exact ⟨(ho5.2.1.cell (p := ⟨g, 0, none⟩) hg).trans c0, (ho5.2.1.cell (p := ⟨g, 1, none⟩) hg).trans c1⟩) ((first | (go_at_call 54; refine hC1.mono ?_; rintro e w1 ⟨u1, rfl, hos1⟩; have hbw1 := hos1.2.1; have hosa := fun o => hos1.alloc o) | (refine step_hash rfl _ rfl _ T rfl (HH.out _ hbw1) ?_) | (refine step_txtL rfl _ _ rfl w0.heap.size w0 _ l0 T rfl (hosa _) _ rfl (one_new _ _) HLN.out ?_; intro g5 cap5 w5 ho5 hg5 hl5) | fail))
      have HF5 := HF.out _ _ _ ho5
      have HFF : Hid (∃ u, Ending.returned (.slice (some ⟨g5, 0, none⟩) (l0.length + 1) cap5) = .returned u ∧ OS w0.heap.size w0 w5 u (sdL x ix L (k + 1))) := HF5
      clear HF5 HF ho5 hg5 hl5 HH hC1
      go_wp2
      go_ret
      exact HFF.out

theorem sidesBelow_any (x : Int) (L : List Le) (ix : Nat) (hx : ix ≤ 255) : ∀ k, k ≤ 8 → SbC x L ix k
  | 0, _ => sidesBelow_zero x L ix
  | k + 1, h => sidesBelow_up x L ix k (by omega) hx (sidesBelow_any x L ix hx k (by omega))

end Go.Proofs.YtfiapodjiifmaaaGreatDoor
/-
  What SidesOf answers: the program's.
-/
namespace Go.Proofs.YtfiapodjiifmaaaGreatDoor
open Go.RowKit Go.BigFrame Go.Sort
set_option linter.unusedVariables false
set_option linter.unusedSimpArgs false

theorem OS.upT {B : Nat} {w0 w w' : World} {u : Value} {l : List ByteArray} (hb : Below B w0 w) (hB : B ≤ w.heap.size) (h : OS w.heap.size w w' u l) : OS B w0 w' u l := by
  refine ⟨⟨h.1.1, ?_⟩, hb.trans (h.2.1.mono hB), Nat.le_trans hB h.2.2⟩
  rcases h.1.2 with hn | ⟨g, cap, cur, hv, hbg, rest⟩
  · exact .inl hn
  · exact .inr ⟨g, cap, cur, hv, Nat.le_trans hB hbg, rest⟩

set_option maxRecDepth 100000 in
set_option maxHeartbeats 1000000 in
theorem SidesOf_yes (v : Value) (ga oa : Nat) (L : List Le) (ix l : Nat) (x : Int) (w : World) (hv : RS 2 lcs w v ga oa L) (hsm : SmallL L) (h1 : LV.leavesB L = true) (h2 : ix ≤ 255) (h3 : l ≤ 8) (h4 : 1 ≤ x ∧ x ≤ 32) (hT : Tb w) :
    Calls Tryz.prog 26 #[v, .int .i64 (ix : Int), .int .i64 (l : Int), .int .i64 x] w fun e w' => ∃ u, e = .returned u ∧ OS w.heap.size w w' u (sdL x ix L (8 - l)) := by
  have hc := LeavesOk_any v ga oa L w hv hsm
  rw [h1] at hc
  have hpl : ix / 2 ^ (8 - l) < 2 ^ l := by
    rw [Nat.div_lt_iff_lt_mul (Nat.two_pow_pos _), ← Nat.pow_add, show l + (8 - l) = 8 by omega]
    omega
  have HN : Hid (∀ W, Below w.heap.size w W → Calls Tryz.prog 55 #[v, .int .i64 (l : Int), .int .i64 ((ix : Int) / 2 ^ (8 - l)), .int .i64 x] W fun e w' => ∃ u, e = .returned u ∧ NT x L w' (8 - l) (ix / 2 ^ (8 - l)) u ∧ Below w.heap.size w w') := fun W hW => by
    have hsh : (ix : Int) / 2 ^ (8 - l) = ((ix / 2 ^ (8 - l) : Nat) : Int) := by simp
    rw [hsh]
    have h := nodeAt_any v ga oa L l (ix / 2 ^ (8 - l)) x W (hv.later hW) hsm (LV.leavesB_iff.1 h1) h3 hpl (hT.later hW)
    exact h.mono fun e w' ⟨u, h6, h7, h8⟩ => ⟨u, h6, h7, hW.trans (h8.mono hW.size)⟩
  have HS : Hid (∀ W u, Below w.heap.size w W → NT x L W (8 - l) (ix / 2 ^ (8 - l)) u → Calls Tryz.prog 54 #[u, .int .i64 (ix : Int), .int .i64 (l : Int)] W fun e w' => ∃ r, e = .returned r ∧ OS w.heap.size w w' r (sdL x ix L (8 - l))) := fun W u hW hNT => by
    have h := sidesBelow_any x L ix h2 (8 - l) (by omega) u (l : Int) W (by omega) hNT
    exact h.mono fun e w' ⟨r, h6, h7⟩ => ⟨r, h6, OS.upT hW hW.size h7⟩
  obtain ⟨a, cap, rfl, hl, _⟩ := hv
  have d1 : decide (0 ≤ (l : Int) ∧ (l : Int) ≤ 8) = true := by simp; omega
  have d2 : decide (1 ≤ x ∧ x ≤ 32) = true := by simpa using h4
  have q1 : decide ((ix : Int) < 0) = false := by simp
  have q3 : (0 : Int) ≤ 8 - (l : Int) := by omega
  have q2 : decide ((256 : Int) ≤ (ix : Int)) = false := by simp; omega
  clear hsm h1 hT
  go_enter Tryz.func26, Tryz.ntmps26
  go_wp2_with fail
  refine hc.mono ?_
  rintro e w1 ⟨rfl, hb1⟩
  clear hc
  go_wp2_with fail
  refine (levelOk_any _ _).mono ?_
  rintro e w2 ⟨rfl, rfl⟩
  rw [d1]
  go_wp2_with fail
  refine (widthOk_any _ _).mono ?_
  rintro e w2 ⟨rfl, rfl⟩
  rw [d2]
  go_wp2_with fail
  refine (HN.out _ hb1).mono ?_
  rintro e w3 ⟨u, rfl, hNT, hb3⟩
  have hS := HS.out _ _ hb3 hNT
  clear HN HS hNT
  go_wp2_with fail
  refine hS.mono ?_
  rintro e w4 ⟨r, rfl, ho⟩
  have HF : Hid (∃ u, Ending.returned r = .returned u ∧ OS w.heap.size w w4 u (sdL x ix L (8 - l))) := ⟨_, rfl, ho⟩
  clear hS ho hb3 hb1
  go_wp2
  go_ret
  exact HF.out

theorem SidesOf_any (v : Value) (ga oa : Nat) (L : List Le) (ix l x : Int) (w : World) (hv : RS 2 lcs w v ga oa L) (hsm : SmallL L) (hT : Tb w) :
    Calls Tryz.prog 26 #[v, .int .i64 ix, .int .i64 l, .int .i64 x] w fun e w' => ∃ u, e = .returned u ∧ OS w.heap.size w w' u (sdA L ix l x) := by
  unfold sdA
  have hc := LeavesOk_any v ga oa L w hv hsm
  have HF : Hid (∀ W, Below w.heap.size w W → ∃ u, Ending.returned (.slice (some ⟨W.heap.size, 0, none⟩) 0 0) = .returned u ∧ OS w.heap.size w (W.alloc (.cells #[] 9)) u []) := fun W hW => ⟨_, rfl, OS.upT hW hW.size (OS.made W)⟩
  cases h1 : LV.leavesB L with
  | false =>
    rw [if_neg (fun h => by simp at h)]
    rw [h1] at hc
    obtain ⟨a, cap, rfl, hl, _⟩ := hv
    clear hsm h1 hT
    go_enter Tryz.func26, Tryz.ntmps26
    go_wp2_with fail
    refine hc.mono ?_
    rintro e w1 ⟨rfl, hb1⟩
    clear hc
    go_wp2
    go_ret
    exact HF.out _ hb1
  | true =>
    by_cases h2 : 0 ≤ ix ∧ ix ≤ 255
    · have q1 : decide (ix < 0) = false := by simp; omega
      have q2 : decide (256 ≤ ix) = false := by simp; omega
      by_cases h3 : 0 ≤ l ∧ l ≤ 8
      · by_cases h4 : 1 ≤ x ∧ x ≤ 32
        · rw [if_pos ⟨rfl, h2, h3, h4⟩]
          obtain ⟨i, rfl⟩ := Int.eq_ofNat_of_zero_le h2.1
          obtain ⟨k, rfl⟩ := Int.eq_ofNat_of_zero_le h3.1
          exact SidesOf_yes v ga oa L i k x w hv hsm h1 (by omega) (by omega) h4 hT
        · rw [if_neg (fun h => h4 h.2.2.2)]
          rw [h1] at hc
          obtain ⟨a, cap, rfl, hl, _⟩ := hv
          have d1 : decide (0 ≤ l ∧ l ≤ 8) = true := by simpa using h3
          have d2 : decide (1 ≤ x ∧ x ≤ 32) = false := by simpa using h4
          clear hsm h1 hT
          go_enter Tryz.func26, Tryz.ntmps26
          go_wp2_with fail
          refine hc.mono ?_
          rintro e w1 ⟨rfl, hb1⟩
          clear hc
          go_wp2_with fail
          refine (levelOk_any _ _).mono ?_
          rintro e w2 ⟨rfl, rfl⟩
          rw [d1]
          go_wp2_with fail
          refine (widthOk_any _ _).mono ?_
          rintro e w2 ⟨rfl, rfl⟩
          rw [d2]
          go_wp2
          go_ret
          exact HF.out _ hb1
      · rw [if_neg (fun h => h3 h.2.2.1)]
        rw [h1] at hc
        obtain ⟨a, cap, rfl, hl, _⟩ := hv
        have d1 : decide (0 ≤ l ∧ l ≤ 8) = false := by simpa using h3
        clear hsm h1 hT h3
        go_enter Tryz.func26, Tryz.ntmps26
        go_wp2_with fail
        refine hc.mono ?_
        rintro e w1 ⟨rfl, hb1⟩
        clear hc
        go_wp2_with fail
        refine (levelOk_any _ _).mono ?_
        rintro e w2 ⟨rfl, rfl⟩
        rw [d1]
        go_wp2
        go_ret
        exact HF.out _ hb1
    · rw [if_neg (fun h => h2 h.2.1)]
      rw [h1] at hc
      obtain ⟨a, cap, rfl, hl, _⟩ := hv
      by_cases h0 : ix < 0
      · have q1 : decide (ix < 0) = true := by simpa using h0
        clear hsm h1 hT h2
        go_enter Tryz.func26, Tryz.ntmps26
        go_wp2_with fail
        refine hc.mono ?_
        rintro e w1 ⟨rfl, hb1⟩
        clear hc
        go_wp2
        go_ret
        exact HF.out _ hb1
      · have q1 : decide (ix < 0) = false := by simpa using h0
        have q2 : (256 : Int) ≤ ix := by omega
        clear hsm h1 hT h2
        go_enter Tryz.func26, Tryz.ntmps26
        go_wp2_with fail
        refine hc.mono ?_
        rintro e w1 ⟨rfl, hb1⟩
        clear hc
        go_wp2
        go_ret
        exact HF.out _ hb1

end Go.Proofs.YtfiapodjiifmaaaGreatDoor
