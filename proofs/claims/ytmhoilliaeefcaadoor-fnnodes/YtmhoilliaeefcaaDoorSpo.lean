/-
  Leaves with their indexes, as the specification keeps them.
-/
import Derived.Test.YtmhoilliaeefcaaDoorBkd
import Derived.Test.YtmhoilliaeefcaaDoorBh
import Derived.Test.YtmhoilliaeefcaaDoorEm
import Derived.Deep.RegionHeld3
namespace Go.Proofs.YtmhoilliaeefcaaDoor
open Go.RowKit Go.BigFrame Go.Sort
set_option linter.unusedVariables false
set_option linter.unusedSimpArgs false

def scs (f : Le) : List Value := [.string f.n, .string f.v, .int .i64 (idxN f.n : Int)]
theorem scs_len (f : Le) : (scs f).length = 3 := rfl
theorem RS.spot {w : World} {v : Value} {g o : Nat} {l : List Le} (h : RS 3 scs w v g o l) (j : Nat) (hj : j < l.length) :
    w.cell? ⟨g, o + j * 3, none⟩ = some (.string l[j].n) ∧ w.cell? ⟨g, o + j * 3 + 1, none⟩ = some (.string l[j].v) ∧ w.cell? ⟨g, o + j * 3 + 2, none⟩ = some (.int .i64 (idxN l[j].n : Int)) := by
  obtain ⟨a, c, _, _, _, hc⟩ := h
  exact ⟨hc j hj 0 _ rfl, hc j hj 1 _ rfl, hc j hj 2 _ rfl⟩
theorem Tryd.infoSpot : (Tryd.prog.info? 125).map (fun i => (i.zero, i.size, i.bytes)) = some (some (.agg #[.string ByteArray.empty, .string ByteArray.empty, .int .i64 0]), 3, 40) := by kernel_rfl

/-- v owns the spots of the leaves l -/
def OP (B : Nat) (w0 w : World) (v : Value) (l : List Le) : Prop := OR 125 3 scs B w0 w v l
theorem OP.later {B : Nat} {w0 w w' : World} {v : Value} {l : List Le} (h : OP B w0 w v l) (hb : Below w.heap.size w w') : OP B w0 w' v l := OR.later h hb
theorem OP.alloc {B : Nat} {w0 w : World} {v : Value} {l : List Le} (h : OP B w0 w v l) (o : Obj) : OP B w0 (w.alloc o) v l := OR.alloc h o
theorem OP.drew {B : Nat} {w0 w : World} {v : Value} {l : List Le} (h : OP B w0 w v l) : OP B w0 w.drew v l := OR.drew h
theorem OP.rw {B : Nat} {w0 w : World} {v : Value} {l : List Le} (h : OP B w0 w v l) (hl : l.length ≤ 1100000) : ∃ g, RW 3 scs w v g l ∧ B ≤ g ∧ (∀ q, v.ownBlock = some q → q = g) := OR.rw (k := 3) (enc := scs) (fun x => scs_len x) (by omega) h hl
theorem OP.shape {B : Nat} {w0 w : World} {v : Value} {l : List Le} (h : OP B w0 w v l) : ∃ a c, v = .slice a l.length c := by
  rcases h.1.2 with ⟨hv, hn⟩ | ⟨g, cap, cur, hv, _⟩
  · exact ⟨none, 0, by rw [hv, hn]⟩
  · exact ⟨_, _, hv⟩
theorem OP.made (w : World) : OP w.heap.size w (w.alloc (.cells #[] 125)) (.slice (some ⟨w.heap.size, 0, none⟩) 0 0) [] :=
  ⟨World.ownsRow_made w #[] 0 (Nat.le_refl _) (by decide) (by simp), (Below.refl _ _).alloc (Nat.le_refl _) _, by simp⟩

section
variable {w : World} {ops : Array Oper} {o : Oper} {a : Act} {K : Act → World → Prop} {Q : Exit → Act → World → Prop}
theorem scs_one {f : Le} : ∀ u ∈ scs f, u.oneCell' = true := fun u hu => by simp [scs] at hu; rcases hu with rfl | rfl | rfl <;> rfl
/-- a spot appended, as one step of a region that draws its order -/
theorem step_spot {E : Prop} (hgd : o.guard = none) (s x : Operand)
    (ho : o.op = .call { callee := .builtin .append, args := #[s, x], argTypes := #[92, 92] })
    (B : Nat) (w0 : World) (u : Value) (l : List Le) (f : Le) (hs : a.eval s = u) (h : OP B w0 w u l) (p : Nat) (hx : a.eval x = .slice (some ⟨p, 0, none⟩) 1 1)
    (hnews : w.rangeAt p 0 (scs f)) (hlen : l.length + 1 ≤ 1000000)
    (hk : ∀ g cap w', OP B w0 w' (.slice (some ⟨g, 0, none⟩) (l.length + 1) cap) (l ++ [f]) → w.grownBy w' u.ownBlock → K (a.put o.dst (.slice (some ⟨g, 0, none⟩) (l.length + 1) cap)) w') : if Region.wanted o (yielded ops a.tmps) = true then Oper.wp Tryd.prog o a w K Q else E := by
  obtain ⟨i0, hi, hz0, hz1, hz2⟩ := info_parts Tryd.infoSpot
  refine step_append_lies w hgd s x 92 ho B 125 i0 _ 3 40 Tryd.underlying92 hi hz0 hz1 hz2 rfl (by decide) u l.length (l.flatMap scs) hs h.1 ⟨p, 0, none⟩ 1 1 (scs f) hx rfl ?_
    scs_one (by omega) (by unfold maxLen; omega) (by omega) h.2.2 w.heap.size rfl ?_
  · intro j u hj
    have := hnews j u hj
    rw [Addr.add_mid]
    exact this
  · intro g cap w' h1 h2 h3 _
    exact hk _ _ _ ⟨by rw [List.flatMap_append, List.flatMap_singleton, List.length_append]; exact h1, h.2.1.grown h2 h.2.2 (fun k hk => (h.1.lt k hk).1), Nat.le_trans h.2.2 h2.size⟩ h2
/-- .. and in a plain region -/
theorem wp_spot {rest : List Oper} (hgd : o.guard = none) (s x : Operand)
    (ho : o.op = .call { callee := .builtin .append, args := #[s, x], argTypes := #[92, 92] })
    (B : Nat) (w0 : World) (u : Value) (l : List Le) (f : Le) (hs : a.eval s = u) (h : OP B w0 w u l) (p : Nat) (hx : a.eval x = .slice (some ⟨p, 0, none⟩) 1 1)
    (hnews : w.rangeAt p 0 (scs f)) (hlen : l.length + 1 ≤ 1000000)
    (hk : ∀ g cap w', OP B w0 w' (.slice (some ⟨g, 0, none⟩) (l.length + 1) cap) (l ++ [f]) → w.grownBy w' u.ownBlock → wpList Tryd.prog ops Q rest (a.put o.dst (.slice (some ⟨g, 0, none⟩) (l.length + 1) cap)) w') : wpList Tryd.prog ops Q (o :: rest) a w := by
  obtain ⟨i0, hi, hz0, hz1, hz2⟩ := info_parts Tryd.infoSpot
  refine wpList_append_lies w hgd s x 92 ho B 125 i0 _ 3 40 Tryd.underlying92 hi hz0 hz1 hz2 rfl (by decide) u l.length (l.flatMap scs) hs h.1 ⟨p, 0, none⟩ 1 1 (scs f) hx rfl ?_
    scs_one (by omega) (by unfold maxLen; omega) (by omega) h.2.2 w.heap.size rfl ?_
  · intro j u hj
    have := hnews j u hj
    rw [Addr.add_mid]
    exact this
  · intro g cap w' h1 h2 h3 _
    exact hk _ _ _ ⟨by rw [List.flatMap_append, List.flatMap_singleton, List.length_append]; exact h1, h.2.1.grown h2 h.2.2 (fun k hk => (h.1.lt k hk).1), Nat.le_trans h.2.2 h2.size⟩ h2
end

def SpR (w : World) (L : List Le) (u i : Value) (wr : World) : Prop := ∃ m : Nat, m ≤ L.length ∧ i = .int .i64 m ∧ Hid (OP w.heap.size w wr u (L.take m))

set_option maxRecDepth 100000 in
set_option maxHeartbeats 1000000 in
theorem l10Spots_any (v : Value) (ga oa : Nat) (L : List Le) (w : World) (hv : RS 2 lcs w v ga oa L) (hsm : SmallL L) (hl24 : L.length ≤ 24) :
    Calls Tryd.prog 76 #[v] w fun e w' => ∃ u, e = .returned u ∧ OP w.heap.size w w' u L := by
  have HV : Hid (RS 2 lcs w v ga oa L ∧ SmallL L) := ⟨hv, hsm⟩
  obtain ⟨a, cap, rfl, hl, hA, _⟩ := hv
  obtain ⟨n, hn⟩ : ∃ n, L.length = n := ⟨_, rfl⟩
  have HA : Hid (0 < n → a = some ⟨ga, oa, none⟩) := by rw [← hn]; exact fun h => (hA h).1
  have HN : Hid (L.length = n) := hn
  rw [hn] at hl hl24 HV ⊢
  clear hA hsm hn
  have HST : Hid (SpR w L (.slice (some ⟨w.heap.size, 0, none⟩) 0 0) (.int .i64 0) (w.alloc (.cells #[] 125))) := ⟨0, by omega, rfl, OP.made w⟩
  go_enter Tryd.func76, Tryd.ntmps76
  go_wp2
  go_loopw [3, 4] (fun u i wr => SpR w L u i wr) (fun _ i _ => n - (intOf i).toNat)
  case atStart => exact HST.out
  case round =>
    obtain ⟨m, hm, rfl, HI⟩ := hrel
    clear HST
    rw [HN.out] at hm
    have hL : (L.take m).length = m := by rw [List.length_take, HN.out]; omega
    obtain ⟨au, cu, hu⟩ := HI.out.shape
    rw [hL] at hu
    subst hu
    by_cases hlt : m < n
    · have ea := HA.out (by omega)
      subst ea
      obtain ⟨c0, c1⟩ := (HV.out.1.later HI.out.2.1).leaf m (by rw [HN.out]; exact hlt)
      have hxs := HV.out.2 (L[m]'(by rw [HN.out]; exact hlt)) (List.getElem_mem _)
      have hst : L.take (m + 1) = L.take m ++ [L[m]'(by rw [HN.out]; exact hlt)] := List.take_succ_eq_append_getElem _
      generalize L[m]'(by rw [HN.out]; exact hlt) = X at *
      have i1 : (m : Int) < (n : Int) := by omega
      have i2 : (0 : Int) ≤ (m : Int) := by omega
      have HIX : Hid (∀ W, Calls Tryd.prog 16 #[.string X.n] W fun e w' => e = .returned (.int .i64 (idxN X.n : Int)) ∧ Below W.heap.size W w') := fun W => sIndexOf_any X.n W hxs.1
      have HNX : Hid (∀ g cap W, OP w.heap.size w W (.slice (some ⟨g, 0, none⟩) ((L.take m).length + 1) cap) (L.take m ++ [X]) → SpR w L (.slice (some ⟨g, 0, none⟩) ((L.take m).length + 1) cap) (.int .i64 ((m : Int) + 1)) W) := by
        rw [← hst]
        exact fun g cap W hW => ⟨m + 1, by rw [HN.out]; omega, by congr 1, hW⟩
      have HSC : Hid (scs X = [.string X.n, .string X.v, .int .i64 (idxN X.n : Int)]) := rfl
      have hga : ga < wr.heap.size := lt_of_cell c0
      have hgw : ga < w.heap.size := by
        obtain ⟨_, _, _, _, h3, _⟩ := HV.out.1
        exact (h3 (by rw [HN.out]; omega)).2
      have HB : Hid (Below w.heap.size w wr) := HI.out.2.1
      have HCC : Hid (∀ W, Below w.heap.size wr W → W.cell? ⟨ga, oa + m * 2, none⟩ = some (.string X.n) ∧ W.cell? ⟨ga, oa + m * 2 + 1, none⟩ = some (.string X.v)) := fun W hW => ⟨(hW.cell (p := ⟨ga, oa + m * 2, none⟩) hgw).trans c0, (hW.cell (p := ⟨ga, oa + m * 2 + 1, none⟩) hgw).trans c1⟩
      have HCD : Hid (∀ W v l, OP w.heap.size w W v l → W.cell? ⟨ga, oa + m * 2, none⟩ = some (.string X.n) ∧ W.cell? ⟨ga, oa + m * 2 + 1, none⟩ = some (.string X.v)) := fun W v l hW => by
        have h1 := hW.2.1.block ga hgw
        have h2 := HB.out.block ga hgw
        exact ⟨(cell_kept (h1.trans h2.symm)).trans c0, (cell_kept (h1.trans h2.symm)).trans c1⟩
      generalize idxN X.n = N at *
      have HLM : Hid ((L.take m).length + 1 ≤ 1000000) := by show (L.take m).length + 1 ≤ 1000000; omega
      have hws : w.heap.size ≤ wr.heap.size := HI.out.2.2
      clear hst HV HA
      clear hL
      generalize L.take m = l at *
      go_wp2
      go_region_held3 (fun W => W.cell? ⟨ga, oa + m * 2, none⟩ = some (.string X.n) ∧ W.cell? ⟨ga, oa + m * 2 + 1, none⟩ = some (.string X.v)) (first | go_keep | exact ⟨(hb1.cell (p := ⟨ga, oa + m * 2, none⟩) hga).trans c0, (hb1.cell (p := ⟨ga, oa + m * 2 + 1, none⟩) hga).trans c1⟩ | exact HCD.out _ _ _ ho5) ((first | (go_at_call 16; refine (HIX.out _).mono ?_; rintro e w1 ⟨rfl, hb1⟩) | (refine step_spot rfl _ _ rfl w.heap.size w _ l X (by rfl) (((HI.out.drew.later hb1).alloc _)) w1.heap.size (by rfl) (by rw [HSC.out]; exact range_new _ [.string X.n, .string X.v, .int .i64 (N : Int)] _) HLM.out ?_; intro g5 cap5 w5 ho5 hg5)))
      have HN2 : Hid (SpR w L (.slice (some ⟨g5, 0, none⟩) (l.length + 1) cap5) (.int .i64 ((m : Int) + 1)) w5) := HNX.out _ _ _ ho5
      clear HNX ho5 hg5 HI HCC HCD HIX HB
      go_wp2
      go_roundw
      case rel => exact HN2.out
      case measure => simp [intOf]; omega
    · have hme : m = n := by omega
      have e : L.take m = L := List.take_of_length_le (by rw [HN.out]; omega)
      rw [e] at HI
      have HF : Hid (∃ u, Ending.returned (.slice au m cu) = .returned u ∧ OP w.heap.size w wr u L) := ⟨_, rfl, HI.out⟩
      subst hme
      clear HI HV HA hL e
      go_wp2
      go_ret
      exact HF.out

/-- a leaf's index -/
def idxL (f : Le) : Nat := idxN f.n
/-- what lies under a place, m of them seen -/
theorem und_step {L : List Le} {m : Nat} (k p : Nat) (hm : m < L.length) : TR.und idxL k p (L.take (m + 1)) = if idxL L[m] / 2 ^ k = p then TR.und idxL k p (L.take m) ++ [L[m]] else TR.und idxL k p (L.take m) := by
  unfold TR.und
  rw [LV.filt_step _ hm]
  by_cases h : idxL L[m] / 2 ^ k = p
  · rw [if_pos h, if_pos (by simpa using h)]
  · rw [if_neg h, if_neg (by simpa using h)]
theorem und_len (k p : Nat) (L : List Le) : (TR.und idxL k p L).length ≤ L.length := List.length_filter_le _ _
theorem und_small {k p : Nat} {L : List Le} (h : SmallL L) : SmallL (TR.und idxL k p L) := fun f hf => h f (List.mem_filter.1 hf).1
/-- a place's hash, as the specification goes down -/
noncomputable def ndB (x : Int) (k p : Nat) (L : List Le) : ByteArray := TR.nod idxL (hnB x) (hashB 1 [] x) (bhB x) k p L

def NpR (w : World) (L : List Le) (k p : Nat) (u i : Value) (wr : World) : Prop := ∃ m : Nat, m ≤ L.length ∧ i = .int .i64 m ∧ Hid (OP w.heap.size w wr u (TR.und idxL k p (L.take m)))

end Go.Proofs.YtmhoilliaeefcaaDoor
