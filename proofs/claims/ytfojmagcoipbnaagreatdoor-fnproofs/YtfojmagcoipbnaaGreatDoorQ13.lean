/-
  Texts laid together: La, Ly, Ll, Lz.
-/
import Derived.Test.YtfojmagcoipbnaaGreatDoorQ07
import Derived.Test.YtfojmagcoipbnaaGreatDoorQ12
import Derived.Deep.AppendLies
import Derived.Deep.RegionLaw
import Derived.Test.YtfojmagcoipbnaaGreatDoorQ08
import Derived.Deep.RegionHeld3
/-
  Rows of leaves that a call owns, grown leaf by leaf.
-/
namespace Go.Proofs.YtfojmagcoipbnaaGreatDoor
open Go.RowKit Go.BigFrame Go.Sort
set_option linter.unusedVariables false
set_option linter.unusedSimpArgs false

/-- v owns the leaves l -/
def OL (B : Nat) (w0 w : World) (v : Value) (l : List Le) : Prop := OR 121 2 lcs B w0 w v l
theorem OL.later {B : Nat} {w0 w w' : World} {v : Value} {l : List Le} (h : OL B w0 w v l) (hb : Below w.heap.size w w') : OL B w0 w' v l := OR.later h hb
theorem OL.grown {B : Nat} {w0 w w' : World} {v : Value} {l : List Le} {row : Option Nat} (h : OL B w0 w v l) (hg : w.grownBy w' row) (hne : ∀ q, row = some q → B ≤ q ∧ v.ownBlock ≠ some q) : OL B w0 w' v l := OR.grown h hg hne
theorem OL.rw {B : Nat} {w0 w : World} {v : Value} {l : List Le} (h : OL B w0 w v l) (hl : l.length ≤ 1100000) : ∃ g, RW 2 lcs w v g l ∧ B ≤ g ∧ (∀ q, v.ownBlock = some q → q = g) := OR.rw (k := 2) (enc := lcs) (fun x => lcs_len x) (by omega) h hl
theorem OL.shape {B : Nat} {w0 w : World} {v : Value} {l : List Le} (h : OL B w0 w v l) : ∃ a c, v = .slice a l.length c := by
  rcases h.1.2 with ⟨hv, hn⟩ | ⟨g, cap, cur, hv, _⟩
  · exact ⟨none, 0, by rw [hv, hn]⟩
  · exact ⟨_, _, hv⟩
theorem OL.made (B : Nat) (w0 w : World) (hb : Below B w0 w) (hB : B ≤ w.heap.size) : OL B w0 (w.alloc (.cells #[] 121)) (.slice (some ⟨w.heap.size, 0, none⟩) 0 0) [] :=
  ⟨World.ownsRow_made w #[] 0 hB (by decide) (by simp), hb.alloc hB _, by simp; omega⟩
/-- its block is none of another type -/
theorem OL.ne {B : Nat} {w0 w : World} {u : Value} {l : List Le} {p T : Nat} {cs : Array Value} {fz : Nat × Nat} (h : OL B w0 w u l) (hb : w.heap[p]? = some (.cells cs T fz)) (hT : T ≠ 121) : u.ownBlock ≠ some p := by
  rcases h.1.2 with ⟨hv, _⟩ | ⟨g, cap, cur, hv, _, hg, _⟩
  · rw [hv]; simp [Value.ownBlock]
  · rw [hv]
    intro e
    have : g = p := by simpa [Value.ownBlock] using e
    subst this
    rw [hg] at hb
    simp at hb
    exact hT hb.2.1.symm

section
variable {w : World} {ops : Array Oper} {o : Oper} {a : Act} {K : Act → World → Prop} {Q : Exit → Act → World → Prop}
/-- a leaf appended, as one step of a region that draws its order -/
theorem step_leaf {E : Prop} (hgd : o.guard = none) (s x : Operand)
    (ho : o.op = .call { callee := .builtin .append, args := #[s, x], argTypes := #[24, 24] })
    (B : Nat) (w0 : World) (u : Value) (l : List Le) (f : Le) (hs : a.eval s = u) (h : OL B w0 w u l) (p : Nat) (hx : a.eval x = .slice (some ⟨p, 0, none⟩) 1 1)
    (hnews : w.rangeAt p 0 (lcs f)) (hlen : l.length + 1 ≤ 1000000)
    (hk : ∀ g cap w', OL B w0 w' (.slice (some ⟨g, 0, none⟩) (l.length + 1) cap) (l ++ [f]) → w.grownBy w' u.ownBlock → K (a.put o.dst (.slice (some ⟨g, 0, none⟩) (l.length + 1) cap)) w') : if Region.wanted o (yielded ops a.tmps) = true then Oper.wp Tryz.prog o a w K Q else E := by
  obtain ⟨i0, hi, hz0, hz1, hz2⟩ := info_parts Tryz.infoLeaf
  refine step_append_lies w hgd s x 24 ho B 121 i0 _ 2 32 Tryz.underlying24 hi hz0 hz1 hz2 rfl (by decide) u l.length (l.flatMap lcs) hs h.1 ⟨p, 0, none⟩ 1 1 (lcs f) hx rfl ?_
    (fun u hu => by simp [lcs] at hu; rcases hu with rfl | rfl <;> rfl) (by omega) (by unfold maxLen; omega) (by omega) h.2.2 w.heap.size rfl ?_
  · intro j u hj
    have := hnews j u hj
    rw [Addr.add_mid]
    exact this
  · intro g cap w' h1 h2 h3 _
    exact hk _ _ _ ⟨by rw [List.flatMap_append, List.flatMap_singleton, List.length_append]; exact h1, h.2.1.grown h2 h.2.2 (fun k hk => (h.1.lt k hk).1), Nat.le_trans h.2.2 h2.size⟩ h2
/-- .. and in a plain region -/
theorem wp_leaf {rest : List Oper} (hgd : o.guard = none) (s x : Operand)
    (ho : o.op = .call { callee := .builtin .append, args := #[s, x], argTypes := #[24, 24] })
    (B : Nat) (w0 : World) (u : Value) (l : List Le) (f : Le) (hs : a.eval s = u) (h : OL B w0 w u l) (p : Nat) (hx : a.eval x = .slice (some ⟨p, 0, none⟩) 1 1)
    (hnews : w.rangeAt p 0 (lcs f)) (hlen : l.length + 1 ≤ 1000000)
    (hk : ∀ g cap w', OL B w0 w' (.slice (some ⟨g, 0, none⟩) (l.length + 1) cap) (l ++ [f]) → w.grownBy w' u.ownBlock → wpList Tryz.prog ops Q rest (a.put o.dst (.slice (some ⟨g, 0, none⟩) (l.length + 1) cap)) w') : wpList Tryz.prog ops Q (o :: rest) a w := by
  obtain ⟨i0, hi, hz0, hz1, hz2⟩ := info_parts Tryz.infoLeaf
  refine wpList_append_lies w hgd s x 24 ho B 121 i0 _ 2 32 Tryz.underlying24 hi hz0 hz1 hz2 rfl (by decide) u l.length (l.flatMap lcs) hs h.1 ⟨p, 0, none⟩ 1 1 (lcs f) hx rfl ?_
    (fun u hu => by simp [lcs] at hu; rcases hu with rfl | rfl <;> rfl) (by omega) (by unfold maxLen; omega) (by omega) h.2.2 w.heap.size rfl ?_
  · intro j u hj
    have := hnews j u hj
    rw [Addr.add_mid]
    exact this
  · intro g cap w' h1 h2 h3 _
    exact hk _ _ _ ⟨by rw [List.flatMap_append, List.flatMap_singleton, List.length_append]; exact h1, h.2.1.grown h2 h.2.2 (fun k hk => (h.1.lt k hk).1), Nat.le_trans h.2.2 h2.size⟩ h2
end

end Go.Proofs.YtfojmagcoipbnaaGreatDoor
/-
  Leaves read by the specification's reader.
-/
namespace Go.Proofs.YtfojmagcoipbnaaGreatDoor
open Go.RowKit Go.BigFrame Go.Sort
set_option linter.unusedVariables false
set_option linter.unusedSimpArgs false

theorem leafAt_first {s : ByteArray} {q : Nat} (h : LV.shortAt s q = none) : LV.leafAt s q = none := by unfold LV.leafAt; rw [h]
theorem leafAt_second {s a : ByteArray} {q r : Nat} (h : LV.shortAt s q = some (a, r)) (h2 : LV.shortAt s r = none) : LV.leafAt s q = none := by unfold LV.leafAt; rw [h]; simp only; rw [h2]
theorem leafAt_both {s a b : ByteArray} {q r t : Nat} (h : LV.shortAt s q = some (a, r)) (h2 : LV.shortAt s r = some (b, t)) : LV.leafAt s q = some (⟨a, b⟩, t) := by unfold LV.leafAt; rw [h]; simp only; rw [h2]

/-- what was read so far -/
def LyI (s : ByteArray) (q0 m q : Nat) (l : List Le) (b : Bool) : Prop := (∀ f ∈ l, f.n.size ≤ s.size ∧ f.v.size ≤ s.size) ∧ l.length = m ∧ q ≤ s.size ∧ (b = false → LV.leavesF s m q0 = some (l, q)) ∧ (b = true → LV.leavesF s m q0 = none)
theorem LyI.start {s : ByteArray} {q0 : Nat} (h : q0 ≤ s.size) : LyI s q0 0 q0 [] false := ⟨fun f hf => absurd hf (by simp), rfl, h, fun _ => rfl, fun h => (by cases h)⟩
theorem LyI.bad {s : ByteArray} {q0 m q r : Nat} {l : List Le} {f : Le} (h : LyI s q0 m q l false) (hf : LV.leafAt s q = none) (h1 : f.n.size ≤ s.size ∧ f.v.size ≤ s.size) (hr : r ≤ s.size) : LyI s q0 (m + 1) r (l ++ [f]) true := by
  refine ⟨fun g hg => ?_, by simp [h.2.1], hr, fun h => (by cases h), fun _ => leavesF_ends (h.2.2.2.1 rfl) hf⟩
  rcases List.mem_append.1 hg with hg | hg
  · exact h.1 g hg
  · simp at hg; subst hg; exact h1
theorem LyI.more {s : ByteArray} {q0 m q r : Nat} {l : List Le} {f : Le} (h : LyI s q0 m q l false) (hf : LV.leafAt s q = some (f, r)) : LyI s q0 (m + 1) r (l ++ [f]) false := by
  refine ⟨fun g hg => ?_, by simp [h.2.1], (LV.leafAt_some h.2.2.1 hf).2.1, fun _ => leavesF_more (h.2.2.2.1 rfl) hf, fun h => (by cases h)⟩
  rcases List.mem_append.1 hg with hg | hg
  · exact h.1 g hg
  · simp at hg; subst hg; exact LV.leafAt_size hf

theorem OL.lt {B : Nat} {w0 w : World} {u : Value} {l : List Le} (h : OL B w0 w u l) {q : Nat} (hq : u.ownBlock = some q) : q < w.heap.size := (h.1.lt q hq).2
theorem BL.grown {W W' : World} {p : Nat} {a b : ByteArray} {row : Option Nat} (h : BL W p a b) (hg : W.grownBy W' row) (hne : some p ≠ row) : BL W' p a b := (hg.block p (Array.getElem?_eq_some_iff.1 h).1 hne).trans h
/-- a leaf under way in its box, its Value written behind a call of the reader -/
theorem Ly_store {B c q q' : Nat} {s a : ByteArray} {b b' : Bool} {w0 w2 w3 : World} {u : Value} {l : List Le} (ho : OL B w0 w2 u l) (hc : Cu w2 c s q b) (hB : B ≤ c) (hg3 : (w2.alloc (.cells #[.string a, .string ⟨#[]⟩] 121)).grownBy w3 (some c)) (hc3 : Cu w3 c s q' b') (t : ByteArray) :
    BL w3 w2.heap.size a ⟨#[]⟩ ∧ BL (w3.setCell ⟨w2.heap.size, 1, none⟩ (.string t)) w2.heap.size a t ∧ OL B w0 (w3.setCell ⟨w2.heap.size, 1, none⟩ (.string t)) u l ∧ Cu (w3.setCell ⟨w2.heap.size, 1, none⟩ (.string t)) c s q' b' := by
  have hcl := hc.lt
  have h1 : BL w3 w2.heap.size a ⟨#[]⟩ := (BL.new w2 a ⟨#[]⟩).grown hg3 (by simp; omega)
  have hba : Below w2.heap.size w2 (w2.alloc (.cells #[.string a, .string ⟨#[]⟩] 121)) := (Below.refl _ _).alloc (Nat.le_refl _) _
  have ho1 := ho.later hba
  have ho3 : OL B w0 w3 u l := ho1.grown hg3 (fun k hk => by cases hk; exact ⟨hB, ho1.ne (hc.later hba) (by decide)⟩)
  have hg4 := grown_setC w3 w2.heap.size 1 (.string t)
  refine ⟨h1, h1.set1 t, ho3.grown hg4 (fun k hk => ?_), hc3.grown hg4 (by simp; omega)⟩
  cases hk
  exact ⟨ho.2.2, fun e => by have := ho.lt e; omega⟩

/-- what the reader answers -/
def LyP (s : ByteArray) (c B : Nat) (w0 : World) (e : Ending) (w' : World) : Prop := ∃ (u : Value) (l : List Le) (q : Nat) (b : Bool), e = .returned u ∧ OL B w0 w' u l ∧ Cu w' c s q b ∧ (l.length ≤ 30 ∧ q ≤ s.size) ∧ (∀ f ∈ l, f.n.size ≤ s.size ∧ f.v.size ≤ s.size) ∧
  (b = true → LV.rawL s 0 = none) ∧ (b = false → (LV.rawL s 0 = none ∧ 24 < l.length) ∨ LV.rawL s 0 = some (l, q))
def LyR (s : ByteArray) (c n q0 B : Nat) (w0 : World) (u i : Value) (wr : World) : Prop := ∃ (m q : Nat) (l : List Le) (b : Bool), m ≤ n ∧ m ≤ 30 ∧ i = .int .i64 m ∧ Hid (LyI s q0 m q l b ∧ OL B w0 wr u l ∧ Cu wr c s q b)

set_option maxRecDepth 100000 in
set_option maxHeartbeats 1000000 in
theorem l09Leaves_at (c : Nat) (s : ByteArray) (B : Nat) (w0 w : World) (h : Cu w c s 0 false) (hB : B ≤ c) (hb : Below B w0 w) (hs : s.size ≤ 1048576) :
    Calls Tryz.prog 103 #[.pointer (some ⟨c, 0, none⟩)] w (LyP s c B w0) := by
  have hcl := h.lt
  have HO : Hid (OL B w0 (w.alloc (.cells #[] 121)) (.slice (some ⟨w.heap.size, 0, none⟩) 0 0) []) := OL.made B w0 w hb (by omega)
  have HC : Hid (Cu (w.alloc (.cells #[] 121)) c s 0 false) := h.later ((Below.refl _ _).alloc (Nat.le_refl _) _)
  have h1 := l09Var_at c s 0 _ HC.out hs (by omega)
  clear h hb
  cases hr : M.readVar s.data.toList 0 with
  | none =>
    have hraw := LV.rawL_none hr
    simp only [hr] at h1
    go_enter Tryz.func103, Tryz.ntmps103
    go_wp2_with fail
    refine h1.mono ?_
    rintro e w1 ⟨⟨rfl, hc1⟩, hg1⟩
    have HF : Hid (OL B w0 w1 (.slice (some ⟨w.heap.size, 0, none⟩) 0 0) [] ∧ Cu w1 c s 0 true) := ⟨HO.out.grown hg1 (fun q hq => by cases hq; exact ⟨hB, HO.out.ne HC.out (by decide)⟩), hc1⟩
    have d2 := hc1.c2
    have hcl1 := hc1.lt
    clear h1 hc1 hg1 HO HC
    go_wp2
    go_loopw [3, 5] (fun u i wr => u = .slice (some ⟨w.heap.size, 0, none⟩) 0 0 ∧ i = .int .i64 0 ∧ wr = w1) (fun _ _ _ => 0)
    case atStart => exact ⟨rfl, rfl, rfl⟩
    case round =>
      obtain ⟨rfl, rfl, rfl⟩ := hrel
      go_wp2
      go_ret
      exact ⟨_, [], 0, true, rfl, HF.out.1, HF.out.2, ⟨by simp, Nat.zero_le _⟩, fun f hf => absurd hf (by simp), fun _ => hraw, fun h => by cases h⟩
  | some y =>
    obtain ⟨n, q0⟩ := y
    obtain ⟨hq0, hN⟩ := read_bound s 0 n q0 hr
    have HRG : Hid (24 < n → LV.rawL s 0 = none) := fun h => LV.rawL_great hr h
    have HRA : Hid (¬ 24 < n → LV.rawL s 0 = LV.leavesF s n q0) := fun h => LV.rawL_at hr h
    simp only [hr] at h1
    clear hr
    go_enter Tryz.func103, Tryz.ntmps103
    go_wp2_with fail
    refine h1.mono ?_
    rintro e w1 ⟨⟨rfl, hc1⟩, hg1⟩
    have HST : Hid (LyR s c n q0 B w0 (.slice (some ⟨w.heap.size, 0, none⟩) 0 0) (.int .i64 0) w1) := ⟨0, q0, [], false, by omega, by omega, rfl, LyI.start hq0, HO.out.grown hg1 (fun q hq => by cases hq; exact ⟨hB, HO.out.ne HC.out (by decide)⟩), hc1⟩
    clear h1 hc1 hg1 HO HC hcl
    go_wp2
    go_loopw [3, 5] (fun u i wr => LyR s c n q0 B w0 u i wr) (fun _ i _ => 31 - (intOf i).toNat)
    case atStart => exact HST.out
    case round =>
      obtain ⟨m, q, l, b, hm, hm30, rfl, HI⟩ := hrel
      clear HST
      have d2 := HI.out.2.2.c2
      have hcl := HI.out.2.2.lt
      obtain ⟨au, cu, rfl⟩ := HI.out.2.1.shape
      have hlm : l.length = m := HI.out.1.2.1
      rw [hlm]
      have HLM : Hid (l.length = m) := hlm
      rw [hlm] at HI
      clear hlm
      by_cases hstop : m < n ∧ m < 30 ∧ b = false
      · obtain ⟨hmn, hm3, rfl⟩ := hstop
        have i1 : (m : Int) < (n : Int) := by omega
        have i3 : (m : Int) < 30 := by omega
        have hq := HI.out.1.2.2.1
        have hown : OL B w0 wr (.slice au m cu) l := HI.out.2.1
        cases hf1 : LV.shortAt s q with
        | none =>
          have h2 := l09Short_no c s q false wr HI.out.2.2 hs hq (.inr hf1)
          have HN : Hid (LyI s q0 (m + 1) q (l ++ [⟨⟨#[]⟩, ⟨#[]⟩⟩]) true) := LyI.bad HI.out.1 (leafAt_first hf1) ⟨Nat.zero_le _, Nat.zero_le _⟩ hq
          clear HRG HRA hf1
          go_wp2_with fail
          refine h2.mono ?_
          rintro e w2 ⟨⟨rfl, hc2⟩, hg2⟩
          have ho2 := hown.grown hg2 (fun q hq => by cases hq; exact ⟨hB, hown.ne HI.out.2.2 (by decide)⟩)
          have h3 := l09Short_no c s q true _ (hc2.later ((Below.refl _ _).alloc (Nat.le_refl _) (.cells #[.string ⟨#[]⟩, .string ⟨#[]⟩] 121))) hs hq (.inl rfl)
          clear h2 hg2
          go_wp2_with fail
          refine h3.mono ?_
          rintro e w3 ⟨⟨rfl, hc3⟩, hg3⟩
          have hst := Ly_store (a := ⟨#[]⟩) ho2 hc2 hB hg3 hc3 ⟨#[]⟩
          have HS : Hid (BL (w3.setCell ⟨w2.heap.size, 1, none⟩ (.string ⟨#[]⟩)) w2.heap.size ⟨#[]⟩ ⟨#[]⟩ ∧ OL B w0 (w3.setCell ⟨w2.heap.size, 1, none⟩ (.string ⟨#[]⟩)) (.slice au m cu) l ∧ Cu (w3.setCell ⟨w2.heap.size, 1, none⟩ (.string ⟨#[]⟩)) c s q true) := hst.2
          have x1 := hst.1.c1
          have y1 := hst.1.f1
          have z0 := hst.2.1.c0
          have z1 := hst.2.1.c1
          have hba : Below (w3.setCell ⟨w2.heap.size, 1, none⟩ (.string ⟨#[]⟩)).heap.size (w3.setCell ⟨w2.heap.size, 1, none⟩ (.string ⟨#[]⟩)) ((w3.setCell ⟨w2.heap.size, 1, none⟩ (.string ⟨#[]⟩)).alloc (.cells #[.string ⟨#[]⟩, .string ⟨#[]⟩] 121)) := (Below.refl _ _).alloc (Nat.le_refl _) _
          have hoa := HS.out.2.1.later hba
          have HRN : Hid (((w3.setCell ⟨w2.heap.size, 1, none⟩ (.string ⟨#[]⟩)).alloc (.cells #[.string ⟨#[]⟩, .string ⟨#[]⟩] 121)).rangeAt w3.heap.size 0 (lcs ⟨⟨#[]⟩, ⟨#[]⟩⟩)) := range_at (by simp) (range_new _ [.string ⟨#[]⟩, .string ⟨#[]⟩] 121)
          have HCA : Hid (Cu ((w3.setCell ⟨w2.heap.size, 1, none⟩ (.string ⟨#[]⟩)).alloc (.cells #[.string ⟨#[]⟩, .string ⟨#[]⟩] 121)) c s q true) := HS.out.2.2.later hba
          clear hst hg3 hc3 HS hba h3
          go_wp2_with (at_builtin; refine wp_leaf rfl _ _ rfl B w0 (.slice au m cu) l ⟨⟨#[]⟩, ⟨#[]⟩⟩ rfl hoa _ rfl HRN.out (by have := HLM.out; omega) ?_)
          intro g5 cap5 w5 ho5 hg5
          have HJ : Hid (LyI s q0 (m + 1) q (l ++ [⟨⟨#[]⟩, ⟨#[]⟩⟩]) true ∧ OL B w0 w5 (.slice (some ⟨g5, 0, none⟩) (l.length + 1) cap5) (l ++ [⟨⟨#[]⟩, ⟨#[]⟩⟩]) ∧ Cu w5 c s q true) := ⟨HN.out, ho5, HCA.out.grown hg5 (Ne.symm (hoa.ne HCA.out (by decide)))⟩
          clear ho5 hg5 hoa HCA HRN HI hown ho2 hc2
          go_wp2
          go_roundw
          case rel => exact ⟨m + 1, q, _, true, by omega, by omega, by go_num, HJ⟩
          case measure => simp [intOf]; omega
        | some z =>
          obtain ⟨a, r⟩ := z
          have hr := (LV.shortAt_some hq hf1).2.1
          have hsa := LV.shortAt_size hf1
          have h2 := l09Short_yes c s q r a wr HI.out.2.2 hs hq hf1
          cases hf2 : LV.shortAt s r with
          | none =>
            have HN : Hid (LyI s q0 (m + 1) r (l ++ [⟨a, ⟨#[]⟩⟩]) true) := LyI.bad HI.out.1 (leafAt_second hf1 hf2) ⟨hsa, Nat.zero_le _⟩ hr
            clear HRG HRA hf1
            go_wp2_with fail
            refine h2.mono ?_
            rintro e w2 ⟨⟨rfl, hc2⟩, hg2⟩
            have ho2 := hown.grown hg2 (fun q hq => by cases hq; exact ⟨hB, hown.ne HI.out.2.2 (by decide)⟩)
            have h3 := l09Short_no c s r false _ (hc2.later ((Below.refl _ _).alloc (Nat.le_refl _) (.cells #[.string a, .string ⟨#[]⟩] 121))) hs hr (.inr hf2)
            clear h2 hg2
            go_wp2_with fail
            refine h3.mono ?_
            rintro e w3 ⟨⟨rfl, hc3⟩, hg3⟩
            have hst := Ly_store (a := a) ho2 hc2 hB hg3 hc3 ⟨#[]⟩
            have HS : Hid (BL (w3.setCell ⟨w2.heap.size, 1, none⟩ (.string ⟨#[]⟩)) w2.heap.size a ⟨#[]⟩ ∧ OL B w0 (w3.setCell ⟨w2.heap.size, 1, none⟩ (.string ⟨#[]⟩)) (.slice au m cu) l ∧ Cu (w3.setCell ⟨w2.heap.size, 1, none⟩ (.string ⟨#[]⟩)) c s r true) := hst.2
            have x1 := hst.1.c1
            have y1 := hst.1.f1
            have z0 := hst.2.1.c0
            have z1 := hst.2.1.c1
            have hba : Below (w3.setCell ⟨w2.heap.size, 1, none⟩ (.string ⟨#[]⟩)).heap.size (w3.setCell ⟨w2.heap.size, 1, none⟩ (.string ⟨#[]⟩)) ((w3.setCell ⟨w2.heap.size, 1, none⟩ (.string ⟨#[]⟩)).alloc (.cells #[.string a, .string ⟨#[]⟩] 121)) := (Below.refl _ _).alloc (Nat.le_refl _) _
            have hoa := HS.out.2.1.later hba
            have HRN : Hid (((w3.setCell ⟨w2.heap.size, 1, none⟩ (.string ⟨#[]⟩)).alloc (.cells #[.string a, .string ⟨#[]⟩] 121)).rangeAt w3.heap.size 0 (lcs ⟨a, ⟨#[]⟩⟩)) := range_at (by simp) (range_new _ [.string a, .string ⟨#[]⟩] 121)
            have HCA : Hid (Cu ((w3.setCell ⟨w2.heap.size, 1, none⟩ (.string ⟨#[]⟩)).alloc (.cells #[.string a, .string ⟨#[]⟩] 121)) c s r true) := HS.out.2.2.later hba
            clear hst hg3 hc3 HS hba h3
            go_wp2_with (at_builtin; refine wp_leaf rfl _ _ rfl B w0 (.slice au m cu) l ⟨a, ⟨#[]⟩⟩ rfl hoa _ rfl HRN.out (by have := HLM.out; omega) ?_)
            intro g5 cap5 w5 ho5 hg5
            have HJ : Hid (LyI s q0 (m + 1) r (l ++ [⟨a, ⟨#[]⟩⟩]) true ∧ OL B w0 w5 (.slice (some ⟨g5, 0, none⟩) (l.length + 1) cap5) (l ++ [⟨a, ⟨#[]⟩⟩]) ∧ Cu w5 c s r true) := ⟨HN.out, ho5, HCA.out.grown hg5 (Ne.symm (hoa.ne HCA.out (by decide)))⟩
            clear ho5 hg5 hoa HCA HRN HI hown ho2 hc2
            go_wp2
            go_roundw
            case rel => exact ⟨m + 1, r, _, true, by omega, by omega, by go_num, HJ⟩
            case measure => simp [intOf]; omega
          | some z =>
            obtain ⟨t, v⟩ := z
            have HN : Hid (LyI s q0 (m + 1) v (l ++ [⟨a, t⟩]) false) := LyI.more HI.out.1 (leafAt_both hf1 hf2)
            clear HRG HRA hf1
            go_wp2_with fail
            refine h2.mono ?_
            rintro e w2 ⟨⟨rfl, hc2⟩, hg2⟩
            have ho2 := hown.grown hg2 (fun q hq => by cases hq; exact ⟨hB, hown.ne HI.out.2.2 (by decide)⟩)
            have h3 := l09Short_yes c s r v t _ (hc2.later ((Below.refl _ _).alloc (Nat.le_refl _) (.cells #[.string a, .string ⟨#[]⟩] 121))) hs hr hf2
            clear h2 hg2
            go_wp2_with fail
            refine h3.mono ?_
            rintro e w3 ⟨⟨rfl, hc3⟩, hg3⟩
            have hst := Ly_store (a := a) ho2 hc2 hB hg3 hc3 t
            have HS : Hid (BL (w3.setCell ⟨w2.heap.size, 1, none⟩ (.string t)) w2.heap.size a t ∧ OL B w0 (w3.setCell ⟨w2.heap.size, 1, none⟩ (.string t)) (.slice au m cu) l ∧ Cu (w3.setCell ⟨w2.heap.size, 1, none⟩ (.string t)) c s v false) := hst.2
            have x1 := hst.1.c1
            have y1 := hst.1.f1
            have z0 := hst.2.1.c0
            have z1 := hst.2.1.c1
            have hba : Below (w3.setCell ⟨w2.heap.size, 1, none⟩ (.string t)).heap.size (w3.setCell ⟨w2.heap.size, 1, none⟩ (.string t)) ((w3.setCell ⟨w2.heap.size, 1, none⟩ (.string t)).alloc (.cells #[.string a, .string t] 121)) := (Below.refl _ _).alloc (Nat.le_refl _) _
            have hoa := HS.out.2.1.later hba
            have HRN : Hid (((w3.setCell ⟨w2.heap.size, 1, none⟩ (.string t)).alloc (.cells #[.string a, .string t] 121)).rangeAt w3.heap.size 0 (lcs ⟨a, t⟩)) := range_at (by simp) (range_new _ [.string a, .string t] 121)
            have HCA : Hid (Cu ((w3.setCell ⟨w2.heap.size, 1, none⟩ (.string t)).alloc (.cells #[.string a, .string t] 121)) c s v false) := HS.out.2.2.later hba
            clear hst hg3 hc3 HS hba h3
            go_wp2_with (at_builtin; refine wp_leaf rfl _ _ rfl B w0 (.slice au m cu) l ⟨a, t⟩ rfl hoa _ rfl HRN.out (by have := HLM.out; omega) ?_)
            intro g5 cap5 w5 ho5 hg5
            have HJ : Hid (LyI s q0 (m + 1) v (l ++ [⟨a, t⟩]) false ∧ OL B w0 w5 (.slice (some ⟨g5, 0, none⟩) (l.length + 1) cap5) (l ++ [⟨a, t⟩]) ∧ Cu w5 c s v false) := ⟨HN.out, ho5, HCA.out.grown hg5 (Ne.symm (hoa.ne HCA.out (by decide)))⟩
            clear ho5 hg5 hoa HCA HRN HI hown ho2 hc2
            go_wp2
            go_roundw
            case rel => exact ⟨m + 1, v, _, false, by omega, by omega, by go_num, HJ⟩
            case measure => simp [intOf]; omega
      · have HF : Hid (∃ (l : List Le) (q : Nat) (b : Bool), OL B w0 wr (.slice au m cu) l ∧ Cu wr c s q b ∧ (l.length ≤ 30 ∧ q ≤ s.size) ∧ (∀ f ∈ l, f.n.size ≤ s.size ∧ f.v.size ≤ s.size) ∧ (b = true → LV.rawL s 0 = none) ∧ (b = false → (LV.rawL s 0 = none ∧ 24 < l.length) ∨ LV.rawL s 0 = some (l, q))) := by
          obtain ⟨⟨j1, j2, j3, j4, j5⟩, ho, hc⟩ := HI.out
          refine ⟨l, q, b, ho, hc, ⟨by omega, j3⟩, j1, fun hb => ?_, fun hb => ?_⟩
          · by_cases h24 : 24 < n
            · exact HRG.out h24
            · rw [HRA.out h24]
              exact LV.leavesF_none (j5 hb) n hm
          · by_cases h24 : 24 < n
            · refine .inl ⟨HRG.out h24, ?_⟩
              have : ¬ (m < n ∧ m < 30) := fun h => hstop ⟨h.1, h.2, hb⟩
              omega
            · have hmn : m = n := by
                have : ¬ (m < n ∧ m < 30) := fun h => hstop ⟨h.1, h.2, hb⟩
                omega
              rw [HRA.out h24, ← hmn]
              exact .inr (j4 hb)
        clear HI HRG HRA
        by_cases hmn : m < n
        · have i1 : (m : Int) < (n : Int) := by omega
          by_cases hm3 : m < 30
          · have i3 : (m : Int) < 30 := by omega
            obtain rfl : b = true := by
              cases b
              · exact absurd ⟨hmn, hm3, rfl⟩ hstop
              · rfl
            go_wp2
            go_ret
            obtain ⟨l2, q2, b2, h2⟩ := HF.out
            exact ⟨_, l2, q2, b2, rfl, h2⟩
          · have i3 : ¬ (m : Int) < 30 := by omega
            go_wp2
            go_ret
            obtain ⟨l2, q2, b2, h2⟩ := HF.out
            exact ⟨_, l2, q2, b2, rfl, h2⟩
        · have i1 : ¬ (m : Int) < (n : Int) := by omega
          go_wp2
          go_ret
          obtain ⟨l2, q2, b2, h2⟩ := HF.out
          exact ⟨_, l2, q2, b2, rfl, h2⟩

end Go.Proofs.YtfojmagcoipbnaaGreatDoor
/-
  The walk of the law FnExactLeavesOk: it answers true of every row of leaves.
-/
namespace Go.Proofs.YtfojmagcoipbnaaGreatDoor
open Go.RowKit Go.BigFrame Go.Sort
set_option linter.unusedVariables false
set_option linter.unusedSimpArgs false

/-- a row answered: it may be written, and lies in blocks from B on -/
def LvIn (w : World) (B : Nat) (v : Value) (l : List Le) : Prop := ∃ a c g, v = .slice a l.length c ∧ RW 2 lcs w v g l ∧ B ≤ g

theorem toLeafS_in (v : Value) (ga oa : Nat) (l : List Le) (w : World) (hv : RS 2 lcs w v ga oa l) :
    Calls Tryz.prog 256 #[v] w fun e w' => ∃ g, e = .returned (.slice (some ⟨g, 0, none⟩) l.length l.length) ∧ RW 2 lcs w' (.slice (some ⟨g, 0, none⟩) l.length l.length) g l ∧ w.heap.size ≤ g ∧ Below w.heap.size w w' :=
  (toLeafS_any v ga oa l w hv).mono fun e w' ⟨g, he, hg, hrw, _, hb⟩ => ⟨g, he, hrw, hg, hb⟩

/-- what a law knows of its row, in every world above -/
def LvA (w : World) (v : Value) (g o : Nat) (l : List Le) : Prop := RS 2 lcs w v g o l ∧ SmallL l

end Go.Proofs.YtfojmagcoipbnaaGreatDoor
/-
  Leaves read of a whole text by the specification, and the walk of the law FnExactReadLeaves: it answers true of every text.
-/
namespace Go.Proofs.YtfojmagcoipbnaaGreatDoor
open Go.RowKit Go.BigFrame Go.Sort
set_option linter.unusedVariables false
set_option linter.unusedSimpArgs false

theorem raw_text {s : ByteArray} {l : List Le} {q : Nat} (h : LV.rawL s 0 = some (l, q)) : q ≤ s.size ∧ (LV.lvL l = s.data.toList ↔ q = s.size) := by
  cases hr : M.readVar s.data.toList 0 with
  | none => rw [LV.rawL_none hr] at h; cases h
  | some y =>
    obtain ⟨n, q0⟩ := y
    obtain ⟨hq0, hN⟩ := read_bound s 0 n q0 hr
    by_cases hn : 24 < n
    · rw [LV.rawL_great hr hn] at h; cases h
    · rw [LV.rawL_at hr hn] at h
      obtain ⟨h1, h2, h3, h4⟩ := LV.leavesF_some hq0 h
      have hc := LV.read_canon (Nat.zero_le _) hr
      have hp := LV.read_past _ _ _ _ hr
      have hL : s.data.toList.length = s.size := Array.length_toList
      have e : LV.lvL l = LV.cutL s.data.toList 0 q := by
        unfold LV.lvL
        rw [h3, ← hc, ← h4, LV.cutL_join _ 0 q0 q (by omega) h1]
      refine ⟨h2, ?_⟩
      rw [e]
      constructor
      · intro he
        have h5 := LV.cutL_len s.data.toList 0 q (by omega) (by omega)
        rw [he] at h5
        omega
      · intro he
        rw [he]
        unfold LV.cutL
        simp only [List.drop_zero, Nat.sub_zero]
        exact List.take_of_length_le (by omega)
theorem text_is {s : ByteArray} {l : List Le} (h : LV.leavesB l = true) : lvT l = s ↔ LV.lvL l = s.data.toList := by
  rw [lvT_yes h]
  constructor
  · intro e; rw [← e]
  · intro e
    exact ByteArray.ext (by rw [e])

end Go.Proofs.YtfojmagcoipbnaaGreatDoor
