/-
  Texts laid together: Stl, Hc, He, Sta.
-/
import Derived.Test.YtgkfelhjbeegaaaGreatDoorV12
import Derived.Test.YtgkfelhjbeegaaaGreatDoorV11
import Derived.Deep.RegionHeld3
import Derived.Test.YtgkfelhjbeegaaaGreatDoorV05
/-
  A signature taken over by a law; the walk of the law FnExactSigText.
-/
namespace Go.Proofs.YtgkfelhjbeegaaaGreatDoor
open Go.RowKit Go.BigFrame
set_option linter.unusedVariables false

/-- a signature, answered -/
theorem ret_sig1 {fn : Func} {Rp : Ending → World → Prop} {a : Act} {w : World} (c g : Nat) (x : Int) (v1 v2 v3 : Value) (hres : fn.results = #[.cell c 47]) (hd : a.defers = []) (hp : a.tmps.getD c undef = .pointer (some ⟨g, 0, none⟩))
    (hA : SgM w g x v1 v2 v3) (h : Rp (.returned (.agg #[.int .i64 x, v1, v2, v3])) w) : bodyPost Tryz.prog fn Rp .ret a w := by
  have hr := load_sig hA
  refine bodyPost_ret (v := .agg #[.int .i64 x, v1, v2, v3]) ?_ hd h
  have hp' : a.tmps[c]?.getD undef = .pointer (some ⟨g, 0, none⟩) := by simpa using hp
  simp [results, hres, asAddr, hr, hp']

/-- three cells of a block -/
def CX (w : World) (g : Nat) (v1 v2 v3 : Value) : Prop := w.cell? ⟨g, 1, none⟩ = some v1 ∧ w.cell? ⟨g, 2, none⟩ = some v2 ∧ w.cell? ⟨g, 3, none⟩ = some v3 ∧ g < w.heap.size
theorem CX.later {w w' : World} {g : Nat} {v1 v2 v3 : Value} (h : CX w g v1 v2 v3) (hb : Below w.heap.size w w') : CX w' g v1 v2 v3 :=
  ⟨(hb.cell (p := ⟨g, 1, none⟩) h.2.2.2).trans h.1, (hb.cell (p := ⟨g, 2, none⟩) h.2.2.2).trans h.2.1, (hb.cell (p := ⟨g, 3, none⟩) h.2.2.2).trans h.2.2.1, Nat.lt_of_lt_of_le h.2.2.2 hb.size⟩
theorem CX.keptG {w w' : World} {g : Nat} {row : Option Nat} {v1 v2 v3 : Value} (h : CX w g v1 v2 v3) (hg : w.grownBy w' row) (hne : some g ≠ row) : CX w' g v1 v2 v3 := by
  have e := hg.block g h.2.2.2 hne
  exact ⟨(World.cell?_of_block (w := w) e).trans h.1, (World.cell?_of_block (w := w) e).trans h.2.1, (World.cell?_of_block (w := w) e).trans h.2.2.1, Nat.lt_of_lt_of_le h.2.2.2 hg.size⟩

/-- what stands behind each list that was taken over -/
def TgH (w W : World) (vo vs vd : Value) (a : Int) (v1 v2 v3 : Value) : Prop := CX W w.heap.size vo vs vd ∧ SgM W (w.heap.size + 1) 0 (.slice none 0 0) (.slice none 0 0) (.slice none 0 0) ∧ SgM W (w.heap.size + 1 + 1) a v1 v2 v3 ∧ Below w.heap.size w W
theorem TgH.later {w W W' : World} {vo vs vd : Value} {a : Int} {v1 v2 v3 : Value} (h : TgH w W vo vs vd a v1 v2 v3) (hb : Below W.heap.size W W') : TgH w W' vo vs vd a v1 v2 v3 := ⟨h.1.later hb, h.2.1.later hb, h.2.2.1.later hb, h.2.2.2.trans (hb.mono h.2.2.2.size)⟩

set_option maxRecDepth 100000 in
set_option maxHeartbeats 1000000 in
theorem toSig_any (a : Int) (vo vs vd : Value) (g1 o1 g2 o2 g3 o3 : Nat) (o s d : List ByteArray) (w : World) (ho : SS w vo g1 o1 o) (hs : SS w vs g2 o2 s) (hd : SS w vd g3 o3 d) :
    Calls Tryz.prog 55 #[.agg #[.int .i64 a, vo, vs, vd]] w fun e w' => ∃ v, e = .returned v ∧ SigIn w' w.heap.size v a o s d ∧ Below w.heap.size w w' := by
  have H1 : Hid (∀ W, Below w.heap.size w W → Calls Tryz.prog 24 #[vo] W fun e w'' => ∃ g, e = .returned (.slice (some ⟨g, 0, none⟩) o.length o.length) ∧ W.heap.size ≤ g ∧ TB w'' g o ∧ Below W.heap.size W w'') := fun W hW => by
    have h := ho.below hW ho.lt
    exact toStringS_any vo g1 o1 o W h h.lt
  have H2 : Hid (∀ W, Below w.heap.size w W → Calls Tryz.prog 24 #[vs] W fun e w'' => ∃ g, e = .returned (.slice (some ⟨g, 0, none⟩) s.length s.length) ∧ W.heap.size ≤ g ∧ TB w'' g s ∧ Below W.heap.size W w'') := fun W hW => by
    have h := hs.below hW hs.lt
    exact toStringS_any vs g2 o2 s W h h.lt
  have H3 : Hid (∀ W, Below w.heap.size w W → Calls Tryz.prog 24 #[vd] W fun e w'' => ∃ g, e = .returned (.slice (some ⟨g, 0, none⟩) d.length d.length) ∧ W.heap.size ≤ g ∧ TB w'' g d ∧ Below W.heap.size W w'') := fun W hW => by
    have h := hd.below hW hd.lt
    exact toStringS_any vd g3 o3 d W h h.lt
  obtain ⟨ao, co, rfl, lo, x1⟩ := ho
  obtain ⟨as2, cs2, rfl, ls, x2⟩ := hs
  obtain ⟨ad, cd, rfl, ld, x3⟩ := hd
  clear x1 x2 x3
  have HA0 : Hid (TgH w (((w.alloc (.cells #[.int .i64 a, .slice ao o.length co, .slice as2 s.length cs2, .slice ad d.length cd] 31)).alloc (.cells zSig 47)).alloc (.cells #[.int .i64 a, .slice none 0 0, .slice none 0 0, .slice none 0 0] 47)) (.slice ao o.length co) (.slice as2 s.length cs2) (.slice ad d.length cd) a (.slice none 0 0) (.slice none 0 0) (.slice none 0 0)) := by
    have h0 : CX (w.alloc (.cells #[.int .i64 a, .slice ao o.length co, .slice as2 s.length cs2, .slice ad d.length cd] 31)) w.heap.size (.slice ao o.length co) (.slice as2 s.length cs2) (.slice ad d.length cd) := ⟨by simp, by simp, by simp, by simp⟩
    generalize hw1 : w.alloc (.cells #[.int .i64 a, .slice ao o.length co, .slice as2 s.length cs2, .slice ad d.length cd] 31) = W1 at *
    have z1 : W1.heap.size = w.heap.size + 1 := by rw [← hw1]; simp
    have b1 : Below w.heap.size w W1 := by rw [← hw1]; exact (Below.refl _ _).alloc (Nat.le_refl _) _
    have h1 := SgM.new W1 0 (.slice none 0 0) (.slice none 0 0) (.slice none 0 0)
    have bb1 : Below W1.heap.size W1 (W1.alloc (.cells zSig 47)) := (Below.refl _ _).alloc (Nat.le_refl _) _
    have z2 : (W1.alloc (.cells zSig 47)).heap.size = w.heap.size + 1 + 1 := by simp [z1]
    have h2 := SgM.new (W1.alloc (.cells zSig 47)) a (.slice none 0 0) (.slice none 0 0) (.slice none 0 0)
    have bb2 : Below (W1.alloc (.cells zSig 47)).heap.size (W1.alloc (.cells zSig 47)) ((W1.alloc (.cells zSig 47)).alloc (.cells #[.int .i64 a, .slice none 0 0, .slice none 0 0, .slice none 0 0] 47)) := (Below.refl _ _).alloc (Nat.le_refl _) _
    rw [z1] at h1
    rw [z2] at h2
    have h1 : SgM (W1.alloc (.cells zSig 47)) (w.heap.size + 1) 0 (.slice none 0 0) (.slice none 0 0) (.slice none 0 0) := h1
    exact ⟨(h0.later bb1).later bb2, h1.later bb2, h2, (b1.trans (bb1.mono b1.size)).trans (bb2.mono (by rw [z2]; omega))⟩
  go_enter Tryz.func55, Tryz.ntmps55
  go_wp2_with fail
  refine (H1.out _ HA0.out.2.2.2).mono ?_
  rintro e w1 ⟨k1, rfl, hk1, ht1, hb1⟩
  have hA1 := HA0.out.later hb1
  have c1 := hA1.2.2.1.c1
  have f1 := hA1.2.2.1.fr 1
  have hg1' : w.heap.size + 3 ≤ k1 := by simpa using hk1
  have hl1 := ht1.lt
  have hts1 := ht1.ts o.length o.length rfl lo
  have hgr1 := grown_set w1 (w.heap.size + 1 + 1) 1 (.slice (some ⟨k1, 0, none⟩) o.length o.length)
  have HA1 : Hid (TgH w (w1.setCell ⟨w.heap.size + 1 + 1, 1, none⟩ (.slice (some ⟨k1, 0, none⟩) o.length o.length)) (.slice ao o.length co) (.slice as2 s.length cs2) (.slice ad d.length cd) a (.slice (some ⟨k1, 0, none⟩) o.length o.length) (.slice none 0 0) (.slice none 0 0) ∧ TS (w1.setCell ⟨w.heap.size + 1 + 1, 1, none⟩ (.slice (some ⟨k1, 0, none⟩) o.length o.length)) (.slice (some ⟨k1, 0, none⟩) o.length o.length) k1 o) :=
    ⟨⟨hA1.1.keptG hgr1 (by simp; omega), hA1.2.1.keptG hgr1 (by simp), hA1.2.2.1.set1 _, hA1.2.2.2.setCell (p := ⟨w.heap.size + 1 + 1, 1, none⟩) (by simp; omega) _⟩, hts1.keptG hgr1 (fun _ => by simp; omega)⟩
  have e2 : (w1.setCell ⟨w.heap.size + 1 + 1, 1, none⟩ (.slice (some ⟨k1, 0, none⟩) o.length o.length)).cell? ⟨w.heap.size, 2, none⟩ = some (.slice as2 s.length cs2) := HA1.out.1.1.2.1
  have hsz1 : (w1.setCell ⟨w.heap.size + 1 + 1, 1, none⟩ (.slice (some ⟨k1, 0, none⟩) o.length o.length)).heap.size = w1.heap.size := by simp
  have hne0 : w.heap.size ≠ w.heap.size + 1 + 1 := by omega
  have d2 : w1.cell? ⟨w.heap.size, 2, none⟩ = some (.slice as2 s.length cs2) := hA1.1.2.1
  clear hA1 hts1 hk1 hgr1 ht1 hb1 HA0 H1
  go_wp2_with fail
  refine (H2.out _ HA1.out.1.2.2.2).mono ?_
  rintro e w2 ⟨k2, rfl, hk2, ht2, hb2⟩
  rw [hsz1] at hk2
  have hA2 := HA1.out.1.later hb2
  have ht12 := HA1.out.2.later hb2
  have c2 := hA2.2.2.1.c2
  have f2 := hA2.2.2.1.fr 2
  have hl2 := ht2.lt
  have hts2 := ht2.ts s.length s.length rfl ls
  have hgr2 := grown_set w2 (w.heap.size + 1 + 1) 2 (.slice (some ⟨k2, 0, none⟩) s.length s.length)
  have HA2 : Hid (TgH w (w2.setCell ⟨w.heap.size + 1 + 1, 2, none⟩ (.slice (some ⟨k2, 0, none⟩) s.length s.length)) (.slice ao o.length co) (.slice as2 s.length cs2) (.slice ad d.length cd) a (.slice (some ⟨k1, 0, none⟩) o.length o.length) (.slice (some ⟨k2, 0, none⟩) s.length s.length) (.slice none 0 0) ∧ TS (w2.setCell ⟨w.heap.size + 1 + 1, 2, none⟩ (.slice (some ⟨k2, 0, none⟩) s.length s.length)) (.slice (some ⟨k1, 0, none⟩) o.length o.length) k1 o ∧ TS (w2.setCell ⟨w.heap.size + 1 + 1, 2, none⟩ (.slice (some ⟨k2, 0, none⟩) s.length s.length)) (.slice (some ⟨k2, 0, none⟩) s.length s.length) k2 s) :=
    ⟨⟨hA2.1.keptG hgr2 (by simp; omega), hA2.2.1.keptG hgr2 (by simp), hA2.2.2.1.set2 _, hA2.2.2.2.setCell (p := ⟨w.heap.size + 1 + 1, 2, none⟩) (by simp; omega) _⟩, ht12.keptG hgr2 (fun _ => by simp; omega), hts2.keptG hgr2 (fun _ => by simp; omega)⟩
  have hsz2 : (w2.setCell ⟨w.heap.size + 1 + 1, 2, none⟩ (.slice (some ⟨k2, 0, none⟩) s.length s.length)).heap.size = w2.heap.size := by simp
  have d3 : w2.cell? ⟨w.heap.size, 3, none⟩ = some (.slice ad d.length cd) := hA2.1.2.2.1
  clear hA2 hts2 ht12 hgr2 ht2 hb2 HA1 H2 hsz1 c1 f1 e2 d2
  go_wp2_with fail
  refine (H3.out _ HA2.out.1.2.2.2).mono ?_
  rintro e w3 ⟨k3, rfl, hk3, ht3, hb3⟩
  rw [hsz2] at hk3
  have hA3 := HA2.out.1.later hb3
  have ht13 := HA2.out.2.1.later hb3
  have ht23 := HA2.out.2.2.later hb3
  have c3 := hA3.2.2.1.c3
  have f3 := hA3.2.2.1.fr 3
  have hts3 := ht3.ts d.length d.length rfl ld
  have hgr3 := grown_set w3 (w.heap.size + 1 + 1) 3 (.slice (some ⟨k3, 0, none⟩) d.length d.length)
  have HA3 : Hid (TgH w (w3.setCell ⟨w.heap.size + 1 + 1, 3, none⟩ (.slice (some ⟨k3, 0, none⟩) d.length d.length)) (.slice ao o.length co) (.slice as2 s.length cs2) (.slice ad d.length cd) a (.slice (some ⟨k1, 0, none⟩) o.length o.length) (.slice (some ⟨k2, 0, none⟩) s.length s.length) (.slice (some ⟨k3, 0, none⟩) d.length d.length) ∧ TS (w3.setCell ⟨w.heap.size + 1 + 1, 3, none⟩ (.slice (some ⟨k3, 0, none⟩) d.length d.length)) (.slice (some ⟨k1, 0, none⟩) o.length o.length) k1 o ∧ TS (w3.setCell ⟨w.heap.size + 1 + 1, 3, none⟩ (.slice (some ⟨k3, 0, none⟩) d.length d.length)) (.slice (some ⟨k2, 0, none⟩) s.length s.length) k2 s ∧ TS (w3.setCell ⟨w.heap.size + 1 + 1, 3, none⟩ (.slice (some ⟨k3, 0, none⟩) d.length d.length)) (.slice (some ⟨k3, 0, none⟩) d.length d.length) k3 d) :=
    ⟨⟨hA3.1.keptG hgr3 (by simp; omega), hA3.2.1.keptG hgr3 (by simp), hA3.2.2.1.set3 _, hA3.2.2.2.setCell (p := ⟨w.heap.size + 1 + 1, 3, none⟩) (by simp; omega) _⟩, ht13.keptG hgr3 (fun _ => by simp; omega), ht23.keptG hgr3 (fun _ => by simp; omega), hts3.keptG hgr3 (fun _ => by simp; omega)⟩
  clear hA3 hts3 ht13 ht23 hgr3 ht3 hb3 HA2 H3 hsz2 c2 f2 d3
  go_wp2_with (first | (refine wp_loadSig rfl _ rfl (w.heap.size + 1 + 1) _ _ _ _ rfl HA3.out.1.2.2.1 ?_) | (refine wp_storeSig rfl _ _ rfl (w.heap.size + 1) 0 _ _ _ _ _ _ _ HA3.out.1.2.1 rfl rfl rfl rfl rfl ?_; intro hfin))
  refine ret_sig1 2 (w.heap.size + 1) _ _ _ _ rfl rfl rfl hfin ?_
  obtain ⟨⟨_, _, _, b3⟩, hts1, hts2, hts3⟩ := HA3.out
  have hgr := grown_setRow (w3.setCell ⟨w.heap.size + 1 + 1, 3, none⟩ (.slice (some ⟨k3, 0, none⟩) d.length d.length)) (w.heap.size + 1) #[.int .i64 a, .slice (some ⟨k1, 0, none⟩) o.length o.length, .slice (some ⟨k2, 0, none⟩) s.length s.length, .slice (some ⟨k3, 0, none⟩) d.length d.length]
  refine ⟨_, rfl, ⟨_, _, _, k1, k2, k3, rfl, ⟨hts1.keptG hgr (fun _ => ?_), hts2.keptG hgr (fun _ => ?_), hts3.keptG hgr (fun _ => ?_)⟩, ⟨by omega, by omega, by omega⟩, ⟨by omega, by omega, by omega⟩⟩, b3.grown hgr b3.size (fun k hk => by simp at hk; omega)⟩
  · simp; omega
  · simp; omega
  · simp; omega

theorem IsRowS.later {w w' : World} {a : Option Addr} {n k : Nat} {z : List ByteArray} (h : IsRowS w a n k z) (hb : Below w.heap.size w w') : IsRowS w' a n k z := by
  rcases h with h | ⟨p, rfl, hl, hm, hlz, hc, hz⟩
  · exact .inl h
  · refine .inr ⟨p, rfl, hl, hm, hlz, fun i hi => ?_, hz⟩
    have h4 := hc i hi
    have hlt : (p.add i).block < w.heap.size := by
      rcases Nat.lt_or_ge (p.add i).block w.heap.size with h5 | h5
      · exact h5
      · simp [World.cell?, Array.getElem?_eq_none h5] at h4
    exact (hb.cell hlt).trans h4

/-- a signature that a law was handed stays in its box, and is taken over from there -/
def BX (W : World) (p : Nat) (i : Int) (v1 v2 v3 : Value) : Prop := W.heap[p]? = some (.cells #[.int .i64 i, v1, v2, v3] 31 (0, 0))
theorem BX.cells {W : World} {p : Nat} {i : Int} {v1 v2 v3 : Value} (h : BX W p i v1 v2 v3) : W.cell? ⟨p, 0, none⟩ = some (.int .i64 i) ∧ W.cell? ⟨p, 1, none⟩ = some v1 ∧ W.cell? ⟨p, 2, none⟩ = some v2 ∧ W.cell? ⟨p, 3, none⟩ = some v3 := by
  refine ⟨?_, ?_, ?_, ?_⟩
  · rw [cell_of_row W p 0 _ _ (0, 0) h]; rfl
  · rw [cell_of_row W p 1 _ _ (0, 0) h]; rfl
  · rw [cell_of_row W p 2 _ _ (0, 0) h]; rfl
  · rw [cell_of_row W p 3 _ _ (0, 0) h]; rfl
theorem BX.lt {W : World} {p : Nat} {i : Int} {v1 v2 v3 : Value} (h : BX W p i v1 v2 v3) : p < W.heap.size := (Array.getElem?_eq_some_iff.1 h).1
theorem BX.later {W W' : World} {p : Nat} {i : Int} {v1 v2 v3 : Value} (h : BX W p i v1 v2 v3) (hb : Below W.heap.size W W') : BX W' p i v1 v2 v3 := by
  have hlt := h.lt
  unfold BX at *
  rw [hb.block p hlt, h]
theorem BX.new (w : World) (i : Int) (v1 v2 v3 : Value) : BX (w.alloc (.cells #[.int .i64 i, v1, v2, v3] 31)) w.heap.size i v1 v2 v3 := Go.heap_alloc_new w _
theorem load_box {w : World} {g : Nat} {x : Int} {v1 v2 v3 : Value} (hA : BX w g x v1 v2 v3) : (loadVar 31 ⟨g, 0, none⟩).run Tryz.prog w = .ok (.agg #[.int .i64 x, v1, v2, v3]) w :=
  run_loadVar_row (P := Tryz.prog) w g 31 31 _ (0, 0) _ hA Tryz.underlying31 rfl (by kernel_rfl)
theorem wp_loadBox {w : World} {ops : Array Oper} {rest : List Oper} {o : Oper} {a : Act} {Q : Exit → Act → World → Prop} (hgd : o.guard = none) (p : Operand) (ho : o.op = .load 31 p) (g : Nat) (x : Int) (v1 v2 v3 : Value) (hp : a.eval p = .pointer (some ⟨g, 0, none⟩)) (hA : BX w g x v1 v2 v3)
    (h : wpList Tryz.prog ops Q rest (a.put o.dst (.agg #[.int .i64 x, v1, v2, v3])) w) : wpList Tryz.prog ops Q (o :: rest) a w := by
  refine wpList_plain hgd fun K hK => ?_
  have hr : (Instr.loadAt 31 (.pointer (some ⟨g, 0, none⟩))).run Tryz.prog w = .ok (.agg #[.int .i64 x, v1, v2, v3]) w := by
    simp only [Instr.loadAt, Instr.sureAddr, Sem.run_bind, Sem.run_pure, Result.andThen]
    exact load_box hA
  unfold Oper.wp
  simp [execOp, ho, hp, hr, Result.andThen]
  exact hK _ _ h

end Go.Proofs.YtgkfelhjbeegaaaGreatDoor
/-
  When a head is right: the program's and the specification's answers.
-/
namespace Go.Proofs.YtgkfelhjbeegaaaGreatDoor
open Go.RowKit Go.BigFrame Go.Sort
set_option linter.unusedVariables false
set_option linter.unusedSimpArgs false

theorem houseOk_any (x : Int) (w : World) : Calls Tryz.prog 122 #[.int .i64 x] w fun e w' => e = .returned (.bool (decide (0 ≤ x ∧ x < 3))) ∧ w' = w := by
  by_cases h1 : 0 ≤ x
  · by_cases h2 : x < 3
    · rw [decide_eq_true ⟨h1, h2⟩]
      go_enter Tryz.func122, Tryz.ntmps122
      go_wp2
      go_ret
      exact ⟨rfl, rfl⟩
    · rw [decide_eq_false (fun h => h2 h.2)]
      go_enter Tryz.func122, Tryz.ntmps122
      go_wp2
      go_ret
      exact ⟨rfl, rfl⟩
  · rw [decide_eq_false (fun h => h1 h.1)]
    go_enter Tryz.func122, Tryz.ntmps122
    go_wp2
    go_ret
    exact ⟨rfl, rfl⟩
theorem epochOk_any (x : Int) (w : World) : Calls Tryz.prog 123 #[.int .i64 x] w fun e w' => e = .returned (.bool (decide (1 ≤ x ∧ x ≤ 4))) ∧ w' = w := by
  by_cases h1 : 1 ≤ x
  · by_cases h2 : x ≤ 4
    · rw [decide_eq_true ⟨h1, h2⟩]
      go_enter Tryz.func123, Tryz.ntmps123
      go_wp2
      go_ret
      exact ⟨rfl, rfl⟩
    · rw [decide_eq_false (fun h => h2 h.2)]
      go_enter Tryz.func123, Tryz.ntmps123
      go_wp2
      go_ret
      exact ⟨rfl, rfl⟩
  · rw [decide_eq_false (fun h => h1 h.1)]
    go_enter Tryz.func123, Tryz.ntmps123
    go_wp2
    go_ret
    exact ⟨rfl, rfl⟩
theorem prevWide_any (x : Int) (w : World) : Calls Tryz.prog 124 #[.int .i64 x] w fun e w' => e = .returned (.int .i64 ((HV.pw x : Nat) : Int)) ∧ w' = w := by
  unfold HV.pw
  by_cases h1 : x = 1
  · rw [if_pos h1]
    have q : (x == 1) = true := by simp [h1]
    clear h1
    go_enter Tryz.func124, Tryz.ntmps124
    go_wp2
    go_ret
    exact ⟨rfl, rfl⟩
  · rw [if_neg h1]
    have q : (x == 1) = false := by simp [h1]
    clear h1
    go_enter Tryz.func124, Tryz.ntmps124
    go_wp2
    go_ret
    exact ⟨rfl, rfl⟩

set_option maxRecDepth 100000 in
set_option maxHeartbeats 1000000 in
theorem HeadOk_any (x : Hd) (w : World) : Calls Tryz.prog 104 #[.agg #[.int .i64 x.h, .int .i64 x.e, .string x.r, .string x.p]] w fun e w' => e = .returned (.bool (HV.okH x)) ∧ Below w.heap.size w w' := by
  obtain ⟨h, e, r, p⟩ := x
  have HB : Hid (Below w.heap.size w (w.alloc (.cells #[.int .i64 h, .int .i64 e, .string r, .string p] 46))) := (Below.refl _ _).alloc (Nat.le_refl _) _
  obtain ⟨b1, hb1⟩ : ∃ b, decide (0 ≤ h ∧ h < 3) = b := ⟨_, rfl⟩
  obtain ⟨b2, hb2⟩ : ∃ b, decide (1 ≤ e ∧ e ≤ 4) = b := ⟨_, rfl⟩
  obtain ⟨n, hn⟩ : ∃ n, HV.pw e = n := ⟨_, rfl⟩
  have H1 : Hid (∀ W, Calls Tryz.prog 122 #[.int .i64 h] W fun e w' => e = .returned (.bool b1) ∧ Below W.heap.size W w') := fun W => (houseOk_any h W).mono fun e w' ⟨he, hw⟩ => ⟨hb1 ▸ he, hw ▸ Below.refl _ _⟩
  have H2 : Hid (∀ W, Calls Tryz.prog 123 #[.int .i64 e] W fun e w' => e = .returned (.bool b2) ∧ Below W.heap.size W w') := fun W => (epochOk_any e W).mono fun e w' ⟨he, hw⟩ => ⟨hb2 ▸ he, hw ▸ Below.refl _ _⟩
  have H3 : Hid (∀ W, Calls Tryz.prog 124 #[.int .i64 e] W fun e w' => e = .returned (.int .i64 (n : Int)) ∧ Below W.heap.size W w') := fun W => (prevWide_any e W).mono fun e w' ⟨he, hw⟩ => ⟨hn ▸ he, hw ▸ Below.refl _ _⟩
  have HF : Hid (HV.okH ⟨h, e, r, p⟩ = (b1 && b2 && decide ((r.size : Int) = 16) && decide ((p.size : Int) = (n : Int)))) := by
    rw [← hb1, ← hb2, ← hn, HV.okH]
    simp only [← Bool.decide_and]
    congr 1
    exact propext ⟨fun ⟨a, b, c, d⟩ => ⟨⟨⟨a, b⟩, by omega⟩, by omega⟩, fun ⟨⟨⟨a, b⟩, c⟩, d⟩ => ⟨a, b, by omega, by omega⟩⟩
  rw [HF.out]
  clear HF hb1 hb2 hn
  obtain ⟨b3, hb3⟩ : ∃ b, decide ((r.size : Int) = 16) = b := ⟨_, rfl⟩
  obtain ⟨b4, hb4⟩ : ∃ b, decide ((p.size : Int) = (n : Int)) = b := ⟨_, rfl⟩
  have z0 : (w.alloc (.cells #[.int .i64 h, .int .i64 e, .string r, .string p] 46)).cell? ⟨w.heap.size, 0, none⟩ = some (.int .i64 h) := by simp
  have z1 : (w.alloc (.cells #[.int .i64 h, .int .i64 e, .string r, .string p] 46)).cell? ⟨w.heap.size, 1, none⟩ = some (.int .i64 e) := by simp
  have z2 : (w.alloc (.cells #[.int .i64 h, .int .i64 e, .string r, .string p] 46)).cell? ⟨w.heap.size, 2, none⟩ = some (.string r) := by simp
  have z3 : (w.alloc (.cells #[.int .i64 h, .int .i64 e, .string r, .string p] 46)).cell? ⟨w.heap.size, 3, none⟩ = some (.string p) := by simp
  have q3 : ((r.size : Int) == 16) = b3 := by rw [← hb3]; rfl
  have q4 : ((p.size : Int) == (n : Int)) = b4 := by rw [← hb4]; rfl
  rw [hb3, hb4]
  clear hb3 hb4
  have HW : Hid (∀ X, Below (w.alloc (.cells #[.int .i64 h, .int .i64 e, .string r, .string p] 46)).heap.size (w.alloc (.cells #[.int .i64 h, .int .i64 e, .string r, .string p] 46)) X → Below w.heap.size w X) := fun X hX => HB.out.trans (hX.mono HB.out.size)
  cases b1
  · go_enter Tryz.func104, Tryz.ntmps104
    go_wp2
    have kq0 := cell_regrown (w := (w.alloc (.cells #[.int .i64 h, .int .i64 e, .string r, .string p] 46))) z0
    have kq1 := cell_regrown (w := (w.alloc (.cells #[.int .i64 h, .int .i64 e, .string r, .string p] 46))) z1
    have kq2 := cell_regrown (w := (w.alloc (.cells #[.int .i64 h, .int .i64 e, .string r, .string p] 46))) z2
    have kq3 := cell_regrown (w := (w.alloc (.cells #[.int .i64 h, .int .i64 e, .string r, .string p] 46))) z3
    have cq0 := fun d os => Calls.regrown_of (w := (w.alloc (.cells #[.int .i64 h, .int .i64 e, .string r, .string p] 46))) (d := d) (os := os) (H1.out _)
    have cq1 := fun d os => Calls.regrown_of (w := (w.alloc (.cells #[.int .i64 h, .int .i64 e, .string r, .string p] 46))) (d := d) (os := os) (H2.out _)
    have cq2 := fun d os => Calls.regrown_of (w := (w.alloc (.cells #[.int .i64 h, .int .i64 e, .string r, .string p] 46))) (d := d) (os := os) (H3.out _)
    refine wp_region_quiet_below (by kernel_rfl) (by kernel_rfl) ?_
    repeat (go_big_quiet_step (first | (with_reducible exact cq0 _ _) | (with_reducible exact cq1 _ _) | (with_reducible exact cq2 _ _)))
    refine wpQuiet_nil ?_
    rintro _ ⟨⟨dq, osq⟩, rfl⟩
    have hb6 := HW.out _ (below_regrown (w.alloc (.cells #[.int .i64 h, .int .i64 e, .string r, .string p] 46)) dq osq)
    generalize grow (redrawn (w.alloc (.cells #[.int .i64 h, .int .i64 e, .string r, .string p] 46)) dq) osq = w6 at *
    clear kq0 kq1 kq2 kq3 cq0 cq1 cq2
    go_wp2
    go_ret
    exact ⟨rfl, hb6⟩
  · cases b2
    · go_enter Tryz.func104, Tryz.ntmps104
      go_wp2
      have kq0 := cell_regrown (w := (w.alloc (.cells #[.int .i64 h, .int .i64 e, .string r, .string p] 46))) z0
      have kq1 := cell_regrown (w := (w.alloc (.cells #[.int .i64 h, .int .i64 e, .string r, .string p] 46))) z1
      have kq2 := cell_regrown (w := (w.alloc (.cells #[.int .i64 h, .int .i64 e, .string r, .string p] 46))) z2
      have kq3 := cell_regrown (w := (w.alloc (.cells #[.int .i64 h, .int .i64 e, .string r, .string p] 46))) z3
      have cq0 := fun d os => Calls.regrown_of (w := (w.alloc (.cells #[.int .i64 h, .int .i64 e, .string r, .string p] 46))) (d := d) (os := os) (H1.out _)
      have cq1 := fun d os => Calls.regrown_of (w := (w.alloc (.cells #[.int .i64 h, .int .i64 e, .string r, .string p] 46))) (d := d) (os := os) (H2.out _)
      have cq2 := fun d os => Calls.regrown_of (w := (w.alloc (.cells #[.int .i64 h, .int .i64 e, .string r, .string p] 46))) (d := d) (os := os) (H3.out _)
      refine wp_region_quiet_below (by kernel_rfl) (by kernel_rfl) ?_
      repeat (go_big_quiet_step (first | (with_reducible exact cq0 _ _) | (with_reducible exact cq1 _ _) | (with_reducible exact cq2 _ _)))
      refine wpQuiet_nil ?_
      rintro _ ⟨⟨dq, osq⟩, rfl⟩
      have hb6 := HW.out _ (below_regrown (w.alloc (.cells #[.int .i64 h, .int .i64 e, .string r, .string p] 46)) dq osq)
      generalize grow (redrawn (w.alloc (.cells #[.int .i64 h, .int .i64 e, .string r, .string p] 46)) dq) osq = w6 at *
      clear kq0 kq1 kq2 kq3 cq0 cq1 cq2
      go_wp2
      go_ret
      exact ⟨rfl, hb6⟩
    · cases b3
      · go_enter Tryz.func104, Tryz.ntmps104
        go_wp2
        have kq0 := cell_regrown (w := (w.alloc (.cells #[.int .i64 h, .int .i64 e, .string r, .string p] 46))) z0
        have kq1 := cell_regrown (w := (w.alloc (.cells #[.int .i64 h, .int .i64 e, .string r, .string p] 46))) z1
        have kq2 := cell_regrown (w := (w.alloc (.cells #[.int .i64 h, .int .i64 e, .string r, .string p] 46))) z2
        have kq3 := cell_regrown (w := (w.alloc (.cells #[.int .i64 h, .int .i64 e, .string r, .string p] 46))) z3
        have cq0 := fun d os => Calls.regrown_of (w := (w.alloc (.cells #[.int .i64 h, .int .i64 e, .string r, .string p] 46))) (d := d) (os := os) (H1.out _)
        have cq1 := fun d os => Calls.regrown_of (w := (w.alloc (.cells #[.int .i64 h, .int .i64 e, .string r, .string p] 46))) (d := d) (os := os) (H2.out _)
        have cq2 := fun d os => Calls.regrown_of (w := (w.alloc (.cells #[.int .i64 h, .int .i64 e, .string r, .string p] 46))) (d := d) (os := os) (H3.out _)
        refine wp_region_quiet_below (by kernel_rfl) (by kernel_rfl) ?_
        repeat (go_big_quiet_step (first | (with_reducible exact cq0 _ _) | (with_reducible exact cq1 _ _) | (with_reducible exact cq2 _ _)))
        refine wpQuiet_nil ?_
        rintro _ ⟨⟨dq, osq⟩, rfl⟩
        have hb6 := HW.out _ (below_regrown (w.alloc (.cells #[.int .i64 h, .int .i64 e, .string r, .string p] 46)) dq osq)
        generalize grow (redrawn (w.alloc (.cells #[.int .i64 h, .int .i64 e, .string r, .string p] 46)) dq) osq = w6 at *
        clear kq0 kq1 kq2 kq3 cq0 cq1 cq2
        go_wp2
        go_ret
        exact ⟨rfl, hb6⟩
      · cases b4
        · go_enter Tryz.func104, Tryz.ntmps104
          go_wp2
          have kq0 := cell_regrown (w := (w.alloc (.cells #[.int .i64 h, .int .i64 e, .string r, .string p] 46))) z0
          have kq1 := cell_regrown (w := (w.alloc (.cells #[.int .i64 h, .int .i64 e, .string r, .string p] 46))) z1
          have kq2 := cell_regrown (w := (w.alloc (.cells #[.int .i64 h, .int .i64 e, .string r, .string p] 46))) z2
          have kq3 := cell_regrown (w := (w.alloc (.cells #[.int .i64 h, .int .i64 e, .string r, .string p] 46))) z3
          have cq0 := fun d os => Calls.regrown_of (w := (w.alloc (.cells #[.int .i64 h, .int .i64 e, .string r, .string p] 46))) (d := d) (os := os) (H1.out _)
          have cq1 := fun d os => Calls.regrown_of (w := (w.alloc (.cells #[.int .i64 h, .int .i64 e, .string r, .string p] 46))) (d := d) (os := os) (H2.out _)
          have cq2 := fun d os => Calls.regrown_of (w := (w.alloc (.cells #[.int .i64 h, .int .i64 e, .string r, .string p] 46))) (d := d) (os := os) (H3.out _)
          refine wp_region_quiet_below (by kernel_rfl) (by kernel_rfl) ?_
          repeat (go_big_quiet_step (first | (with_reducible exact cq0 _ _) | (with_reducible exact cq1 _ _) | (with_reducible exact cq2 _ _)))
          refine wpQuiet_nil ?_
          rintro _ ⟨⟨dq, osq⟩, rfl⟩
          have hb6 := HW.out _ (below_regrown (w.alloc (.cells #[.int .i64 h, .int .i64 e, .string r, .string p] 46)) dq osq)
          generalize grow (redrawn (w.alloc (.cells #[.int .i64 h, .int .i64 e, .string r, .string p] 46)) dq) osq = w6 at *
          clear kq0 kq1 kq2 kq3 cq0 cq1 cq2
          go_wp2
          go_ret
          exact ⟨rfl, hb6⟩
        · go_enter Tryz.func104, Tryz.ntmps104
          go_wp2
          have kq0 := cell_regrown (w := (w.alloc (.cells #[.int .i64 h, .int .i64 e, .string r, .string p] 46))) z0
          have kq1 := cell_regrown (w := (w.alloc (.cells #[.int .i64 h, .int .i64 e, .string r, .string p] 46))) z1
          have kq2 := cell_regrown (w := (w.alloc (.cells #[.int .i64 h, .int .i64 e, .string r, .string p] 46))) z2
          have kq3 := cell_regrown (w := (w.alloc (.cells #[.int .i64 h, .int .i64 e, .string r, .string p] 46))) z3
          have cq0 := fun d os => Calls.regrown_of (w := (w.alloc (.cells #[.int .i64 h, .int .i64 e, .string r, .string p] 46))) (d := d) (os := os) (H1.out _)
          have cq1 := fun d os => Calls.regrown_of (w := (w.alloc (.cells #[.int .i64 h, .int .i64 e, .string r, .string p] 46))) (d := d) (os := os) (H2.out _)
          have cq2 := fun d os => Calls.regrown_of (w := (w.alloc (.cells #[.int .i64 h, .int .i64 e, .string r, .string p] 46))) (d := d) (os := os) (H3.out _)
          refine wp_region_quiet_below (by kernel_rfl) (by kernel_rfl) ?_
          repeat (go_big_quiet_step (first | (with_reducible exact cq0 _ _) | (with_reducible exact cq1 _ _) | (with_reducible exact cq2 _ _)))
          refine wpQuiet_nil ?_
          rintro _ ⟨⟨dq, osq⟩, rfl⟩
          have hb6 := HW.out _ (below_regrown (w.alloc (.cells #[.int .i64 h, .int .i64 e, .string r, .string p] 46)) dq osq)
          generalize grow (redrawn (w.alloc (.cells #[.int .i64 h, .int .i64 e, .string r, .string p] 46)) dq) osq = w6 at *
          clear kq0 kq1 kq2 kq3 cq0 cq1 cq2
          go_wp2
          go_ret
          exact ⟨rfl, hb6⟩

set_option maxRecDepth 100000 in
set_option maxHeartbeats 1000000 in
theorem sHeadOk_any (x : Hd) (w : World) : Calls Tryz.prog 41 #[.agg #[.int .i64 x.h, .int .i64 x.e, .string x.r, .string x.p]] w fun e w' => e = .returned (.bool (HV.okH x)) ∧ Below w.heap.size w w' := by
  obtain ⟨h, e, r, p⟩ := x
  have HB : Hid (Below w.heap.size w (w.alloc (.cells #[.int .i64 h, .int .i64 e, .string r, .string p] 46))) := (Below.refl _ _).alloc (Nat.le_refl _) _
  obtain ⟨b1, hb1⟩ : ∃ b, decide (0 ≤ h ∧ h ≤ 2) = b := ⟨_, rfl⟩
  obtain ⟨b2, hb2⟩ : ∃ b, decide (1 ≤ e ∧ e ≤ 4) = b := ⟨_, rfl⟩
  obtain ⟨b3, hb3⟩ : ∃ b, decide ((r.size : Int) = 16) = b := ⟨_, rfl⟩
  have H1 : Hid (∀ W, Calls Tryz.prog 21 #[.int .i64 h, .int .i64 0, .int .i64 2] W fun e w' => e = .returned (.bool b1) ∧ w' = W) := fun W => hb1 ▸ l01In_any h 0 2 W
  have H2 : Hid (∀ W, Calls Tryz.prog 21 #[.int .i64 e, .int .i64 1, .int .i64 4] W fun e w' => e = .returned (.bool b2) ∧ w' = W) := fun W => hb2 ▸ l01In_any e 1 4 W
  have HF : Hid (HV.okH ⟨h, e, r, p⟩ = (b1 && b2 && b3 && decide (p.size = HV.pw e))) := by
    rw [← hb1, ← hb2, ← hb3, HV.okH]
    simp only [← Bool.decide_and]
    congr 1
    exact propext ⟨fun ⟨a, b, c, d⟩ => ⟨⟨⟨by omega, b⟩, by omega⟩, by omega⟩, fun ⟨⟨⟨a, b⟩, c⟩, d⟩ => ⟨by omega, b, by omega, by omega⟩⟩
  rw [HF.out]
  clear HF hb1 hb2
  have z0 : (w.alloc (.cells #[.int .i64 h, .int .i64 e, .string r, .string p] 46)).cell? ⟨w.heap.size, 0, none⟩ = some (.int .i64 h) := by simp
  have z1 : (w.alloc (.cells #[.int .i64 h, .int .i64 e, .string r, .string p] 46)).cell? ⟨w.heap.size, 1, none⟩ = some (.int .i64 e) := by simp
  have z2 : (w.alloc (.cells #[.int .i64 h, .int .i64 e, .string r, .string p] 46)).cell? ⟨w.heap.size, 2, none⟩ = some (.string r) := by simp
  have z3 : (w.alloc (.cells #[.int .i64 h, .int .i64 e, .string r, .string p] 46)).cell? ⟨w.heap.size, 3, none⟩ = some (.string p) := by simp
  have q3 : ((r.size : Int) != 16) = !b3 := by rw [← hb3]; rfl
  clear hb3
  have HW : Hid (∀ X, Below (w.alloc (.cells #[.int .i64 h, .int .i64 e, .string r, .string p] 46)).heap.size (w.alloc (.cells #[.int .i64 h, .int .i64 e, .string r, .string p] 46)) X → Below w.heap.size w X) := fun X hX => HB.out.trans (hX.mono HB.out.size)
  clear HW z0 z1 z2 z3
  cases b1
  · go_enter Tryz.func41, Tryz.ntmps41
    go_wp2_with fail
    refine (H1.out _).mono ?_
    rintro e1 w1 ⟨rfl, rfl⟩
    go_wp2
    go_ret
    exact ⟨by simp, HB.out⟩
  · cases b2
    · go_enter Tryz.func41, Tryz.ntmps41
      go_wp2_with fail
      refine (H1.out _).mono ?_
      rintro e1 w1 ⟨rfl, rfl⟩
      go_wp2_with fail
      refine (H2.out _).mono ?_
      rintro e1 w1 ⟨rfl, rfl⟩
      go_wp2
      go_ret
      exact ⟨by simp, HB.out⟩
    · cases b3
      · go_enter Tryz.func41, Tryz.ntmps41
        go_wp2_with fail
        refine (H1.out _).mono ?_
        rintro e1 w1 ⟨rfl, rfl⟩
        go_wp2_with fail
        refine (H2.out _).mono ?_
        rintro e1 w1 ⟨rfl, rfl⟩
        go_wp2
        go_ret
        exact ⟨by simp, HB.out⟩
      · by_cases he : e = 1
        · subst he
          cases hp : p.toList.isEmpty
          · have e1 : decide (p.size = HV.pw 1) = false := by
              refine decide_eq_false fun h => ?_
              have : p.data.toList.length = 0 := by rw [Array.length_toList]; exact h
              rw [ByteArray.toList_eq, List.length_eq_zero_iff.1 this] at hp
              cases hp
            rw [e1]
            clear e1
            go_enter Tryz.func41, Tryz.ntmps41
            go_wp2_with fail
            refine (H1.out _).mono ?_
            rintro e1 w1 ⟨rfl, rfl⟩
            go_wp2_with fail
            refine (H2.out _).mono ?_
            rintro e1 w1 ⟨rfl, rfl⟩
            go_wp2
            go_ret
            exact ⟨rfl, HB.out⟩
          · have e1 : decide (p.size = HV.pw 1) = true := by
              refine decide_eq_true ?_
              rw [ByteArray.toList_eq, List.isEmpty_iff] at hp
              show p.data.size = 0
              rw [← Array.length_toList, hp]
              rfl
            rw [e1]
            clear e1
            go_enter Tryz.func41, Tryz.ntmps41
            go_wp2_with fail
            refine (H1.out _).mono ?_
            rintro e1 w1 ⟨rfl, rfl⟩
            go_wp2_with fail
            refine (H2.out _).mono ?_
            rintro e1 w1 ⟨rfl, rfl⟩
            go_wp2
            go_ret
            exact ⟨rfl, HB.out⟩
        · have q : (e == 1) = false := by simp [he]
          have q5 : ((p.size : Int) == 16) = decide (p.size = HV.pw e) := by
            unfold HV.pw
            rw [if_neg he]
            show decide ((p.size : Int) = 16) = _
            congr 1
            exact propext (by omega)
          generalize decide (p.size = HV.pw e) = b5 at *
          clear he
          go_enter Tryz.func41, Tryz.ntmps41
          go_wp2_with fail
          refine (H1.out _).mono ?_
          rintro e1 w1 ⟨rfl, rfl⟩
          go_wp2_with fail
          refine (H2.out _).mono ?_
          rintro e1 w1 ⟨rfl, rfl⟩
          go_wp2
          go_ret
          exact ⟨by simp, HB.out⟩

end Go.Proofs.YtgkfelhjbeegaaaGreatDoor
/-
  The text of a head: the program's and the specification's answers.
-/
namespace Go.Proofs.YtgkfelhjbeegaaaGreatDoor
open Go.RowKit Go.BigFrame Go.Sort
set_option linter.unusedVariables false
set_option linter.unusedSimpArgs false

theorem two_str (w : World) (b c : UInt8) : (convert 131 9 (.slice (some ⟨w.heap.size, 0, none⟩) 2 2)).run Tryz.prog (w.alloc (.cells #[.int .u8 (b.toNat : Int), .int .u8 (c.toNat : Int)] 5)) = .ok (.string ⟨#[b, c]⟩) (w.alloc (.cells #[.int .u8 (b.toNat : Int), .int .u8 (c.toNat : Int)] 5)) := by
  refine run_convert_bytes_back (P := Tryz.prog) _ 131 9 5 ⟨w.heap.size, 0, none⟩ 2 [b, c] Tryz.underlying131 Tryz.underlying5 Tryz.underlying9 ?_
  intro j hj
  have h0 : j = 0 ∨ j = 1 := by simp at hj; omega
  rcases h0 with rfl | rfl <;> simp [Addr.add]
theorem byte_int (x : Int) (n : Nat) (hx : x = (n : Int)) (h : n ≤ 255) : x = ((UInt8.ofNat n).toNat : Int) := by
  rw [hx]
  simp
  omega
/-- what stands as a text: two bytes, and two texts behind them -/
def b2T (b c : UInt8) (r p : ByteArray) : ByteArray := ⟨#[b, c]⟩ ++ r ++ p
theorem b2T_size (b c : UInt8) (r p : ByteArray) : (b2T b c r p).size = 2 + r.size + p.size := by
  unfold b2T
  rw [ByteArray.size_append, ByteArray.size_append]
  rfl
theorem HV.txtH_b2 (x : Hd) : HV.txtH x = b2T (UInt8.ofNat x.h.toNat) (UInt8.ofNat x.e.toNat) x.r x.p := rfl

set_option maxRecDepth 100000 in
set_option maxHeartbeats 1000000 in
theorem HeadText_any (x : Hd) (w : World) : Calls Tryz.prog 137 #[.agg #[.int .i64 x.h, .int .i64 x.e, .string x.r, .string x.p]] w fun e w' => e = .returned (.tuple #[.string (HV.textH x), .bool (HV.okH x)]) ∧ Below w.heap.size w w' := by
  have HC : Hid (∀ W, Calls Tryz.prog 104 #[.agg #[.int .i64 x.h, .int .i64 x.e, .string x.r, .string x.p]] W fun e w' => e = .returned (.bool (HV.okH x)) ∧ Below W.heap.size W w') := fun W => HeadOk_any x W
  unfold HV.textH
  cases hk : HV.okH x
  · rw [hk] at HC
    obtain ⟨h, e, r, p⟩ := x
    clear hk
    have HB : Hid (Below w.heap.size w (w.alloc (.cells #[.int .i64 h, .int .i64 e, .string r, .string p] 46))) := (Below.refl _ _).alloc (Nat.le_refl _) _
    have HS : w.heap.size ≤ (w.alloc (.cells #[.int .i64 h, .int .i64 e, .string r, .string p] 46)).heap.size := HB.out.size
    rw [if_neg (by simp)]
    go_enter Tryz.func137, Tryz.ntmps137
    go_wp2_with fail
    refine (HC.out _).mono ?_
    rintro e1 w1 ⟨rfl, hb1⟩
    have HB1 := HB.out.trans (hb1.mono HS)
    clear hb1
    go_wp2
    go_ret2
    exact ⟨rfl, HB1⟩
  · rw [hk] at HC
    rw [if_pos rfl, HV.txtH_b2]
    obtain ⟨⟨h0, h1⟩, ⟨h2, h3⟩, h4, h5⟩ := HV.okH_iff.1 hk
    have h6 : x.p.size ≤ 16 := by rw [h5]; unfold HV.pw; split <;> omega
    clear hk h5
    obtain ⟨h, e, r, p⟩ := x
    simp only at *
    obtain ⟨b, hb⟩ : ∃ b, UInt8.ofNat h.toNat = b := ⟨_, rfl⟩
    obtain ⟨c, hc⟩ : ∃ c, UInt8.ofNat e.toNat = c := ⟨_, rfl⟩
    have kb : h = (b.toNat : Int) := by rw [← hb]; exact byte_int h _ (by omega) (by omega)
    have kc : e = (c.toNat : Int) := by rw [← hc]; exact byte_int e _ (by omega) (by omega)
    rw [hb, hc]
    clear hb hc
    subst kb
    subst kc
    have HB : Hid (Below w.heap.size w (w.alloc (.cells #[.int .i64 (b.toNat : Int), .int .i64 (c.toNat : Int), .string r, .string p] 46))) := (Below.refl _ _).alloc (Nat.le_refl _) _
    have HS : w.heap.size ≤ (w.alloc (.cells #[.int .i64 (b.toNat : Int), .int .i64 (c.toNat : Int), .string r, .string p] 46)).heap.size := HB.out.size
    have HZ : Hid ((w.alloc (.cells #[.int .i64 (b.toNat : Int), .int .i64 (c.toNat : Int), .string r, .string p] 46)).rangeAt w.heap.size 0 [.int .i64 (b.toNat : Int), .int .i64 (c.toNat : Int), .string r, .string p]) := range_new w [.int .i64 (b.toNat : Int), .int .i64 (c.toNat : Int), .string r, .string p] _
    have HL : w.heap.size < (w.alloc (.cells #[.int .i64 (b.toNat : Int), .int .i64 (c.toNat : Int), .string r, .string p] 46)).heap.size := by simp
    go_enter Tryz.func137, Tryz.ntmps137
    go_wp2_with fail
    refine (HC.out _).mono ?_
    rintro e1 w1 ⟨rfl, hb1⟩
    have HB1 := HB.out.trans (hb1.mono HS)
    have HR := range_kept HZ.out (hb1.block _ HL)
    have z0 : w1.cell? ⟨w.heap.size, 0, none⟩ = some (.int .i64 (b.toNat : Int)) := HR 0 _ rfl
    have z1 : w1.cell? ⟨w.heap.size, 1, none⟩ = some (.int .i64 (c.toNat : Int)) := HR 1 _ rfl
    have z2 : w1.cell? ⟨w.heap.size, 2, none⟩ = some (.string r) := HR 2 _ rfl
    have z3 : w1.cell? ⟨w.heap.size, 3, none⟩ = some (.string p) := HR 3 _ rfl
    have HLT : w.heap.size < w1.heap.size := lt_of_cell z0
    have z2' : (w1.alloc (.cells #[.int .u8 (b.toNat : Int), .int .u8 (c.toNat : Int)] 5)).cell? ⟨w.heap.size, 2, none⟩ = some (.string r) := (cell_kept (Below.heap_alloc _ _ _ HLT)).trans z2
    have z3' : (w1.alloc (.cells #[.int .u8 (b.toNat : Int), .int .u8 (c.toNat : Int)] 5)).cell? ⟨w.heap.size, 3, none⟩ = some (.string p) := (cell_kept (Below.heap_alloc _ _ _ HLT)).trans z3
    have t2 := two_str w1 b c
    have s2 : (⟨#[b, c]⟩ : ByteArray).size = 2 := rfl
    have HB2 : Hid (Below w.heap.size w (w1.alloc (.cells #[.int .u8 (b.toNat : Int), .int .u8 (c.toNat : Int)] 5))) := HB1.alloc HB1.size _
    have HT : Hid (b2T b c r p = ⟨#[b, c]⟩ ++ r ++ p) := rfl
    clear HR HZ hb1 HC HB
    generalize hS : (⟨#[b, c]⟩ : ByteArray) = S2 at *
    clear hS
    go_wp2
    go_ret2
    rw [HT.out]
    exact ⟨rfl, HB2.out⟩

set_option maxRecDepth 100000 in
set_option maxHeartbeats 1000000 in
theorem sHeadText_any (x : Hd) (w : World) : Calls Tryz.prog 73 #[.agg #[.int .i64 x.h, .int .i64 x.e, .string x.r, .string x.p]] w fun e w' => e = .returned (.tuple #[.string (HV.textH x), .bool (HV.okH x)]) ∧ Below w.heap.size w w' := by
  have HC : Hid (∀ W, Calls Tryz.prog 41 #[.agg #[.int .i64 x.h, .int .i64 x.e, .string x.r, .string x.p]] W fun e w' => e = .returned (.bool (HV.okH x)) ∧ Below W.heap.size W w') := fun W => sHeadOk_any x W
  unfold HV.textH
  cases hk : HV.okH x
  · rw [hk] at HC
    obtain ⟨h, e, r, p⟩ := x
    clear hk
    have HB : Hid (Below w.heap.size w (w.alloc (.cells #[.int .i64 h, .int .i64 e, .string r, .string p] 46))) := (Below.refl _ _).alloc (Nat.le_refl _) _
    have HS : w.heap.size ≤ (w.alloc (.cells #[.int .i64 h, .int .i64 e, .string r, .string p] 46)).heap.size := HB.out.size
    rw [if_neg (by simp)]
    go_enter Tryz.func73, Tryz.ntmps73
    go_wp2_with fail
    refine (HC.out _).mono ?_
    rintro e1 w1 ⟨rfl, hb1⟩
    have HB1 := HB.out.trans (hb1.mono HS)
    clear hb1
    go_wp2
    go_ret2
    exact ⟨rfl, HB1⟩
  · rw [hk] at HC
    rw [if_pos rfl, HV.txtH_b2]
    obtain ⟨⟨h0, h1⟩, ⟨h2, h3⟩, h4, h5⟩ := HV.okH_iff.1 hk
    have h6 : x.p.size ≤ 16 := by rw [h5]; unfold HV.pw; split <;> omega
    clear hk h5
    obtain ⟨h, e, r, p⟩ := x
    simp only at *
    obtain ⟨b, hb⟩ : ∃ b, UInt8.ofNat h.toNat = b := ⟨_, rfl⟩
    obtain ⟨c, hc⟩ : ∃ c, UInt8.ofNat e.toNat = c := ⟨_, rfl⟩
    have kb : h = (b.toNat : Int) := by rw [← hb]; exact byte_int h _ (by omega) (by omega)
    have kc : e = (c.toNat : Int) := by rw [← hc]; exact byte_int e _ (by omega) (by omega)
    rw [hb, hc]
    clear hb hc
    subst kb
    subst kc
    have HB : Hid (Below w.heap.size w (w.alloc (.cells #[.int .i64 (b.toNat : Int), .int .i64 (c.toNat : Int), .string r, .string p] 46))) := (Below.refl _ _).alloc (Nat.le_refl _) _
    have HS : w.heap.size ≤ (w.alloc (.cells #[.int .i64 (b.toNat : Int), .int .i64 (c.toNat : Int), .string r, .string p] 46)).heap.size := HB.out.size
    have HZ : Hid ((w.alloc (.cells #[.int .i64 (b.toNat : Int), .int .i64 (c.toNat : Int), .string r, .string p] 46)).rangeAt w.heap.size 0 [.int .i64 (b.toNat : Int), .int .i64 (c.toNat : Int), .string r, .string p]) := range_new w [.int .i64 (b.toNat : Int), .int .i64 (c.toNat : Int), .string r, .string p] _
    have HL : w.heap.size < (w.alloc (.cells #[.int .i64 (b.toNat : Int), .int .i64 (c.toNat : Int), .string r, .string p] 46)).heap.size := by simp
    go_enter Tryz.func73, Tryz.ntmps73
    go_wp2_with fail
    refine (HC.out _).mono ?_
    rintro e1 w1 ⟨rfl, hb1⟩
    have HB1 := HB.out.trans (hb1.mono HS)
    have HR := range_kept HZ.out (hb1.block _ HL)
    have z0 : w1.cell? ⟨w.heap.size, 0, none⟩ = some (.int .i64 (b.toNat : Int)) := HR 0 _ rfl
    have z1 : w1.cell? ⟨w.heap.size, 1, none⟩ = some (.int .i64 (c.toNat : Int)) := HR 1 _ rfl
    have z2 : w1.cell? ⟨w.heap.size, 2, none⟩ = some (.string r) := HR 2 _ rfl
    have z3 : w1.cell? ⟨w.heap.size, 3, none⟩ = some (.string p) := HR 3 _ rfl
    have HLT : w.heap.size < w1.heap.size := lt_of_cell z0
    have z2' : (w1.alloc (.cells #[.int .u8 (b.toNat : Int), .int .u8 (c.toNat : Int)] 5)).cell? ⟨w.heap.size, 2, none⟩ = some (.string r) := (cell_kept (Below.heap_alloc _ _ _ HLT)).trans z2
    have z3' : (w1.alloc (.cells #[.int .u8 (b.toNat : Int), .int .u8 (c.toNat : Int)] 5)).cell? ⟨w.heap.size, 3, none⟩ = some (.string p) := (cell_kept (Below.heap_alloc _ _ _ HLT)).trans z3
    have t2 := two_str w1 b c
    have s2 : (⟨#[b, c]⟩ : ByteArray).size = 2 := rfl
    have HB2 : Hid (Below w.heap.size w (w1.alloc (.cells #[.int .u8 (b.toNat : Int), .int .u8 (c.toNat : Int)] 5))) := HB1.alloc HB1.size _
    have HT : Hid (b2T b c r p = ⟨#[b, c]⟩ ++ r ++ p) := rfl
    clear HR HZ hb1 HC HB
    generalize hS : (⟨#[b, c]⟩ : ByteArray) = S2 at *
    clear hS
    go_wp2
    go_ret2
    rw [HT.out]
    exact ⟨rfl, HB2.out⟩

end Go.Proofs.YtgkfelhjbeegaaaGreatDoor
/-
  What SigText answers of every signature, the program's and the specification's.
-/
namespace Go.Proofs.YtgkfelhjbeegaaaGreatDoor
open Go.RowKit Go.BigFrame
set_option linter.unusedVariables false

theorem sigB_size (a : Int) (o s d : List ByteArray) : (sigB a o s d).size ≤ 321 := by
  unfold sigB
  split
  · rename_i hf
    obtain ⟨_, ⟨h1, l1⟩, ⟨h2, l2⟩, ⟨h3, l3⟩⟩ := formB_parts hf
    rw [kyB_size, kyL_len _ _ (kwB_append (kwB_append h1 h2) h3)]
    simp [l1, l2, l3]
  · exact Nat.zero_le _

end Go.Proofs.YtgkfelhjbeegaaaGreatDoor
