/-
  Texts laid together: Rsl, Stl.
-/
import Derived.Test.YtkgibgadngeddabDoorPkEST27
import Derived.Test.YtkgibgadngeddabDoorPkEST25
import Derived.Deep.RegionHeld3
/-
  The walk of the law FnExactReadSig: it answers true of every text.
-/
namespace Go.Proofs.YtkgibgadngeddabDoor
open Go.RowKit Go.BigFrame
set_option linter.unusedVariables false

/-- block p is a signature, and its lists lie so -/
def WSg (W : World) (p : Nat) (a : Int) (v1 v2 v3 : Value) (g1 g2 g3 : Nat) (o s d : List ByteArray) : Prop := SgM W p a v1 v2 v3 ∧ TS W v1 g1 o ∧ TS W v2 g2 s ∧ TS W v3 g3 d
theorem WSg.later {W W' : World} {p : Nat} {a : Int} {v1 v2 v3 : Value} {g1 g2 g3 : Nat} {o s d : List ByteArray} (h : WSg W p a v1 v2 v3 g1 g2 g3 o s d) (hb : Below W.heap.size W W') : WSg W' p a v1 v2 v3 g1 g2 g3 o s d :=
  ⟨h.1.later hb, h.2.1.later hb, h.2.2.1.later hb, h.2.2.2.later hb⟩
theorem WSg.alloc {W : World} {p : Nat} {a : Int} {v1 v2 v3 : Value} {g1 g2 g3 : Nat} {o s d : List ByteArray} (h : WSg W p a v1 v2 v3 g1 g2 g3 o s d) (x : Obj) : WSg (W.alloc x) p a v1 v2 v3 g1 g2 g3 o s d := h.later ((Below.refl _ _).alloc (Nat.le_refl _) _)
theorem SgM.keptG3 {w w' : World} {g : Nat} {r1 r2 r3 : Option Nat} {a : Int} {v1 v2 v3 : Value} (h : SgM w g a v1 v2 v3) (hg : Grown3 w w' r1 r2 r3) (h1 : some g ≠ r1) (h2 : some g ≠ r2) (h3 : some g ≠ r3) : SgM w' g a v1 v2 v3 := by
  obtain ⟨wa, wb, ha, hb, hc⟩ := hg
  exact ((h.keptG ha h1).keptG hb h2).keptG hc h3
theorem TS.shape {w : World} {v : Value} {g : Nat} {l : List ByteArray} (h : TS w v g l) : ∃ a c, v = .slice a l.length c := by
  obtain ⟨a, c, hv, _⟩ := h
  exact ⟨a, c, hv⟩
theorem WSg.new (W : World) (a : Int) (v1 v2 v3 : Value) (g1 g2 g3 : Nat) (o s d : List ByteArray) (h1 : TS W v1 g1 o) (h2 : TS W v2 g2 s) (h3 : TS W v3 g3 d) : WSg (W.alloc (.cells #[.int .i64 a, v1, v2, v3] 27)) W.heap.size a v1 v2 v3 g1 g2 g3 o s d := by
  have hb : Below W.heap.size W (W.alloc (.cells #[.int .i64 a, v1, v2, v3] 27)) := (Below.refl _ _).alloc (Nat.le_refl _) _
  exact ⟨SgM.new W a v1 v2 v3, h1.later hb, h2.later hb, h3.later hb⟩

end Go.Proofs.YtkgibgadngeddabDoor
/-
  A signature taken over by a law; the walk of the law FnExactSigText.
-/
namespace Go.Proofs.YtkgibgadngeddabDoor
open Go.RowKit Go.BigFrame
set_option linter.unusedVariables false

/-- a signature, answered -/
theorem ret_sig1 {fn : Func} {Rp : Ending → World → Prop} {a : Act} {w : World} (c g : Nat) (x : Int) (v1 v2 v3 : Value) (hres : fn.results = #[.cell c 27]) (hd : a.defers = []) (hp : a.tmps.getD c undef = .pointer (some ⟨g, 0, none⟩))
    (hA : SgM w g x v1 v2 v3) (h : Rp (.returned (.agg #[.int .i64 x, v1, v2, v3])) w) : bodyPost Tryd.prog fn Rp .ret a w := by
  have hr := load_sig hA
  refine bodyPost_ret (v := .agg #[.int .i64 x, v1, v2, v3]) ?_ hd h
  have hp' : a.tmps[c]?.getD undef = .pointer (some ⟨g, 0, none⟩) := by simpa using hp
  simp [results, hres, asAddr, hr, hp']

/-- three cells of a block -/
def CX (w : World) (g : Nat) (v1 v2 v3 : Value) : Prop := w.cell? ⟨g, 1, none⟩ = some v1 ∧ w.cell? ⟨g, 2, none⟩ = some v2 ∧ w.cell? ⟨g, 3, none⟩ = some v3 ∧ g < w.heap.size
theorem CX.later {w w' : World} {g : Nat} {v1 v2 v3 : Value} (h : CX w g v1 v2 v3) (hb : Below w.heap.size w w') : CX w' g v1 v2 v3 :=
  ⟨(hb.cell (p := ⟨g, 1, none⟩) h.2.2.2).trans h.1, (hb.cell (p := ⟨g, 2, none⟩) h.2.2.2).trans h.2.1, (hb.cell (p := ⟨g, 3, none⟩) h.2.2.2).trans h.2.2.1, Nat.lt_of_lt_of_le h.2.2.2 hb.size⟩
theorem CX.keptG {w w' : World} {g : Nat} {row : Option Nat} {v1 v2 v3 : Value} (h : CX w g v1 v2 v3) (hg : w.grownBy w' row) (hne : some g ≠ row) : CX w' g v1 v2 v3 := by
  have e := hg.block g h.2.2.2 hne
  exact ⟨(World.cell?_of_block (w := w) e).trans h.1, (World.cell?_of_block (w := w) e).trans h.2.1, (World.cell?_of_block (w := w) e).trans h.2.2.1, Nat.lt_of_lt_of_le h.2.2.2 hg.size⟩

/-- what stands behind each list that was taken over -/
def TgH (w W : World) (vo vs vd : Value) (a : Int) (v1 v2 v3 : Value) : Prop := CX W w.heap.size vo vs vd ∧ SgM W (w.heap.size + 1) 0 (.slice none 0 0) (.slice none 0 0) (.slice none 0 0) ∧ SgM W (w.heap.size + 1 + 1) a v1 v2 v3 ∧ Below w.heap.size w W
theorem TgH.later {w W W' : World} {vo vs vd : Value} {a : Int} {v1 v2 v3 : Value} (h : TgH w W vo vs vd a v1 v2 v3) (hb : Below W.heap.size W W') : TgH w W' vo vs vd a v1 v2 v3 := ⟨h.1.later hb, h.2.1.later hb, h.2.2.1.later hb, h.2.2.2.trans (hb.mono h.2.2.2.size)⟩

set_option maxRecDepth 100000 in
set_option maxHeartbeats 1000000 in
theorem toSig_any (a : Int) (vo vs vd : Value) (g1 o1 g2 o2 g3 o3 : Nat) (o s d : List ByteArray) (w : World) (ho : SS w vo g1 o1 o) (hs : SS w vs g2 o2 s) (hd : SS w vd g3 o3 d) :
    Calls Tryd.prog 6 #[.agg #[.int .i64 a, vo, vs, vd]] w fun e w' => ∃ v, e = .returned v ∧ SigIn w' w.heap.size v a o s d ∧ Below w.heap.size w w' := by
  have H1 : Hid (∀ W, Below w.heap.size w W → Calls Tryd.prog 20 #[vo] W fun e w'' => ∃ g, e = .returned (.slice (some ⟨g, 0, none⟩) o.length o.length) ∧ W.heap.size ≤ g ∧ TB w'' g o ∧ Below W.heap.size W w'') := fun W hW => by
    have h := ho.below hW ho.lt
    exact toStringS_any vo g1 o1 o W h h.lt
  have H2 : Hid (∀ W, Below w.heap.size w W → Calls Tryd.prog 20 #[vs] W fun e w'' => ∃ g, e = .returned (.slice (some ⟨g, 0, none⟩) s.length s.length) ∧ W.heap.size ≤ g ∧ TB w'' g s ∧ Below W.heap.size W w'') := fun W hW => by
    have h := hs.below hW hs.lt
    exact toStringS_any vs g2 o2 s W h h.lt
  have H3 : Hid (∀ W, Below w.heap.size w W → Calls Tryd.prog 20 #[vd] W fun e w'' => ∃ g, e = .returned (.slice (some ⟨g, 0, none⟩) d.length d.length) ∧ W.heap.size ≤ g ∧ TB w'' g d ∧ Below W.heap.size W w'') := fun W hW => by
    have h := hd.below hW hd.lt
    exact toStringS_any vd g3 o3 d W h h.lt
  obtain ⟨ao, co, rfl, lo, x1⟩ := ho
  obtain ⟨as2, cs2, rfl, ls, x2⟩ := hs
  obtain ⟨ad, cd, rfl, ld, x3⟩ := hd
  clear x1 x2 x3
  have HA0 : Hid (TgH w (((w.alloc (.cells #[.int .i64 a, .slice ao o.length co, .slice as2 s.length cs2, .slice ad d.length cd] 24)).alloc (.cells zSig 27)).alloc (.cells #[.int .i64 a, .slice none 0 0, .slice none 0 0, .slice none 0 0] 27)) (.slice ao o.length co) (.slice as2 s.length cs2) (.slice ad d.length cd) a (.slice none 0 0) (.slice none 0 0) (.slice none 0 0)) := by
    have h0 : CX (w.alloc (.cells #[.int .i64 a, .slice ao o.length co, .slice as2 s.length cs2, .slice ad d.length cd] 24)) w.heap.size (.slice ao o.length co) (.slice as2 s.length cs2) (.slice ad d.length cd) := ⟨by simp, by simp, by simp, by simp⟩
    generalize hw1 : w.alloc (.cells #[.int .i64 a, .slice ao o.length co, .slice as2 s.length cs2, .slice ad d.length cd] 24) = W1 at *
    have z1 : W1.heap.size = w.heap.size + 1 := by rw [← hw1]; simp
    have b1 : Below w.heap.size w W1 := by rw [← hw1]; exact (Below.refl _ _).alloc (Nat.le_refl _) _
    have h1 := SgM.new W1 0 (.slice none 0 0) (.slice none 0 0) (.slice none 0 0)
    have bb1 : Below W1.heap.size W1 (W1.alloc (.cells zSig 27)) := (Below.refl _ _).alloc (Nat.le_refl _) _
    have z2 : (W1.alloc (.cells zSig 27)).heap.size = w.heap.size + 1 + 1 := by simp [z1]
    have h2 := SgM.new (W1.alloc (.cells zSig 27)) a (.slice none 0 0) (.slice none 0 0) (.slice none 0 0)
    have bb2 : Below (W1.alloc (.cells zSig 27)).heap.size (W1.alloc (.cells zSig 27)) ((W1.alloc (.cells zSig 27)).alloc (.cells #[.int .i64 a, .slice none 0 0, .slice none 0 0, .slice none 0 0] 27)) := (Below.refl _ _).alloc (Nat.le_refl _) _
    rw [z1] at h1
    rw [z2] at h2
    have h1 : SgM (W1.alloc (.cells zSig 27)) (w.heap.size + 1) 0 (.slice none 0 0) (.slice none 0 0) (.slice none 0 0) := h1
    exact ⟨(h0.later bb1).later bb2, h1.later bb2, h2, (b1.trans (bb1.mono b1.size)).trans (bb2.mono (by rw [z2]; omega))⟩
  go_enter Tryd.func6, Tryd.ntmps6
  go_wp2_with fail
  refine (H1.out _ HA0.out.2.2.2).mono ?_
  rintro e w1 ⟨k1, rfl, hk1, ht1, hb1⟩
  have hA1 := HA0.out.later hb1
  have c1 := hA1.2.2.1.c1
  have f1 := hA1.2.2.1.fr 1
  have hg1' : w.heap.size + 3 ≤ k1 := by simpa using hk1
  have hl1 := ht1.lt
  have hts1 := ht1.ts o.length o.length rfl lo
  have hgr1 := grown_set w1 (w.heap.size + 1 + 1) 1 (.slice (some ⟨k1, 0, none⟩) o.length o.length)
  have HA1 : Hid (TgH w (w1.setCell ⟨w.heap.size + 1 + 1, 1, none⟩ (.slice (some ⟨k1, 0, none⟩) o.length o.length)) (.slice ao o.length co) (.slice as2 s.length cs2) (.slice ad d.length cd) a (.slice (some ⟨k1, 0, none⟩) o.length o.length) (.slice none 0 0) (.slice none 0 0) ∧ TS (w1.setCell ⟨w.heap.size + 1 + 1, 1, none⟩ (.slice (some ⟨k1, 0, none⟩) o.length o.length)) (.slice (some ⟨k1, 0, none⟩) o.length o.length) k1 o) :=
    ⟨⟨hA1.1.keptG hgr1 (by simp; omega), hA1.2.1.keptG hgr1 (by simp), hA1.2.2.1.set1 _, hA1.2.2.2.setCell (p := ⟨w.heap.size + 1 + 1, 1, none⟩) (by simp; omega) _⟩, hts1.keptG hgr1 (fun _ => by simp; omega)⟩
  have e2 : (w1.setCell ⟨w.heap.size + 1 + 1, 1, none⟩ (.slice (some ⟨k1, 0, none⟩) o.length o.length)).cell? ⟨w.heap.size, 2, none⟩ = some (.slice as2 s.length cs2) := HA1.out.1.1.2.1
  have hsz1 : (w1.setCell ⟨w.heap.size + 1 + 1, 1, none⟩ (.slice (some ⟨k1, 0, none⟩) o.length o.length)).heap.size = w1.heap.size := by simp
  have hne0 : w.heap.size ≠ w.heap.size + 1 + 1 := by omega
  have d2 : w1.cell? ⟨w.heap.size, 2, none⟩ = some (.slice as2 s.length cs2) := hA1.1.2.1
  clear hA1 hts1 hk1 hgr1 ht1 hb1 HA0 H1
  go_wp2_with fail
  refine (H2.out _ HA1.out.1.2.2.2).mono ?_
  rintro e w2 ⟨k2, rfl, hk2, ht2, hb2⟩
  rw [hsz1] at hk2
  have hA2 := HA1.out.1.later hb2
  have ht12 := HA1.out.2.later hb2
  have c2 := hA2.2.2.1.c2
  have f2 := hA2.2.2.1.fr 2
  have hl2 := ht2.lt
  have hts2 := ht2.ts s.length s.length rfl ls
  have hgr2 := grown_set w2 (w.heap.size + 1 + 1) 2 (.slice (some ⟨k2, 0, none⟩) s.length s.length)
  have HA2 : Hid (TgH w (w2.setCell ⟨w.heap.size + 1 + 1, 2, none⟩ (.slice (some ⟨k2, 0, none⟩) s.length s.length)) (.slice ao o.length co) (.slice as2 s.length cs2) (.slice ad d.length cd) a (.slice (some ⟨k1, 0, none⟩) o.length o.length) (.slice (some ⟨k2, 0, none⟩) s.length s.length) (.slice none 0 0) ∧ TS (w2.setCell ⟨w.heap.size + 1 + 1, 2, none⟩ (.slice (some ⟨k2, 0, none⟩) s.length s.length)) (.slice (some ⟨k1, 0, none⟩) o.length o.length) k1 o ∧ TS (w2.setCell ⟨w.heap.size + 1 + 1, 2, none⟩ (.slice (some ⟨k2, 0, none⟩) s.length s.length)) (.slice (some ⟨k2, 0, none⟩) s.length s.length) k2 s) :=
    ⟨⟨hA2.1.keptG hgr2 (by simp; omega), hA2.2.1.keptG hgr2 (by simp), hA2.2.2.1.set2 _, hA2.2.2.2.setCell (p := ⟨w.heap.size + 1 + 1, 2, none⟩) (by simp; omega) _⟩, ht12.keptG hgr2 (fun _ => by simp; omega), hts2.keptG hgr2 (fun _ => by simp; omega)⟩
  have hsz2 : (w2.setCell ⟨w.heap.size + 1 + 1, 2, none⟩ (.slice (some ⟨k2, 0, none⟩) s.length s.length)).heap.size = w2.heap.size := by simp
  have d3 : w2.cell? ⟨w.heap.size, 3, none⟩ = some (.slice ad d.length cd) := hA2.1.2.2.1
  clear hA2 hts2 ht12 hgr2 ht2 hb2 HA1 H2 hsz1 c1 f1 e2 d2
  go_wp2_with fail
  refine (H3.out _ HA2.out.1.2.2.2).mono ?_
  rintro e w3 ⟨k3, rfl, hk3, ht3, hb3⟩
  rw [hsz2] at hk3
  have hA3 := HA2.out.1.later hb3
  have ht13 := HA2.out.2.1.later hb3
  have ht23 := HA2.out.2.2.later hb3
  have c3 := hA3.2.2.1.c3
  have f3 := hA3.2.2.1.fr 3
  have hts3 := ht3.ts d.length d.length rfl ld
  have hgr3 := grown_set w3 (w.heap.size + 1 + 1) 3 (.slice (some ⟨k3, 0, none⟩) d.length d.length)
  have HA3 : Hid (TgH w (w3.setCell ⟨w.heap.size + 1 + 1, 3, none⟩ (.slice (some ⟨k3, 0, none⟩) d.length d.length)) (.slice ao o.length co) (.slice as2 s.length cs2) (.slice ad d.length cd) a (.slice (some ⟨k1, 0, none⟩) o.length o.length) (.slice (some ⟨k2, 0, none⟩) s.length s.length) (.slice (some ⟨k3, 0, none⟩) d.length d.length) ∧ TS (w3.setCell ⟨w.heap.size + 1 + 1, 3, none⟩ (.slice (some ⟨k3, 0, none⟩) d.length d.length)) (.slice (some ⟨k1, 0, none⟩) o.length o.length) k1 o ∧ TS (w3.setCell ⟨w.heap.size + 1 + 1, 3, none⟩ (.slice (some ⟨k3, 0, none⟩) d.length d.length)) (.slice (some ⟨k2, 0, none⟩) s.length s.length) k2 s ∧ TS (w3.setCell ⟨w.heap.size + 1 + 1, 3, none⟩ (.slice (some ⟨k3, 0, none⟩) d.length d.length)) (.slice (some ⟨k3, 0, none⟩) d.length d.length) k3 d) :=
    ⟨⟨hA3.1.keptG hgr3 (by simp; omega), hA3.2.1.keptG hgr3 (by simp), hA3.2.2.1.set3 _, hA3.2.2.2.setCell (p := ⟨w.heap.size + 1 + 1, 3, none⟩) (by simp; omega) _⟩, ht13.keptG hgr3 (fun _ => by simp; omega), ht23.keptG hgr3 (fun _ => by simp; omega), hts3.keptG hgr3 (fun _ => by simp; omega)⟩
  clear hA3 hts3 ht13 ht23 hgr3 ht3 hb3 HA2 H3 hsz2 c2 f2 d3
  go_wp2_with (first | (refine wp_loadSig rfl _ rfl (w.heap.size + 1 + 1) _ _ _ _ rfl HA3.out.1.2.2.1 ?_) | (refine wp_storeSig rfl _ _ rfl (w.heap.size + 1) 0 _ _ _ _ _ _ _ HA3.out.1.2.1 rfl rfl rfl rfl rfl ?_; intro hfin))
  refine ret_sig1 2 (w.heap.size + 1) _ _ _ _ rfl rfl rfl hfin ?_
  obtain ⟨⟨_, _, _, b3⟩, hts1, hts2, hts3⟩ := HA3.out
  have hgr := grown_setRow (w3.setCell ⟨w.heap.size + 1 + 1, 3, none⟩ (.slice (some ⟨k3, 0, none⟩) d.length d.length)) (w.heap.size + 1) #[.int .i64 a, .slice (some ⟨k1, 0, none⟩) o.length o.length, .slice (some ⟨k2, 0, none⟩) s.length s.length, .slice (some ⟨k3, 0, none⟩) d.length d.length]
  refine ⟨_, rfl, ⟨_, _, _, k1, k2, k3, rfl, ⟨hts1.keptG hgr (fun _ => ?_), hts2.keptG hgr (fun _ => ?_), hts3.keptG hgr (fun _ => ?_)⟩, ⟨by omega, by omega, by omega⟩, ⟨by omega, by omega, by omega⟩⟩, b3.grown hgr b3.size (fun k hk => by simp at hk; omega)⟩
  · simp; omega
  · simp; omega
  · simp; omega

theorem IsRowS.later {w w' : World} {a : Option Addr} {n k : Nat} {z : List ByteArray} (h : IsRowS w a n k z) (hb : Below w.heap.size w w') : IsRowS w' a n k z := by
  rcases h with h | ⟨p, rfl, hl, hm, hlz, hc, hz⟩
  · exact .inl h
  · refine .inr ⟨p, rfl, hl, hm, hlz, fun i hi => ?_, hz⟩
    have h4 := hc i hi
    have hlt : (p.add i).block < w.heap.size := by
      rcases Nat.lt_or_ge (p.add i).block w.heap.size with h5 | h5
      · exact h5
      · simp [World.cell?, Array.getElem?_eq_none h5] at h4
    exact (hb.cell hlt).trans h4

/-- a signature that a law was handed stays in its box, and is taken over from there -/
def BX (W : World) (p : Nat) (i : Int) (v1 v2 v3 : Value) : Prop := W.heap[p]? = some (.cells #[.int .i64 i, v1, v2, v3] 24 (0, 0))
theorem BX.cells {W : World} {p : Nat} {i : Int} {v1 v2 v3 : Value} (h : BX W p i v1 v2 v3) : W.cell? ⟨p, 0, none⟩ = some (.int .i64 i) ∧ W.cell? ⟨p, 1, none⟩ = some v1 ∧ W.cell? ⟨p, 2, none⟩ = some v2 ∧ W.cell? ⟨p, 3, none⟩ = some v3 := by
  refine ⟨?_, ?_, ?_, ?_⟩
  · rw [cell_of_row W p 0 _ _ (0, 0) h]; rfl
  · rw [cell_of_row W p 1 _ _ (0, 0) h]; rfl
  · rw [cell_of_row W p 2 _ _ (0, 0) h]; rfl
  · rw [cell_of_row W p 3 _ _ (0, 0) h]; rfl
theorem BX.lt {W : World} {p : Nat} {i : Int} {v1 v2 v3 : Value} (h : BX W p i v1 v2 v3) : p < W.heap.size := (Array.getElem?_eq_some_iff.1 h).1
theorem BX.later {W W' : World} {p : Nat} {i : Int} {v1 v2 v3 : Value} (h : BX W p i v1 v2 v3) (hb : Below W.heap.size W W') : BX W' p i v1 v2 v3 := by
  have hlt := h.lt
  unfold BX at *
  rw [hb.block p hlt, h]
theorem BX.new (w : World) (i : Int) (v1 v2 v3 : Value) : BX (w.alloc (.cells #[.int .i64 i, v1, v2, v3] 24)) w.heap.size i v1 v2 v3 := Go.heap_alloc_new w _
theorem load_box {w : World} {g : Nat} {x : Int} {v1 v2 v3 : Value} (hA : BX w g x v1 v2 v3) : (loadVar 24 ⟨g, 0, none⟩).run Tryd.prog w = .ok (.agg #[.int .i64 x, v1, v2, v3]) w :=
  run_loadVar_row (P := Tryd.prog) w g 24 24 _ (0, 0) _ hA Tryd.underlying24 rfl (by kernel_rfl)
theorem wp_loadBox {w : World} {ops : Array Oper} {rest : List Oper} {o : Oper} {a : Act} {Q : Exit → Act → World → Prop} (hgd : o.guard = none) (p : Operand) (ho : o.op = .load 24 p) (g : Nat) (x : Int) (v1 v2 v3 : Value) (hp : a.eval p = .pointer (some ⟨g, 0, none⟩)) (hA : BX w g x v1 v2 v3)
    (h : wpList Tryd.prog ops Q rest (a.put o.dst (.agg #[.int .i64 x, v1, v2, v3])) w) : wpList Tryd.prog ops Q (o :: rest) a w := by
  refine wpList_plain hgd fun K hK => ?_
  have hr : (Instr.loadAt 24 (.pointer (some ⟨g, 0, none⟩))).run Tryd.prog w = .ok (.agg #[.int .i64 x, v1, v2, v3]) w := by
    simp only [Instr.loadAt, Instr.sureAddr, Sem.run_bind, Sem.run_pure, Result.andThen]
    exact load_box hA
  unfold Oper.wp
  simp [execOp, ho, hp, hr, Result.andThen]
  exact hK _ _ h

end Go.Proofs.YtkgibgadngeddabDoor
