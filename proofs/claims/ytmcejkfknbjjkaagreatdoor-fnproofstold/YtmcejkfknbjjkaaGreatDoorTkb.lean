/-
  A proof drawn, right or not.
-/
import Derived.Test.YtmcejkfknbjjkaaGreatDoorTka
import Derived.Test.YtmcejkfknbjjkaaGreatDoorAn
namespace Go.Proofs.YtmcejkfknbjjkaaGreatDoor
open Go.RowKit Go.BigFrame Go.Sort
set_option linter.unusedVariables false
set_option linter.unusedSimpArgs false

theorem OL.keptS {Bx : Nat} {w0 W W' : World} {v : Value} {l : List Le} {row : Option Nat} (h : OL Bx w0 W v l) (hg : W.grownBy W' row) (hne : v.ownBlock = none ∨ v.ownBlock ≠ row) : OL Bx W' W' v l := ⟨World.ownsRow.kept h.1 hg hne, Below.refl _ _, Nat.le_trans h.2.2 hg.size⟩
theorem OS.keptS {Bx : Nat} {w0 W W' : World} {v : Value} {l : List ByteArray} {row : Option Nat} (h : OS Bx w0 W v l) (hg : W.grownBy W' row) (hne : v.ownBlock = none ∨ v.ownBlock ≠ row) : OS Bx W' W' v l := ⟨World.ownsRow.kept h.1 hg hne, Below.refl _ _, Nat.le_trans h.2.2 hg.size⟩
theorem OS.ssB {Bx : Nat} {w0 W : World} {v : Value} {l : List ByteArray} (h : OS Bx w0 W v l) (hl : l.length ≤ 1100000) : ∃ g, SS W v g 0 l ∧ Bx ≤ g := by
  obtain ⟨g, a, cap, hv, h2, h3, h4⟩ := h.ss hl
  by_cases h0 : 0 < l.length
  · refine ⟨g, ⟨a, cap, hv, h2, h3, h4⟩, ?_⟩
    have e := h3 h0
    subst e
    exact (h.1.lt g (by rw [hv]; rfl)).1
  · exact ⟨Bx, ⟨a, cap, hv, h2, fun k => absurd k h0, fun j hj => absurd hj (by omega)⟩, Nat.le_refl _⟩
/-- one text of a row put in its place -/
theorem OS.elem {Bx : Nat} {w0 W : World} {gs c : Nat} {l : List ByteArray} (h : OS Bx w0 W (.slice (some ⟨gs, 0, none⟩) l.length c) l) (j : Nat) (t : ByteArray) : OS Bx (W.setCell ⟨gs, j, none⟩ (.string t)) (W.setCell ⟨gs, j, none⟩ (.string t)) (.slice (some ⟨gs, 0, none⟩) (l.set j t).length c) (l.set j t) := by
  have hz := h.2.2
  refine ⟨⟨by simp [svs], ?_⟩, Below.refl _ _, by simpa using hz⟩
  rcases h.1.2 with ⟨hv, _⟩ | ⟨g, cap, cur, hv, hbg, hg, h5, h6, h7, h8⟩
  · cases hv
  · obtain ⟨rfl, rfl⟩ : gs = g ∧ c = cap := by simpa using hv
    refine .inr ⟨gs, c, cur.setIfInBounds j (.string t), by simp, hbg, heap_setCell_same W gs j cur _ _ hg, by simpa using h5, h6, by simpa using h7, ?_⟩
    simp only [List.length_set, Array.toList_setIfInBounds, List.take_set, h8]
    simp [svs, List.map_set]

theorem OS.cellS {Bx : Nat} {w0 W : World} {gs c : Nat} {l : List ByteArray} (h : OS Bx w0 W (.slice (some ⟨gs, 0, none⟩) l.length c) l) (j : Nat) (hj : j < l.length) : (∃ u, W.cell? ⟨gs, j, none⟩ = some u) ∧ W.frozen? ⟨gs, j, none⟩ = false := by
  rcases h.1.2 with ⟨hv, _⟩ | ⟨g, cap, cur, hv, hbg, hg, h5, h6, h7, h8⟩
  · cases hv
  · obtain ⟨rfl, rfl⟩ : gs = g ∧ c = cap := by simpa using hv
    refine ⟨⟨cur[j]'(by omega), ?_⟩, by simp [World.frozen?, hg]⟩
    rw [cell_of_row W gs j _ _ _ hg]
    exact Array.getElem?_eq_getElem _
theorem rep_size (n : Nat) (x : UInt8) : (⟨(List.replicate n x).toArray⟩ : ByteArray).size = n := by simp [ByteArray.size]
theorem DpF.bucket {nm : ByteArray} {B : List Le} {S : List ByteArray} {f : Le} (h : DpF 30 nm B S) (h1 : f.n.size ≤ 12) (h2 : f.v.size ≤ 12) : DpF 40 nm (B ++ [f]) S := ⟨h.1, ⟨h.2.1.1.add h1 h2, by have := h.2.1.2; simp; omega⟩, by have := h.2.2.1; omega, h.2.2.2⟩
theorem DpF.elem {nm : ByteArray} {B : List Le} {S : List ByteArray} {t : ByteArray} (h : DpF 30 nm B S) (ht : t.size ≤ 64) (j : Nat) : DpF 40 nm B (S.set j t) := ⟨h.1, ⟨h.2.1.1, by have := h.2.1.2; omega⟩, by have := h.2.2.1; simp; omega, fun s hs => by
  rcases List.mem_or_eq_of_mem_set hs with h0 | rfl
  · exact h.2.2.2 s h0
  · exact ht⟩
theorem DpF.sides {nm : ByteArray} {B : List Le} {S : List ByteArray} {t : ByteArray} (h : DpF 30 nm B S) (ht : t.size ≤ 64) : DpF 40 nm B (S ++ [t, ⟨#[120]⟩]) := ⟨h.1, ⟨h.2.1.1, by have := h.2.1.2; omega⟩, by have := h.2.2.1; simp; omega, fun s hs => by
  rcases List.mem_append.1 hs with h0 | h0
  · exact h.2.2.2 s h0
  · simp at h0
    rcases h0 with rfl | rfl
    · exact ht
    · decide⟩
theorem DpF.name {nm n : ByteArray} {B : List Le} {S : List ByteArray} (h : DpF 30 nm B S) (hn : n.size ≤ 12) : DpF 40 n B S := ⟨hn, ⟨h.2.1.1, by have := h.2.1.2; omega⟩, by have := h.2.2.1; omega, h.2.2.2⟩
def otL : List ByteArray := [⟨#[]⟩, ⟨#[111, 116, 104, 101, 114]⟩]
def otC : Array Value := #[.string ⟨#[]⟩, .string ⟨#[111, 116, 104, 101, 114]⟩]
theorem ot_at (w : World) : Hid (∀ j, (h : j < otL.length) → (w.alloc (.cells otC 9)).cell? ⟨w.heap.size, j, none⟩ = some (.string otL[j])) := by
  intro j hj
  rw [World.cell?_alloc_at _ _ _ _ rfl]
  have : j = 0 ∨ j = 1 := by simp [otL] at hj; omega
  rcases this with rfl | rfl <;> rfl
theorem ot_ok : ∀ y ∈ otL, y.size ≤ 12 := by decide +kernel

/-- what l11Any keeps: the cursor, the box of the answer, the proof in its box, its rows -/
def TkI (b0 : Nat) (w0 w : World) (g : Nat) (v : Value) (r gp Bx : Nat) (vb vs : Value) (B : List Le) (S : List ByteArray) (W : World) : Prop :=
  Cur b0 w0 W g v ∧ PfM W r (.slice none 0 0) (.slice none 0 0) ∧ PfM W gp vb vs ∧ OL Bx W W vb B ∧ OS Bx W W vs S ∧ (g < r ∧ r < gp ∧ gp < Bx) ∧ w.grownBy W (some g) ∧ w.heap.size ≤ r
/-- what is answered of it -/
def DpP (b0 : Nat) (w0 w : World) (g : Nat) (v : Value) (e : Ending) (w' : World) : Prop := ∃ (nm : ByteArray) (vb vs : Value) (gb gs : Nat) (B : List Le) (S : List ByteArray), e = .returned (.tuple #[.string nm, .agg #[vb, vs]]) ∧ DpF 40 nm B S ∧ RS 2 lcs w' vb gb 0 B ∧ SS w' vs gs 0 S ∧ (g < gb ∧ g < gs) ∧ Cur b0 w0 w' g v ∧ w.grownBy w' (some g)
section
variable {b0 : Nat} {w0 w : World} {g : Nat} {v : Value} {r gp Bx : Nat} {vb vs : Value} {B : List Le} {S : List ByteArray} {W W' : World}
theorem TkI.later (h : TkI b0 w0 w g v r gp Bx vb vs B S W) (hb : Below W.heap.size W W') : TkI b0 w0 w g v r gp Bx vb vs B S W' := by
  obtain ⟨h1, h2, h3, h4, h5, h6, h7, h8⟩ := h
  exact ⟨h1.kept (grown_below (row := none) hb) (by simp) h1.size (fun k hk => by cases hk), h2.later hb, h3.later hb, (h4.later hb).self, ⟨(h5.later hb).1, Below.refl _ _, (h5.later hb).2.2⟩, h6, h7.trans (grown_below (row := some g) hb), h8⟩
theorem TkI.drawn (h : TkI b0 w0 w g v r gp Bx vb vs B S W) (hc : Cur b0 w0 W' g v) (hg : W.grownBy W' (some g)) : TkI b0 w0 w g v r gp Bx vb vs B S W' := by
  obtain ⟨h1, h2, h3, h4, h5, ⟨h6, h7, h8⟩, h9, h0⟩ := h
  exact ⟨hc, h2.gr hg (by simp; omega), h3.gr hg (by simp; omega), h4.keptS hg (.inr (own_gt h4.1 (by omega))), h5.keptS hg (.inr (own_gt h5.1 (by omega))), ⟨h6, h7, h8⟩, h9.trans hg, h0⟩
/-- a block from Bx on changed, which is neither of the rows -/
theorem TkI.own (h : TkI b0 w0 w g v r gp Bx vb vs B S W) {row : Option Nat} (hg : W.grownBy W' row) (hr : ∀ q, row = some q → Bx ≤ q) : Cur b0 w0 W' g v ∧ PfM W' r (.slice none 0 0) (.slice none 0 0) ∧ PfM W' gp vb vs ∧ w.grownBy W' (some g) := by
  obtain ⟨h1, h2, h3, h4, h5, ⟨h6, h7, h8⟩, h9, h0⟩ := h
  have nb : ∀ q, q < Bx → some q ≠ row := fun q hq e => by have := hr q e.symm; omega
  exact ⟨h1.kept hg (nb g (by omega)) h1.size (fun k hk => by have := hr k hk; have := h1.size; have := h1.1; omega), h2.gr hg (nb r (by omega)), h3.gr hg (nb gp (by omega)), gb_new h9 hg (fun q hq => by have := hr q hq; omega)⟩
/-- the proof's box written -/
theorem TkI.box0 (hc : Cur b0 w0 W g v) (h2 : PfM W r (.slice none 0 0) (.slice none 0 0)) (h3 : PfM W gp vb vs) (h9 : w.grownBy W (some g)) {vb' : Value} {B' : List Le} (h4 : OL Bx W W vb' B') (h5 : OS Bx W W vs S) (h6 : g < r ∧ r < gp ∧ gp < Bx) (h0 : w.heap.size ≤ r) : TkI b0 w0 w g v r gp Bx vb' vs B' S (W.setCell ⟨gp, 0, none⟩ vb') := by
  have hs := grown_set W gp 0 vb'
  have hB := hc.1
  exact ⟨hc.kept hs (by simp; omega) hc.size (fun k hk => by simp at hk; omega), h2.gr hs (by simp; omega), h3.set0 _, h4.keptS hs (.inr (own_gt h4.1 h6.2.2)), h5.keptS hs (.inr (own_gt h5.1 h6.2.2)), h6, gb_new h9 hs (fun q hq => by simp at hq; omega), h0⟩
theorem TkI.box1 (hc : Cur b0 w0 W g v) (h2 : PfM W r (.slice none 0 0) (.slice none 0 0)) (h3 : PfM W gp vb vs) (h9 : w.grownBy W (some g)) {vs' : Value} {S' : List ByteArray} (h4 : OL Bx W W vb B) (h5 : OS Bx W W vs' S') (h6 : g < r ∧ r < gp ∧ gp < Bx) (h0 : w.heap.size ≤ r) : TkI b0 w0 w g v r gp Bx vb vs' B S' (W.setCell ⟨gp, 1, none⟩ vs') := by
  have hs := grown_set W gp 1 vs'
  have hB := hc.1
  exact ⟨hc.kept hs (by simp; omega) hc.size (fun k hk => by simp at hk; omega), h2.gr hs (by simp; omega), h3.set1 _, h4.keptS hs (.inr (own_gt h4.1 h6.2.2)), h5.keptS hs (.inr (own_gt h5.1 h6.2.2)), h6, gb_new h9 hs (fun q hq => by simp at hq; omega), h0⟩
/-- the bucket grown -/
theorem TkI.bucket (h : TkI b0 w0 w g v r gp Bx vb vs B S W) {wx : World} {u : Value} {B' : List Le} (ho : OL Bx wx W' u B') (hg : W.grownBy W' vb.ownBlock) : TkI b0 w0 w g v r gp Bx u vs B' S (W'.setCell ⟨gp, 0, none⟩ u) := by
  obtain ⟨c1, p2, p3, k1⟩ := h.own hg (fun q hq => (h.2.2.2.1.1.lt q hq).1)
  obtain ⟨h1, h2, h3, h4, h5, h6, h7, h8⟩ := h
  have s5 : OS Bx W' W' vs S := h5.keptS hg (by
    cases hv : vs.ownBlock with
    | none => exact .inl rfl
    | some q => exact .inr (fun he => h4.neF h5 hv he.symm))
  exact TkI.box0 c1 p2 p3 k1 ho.self s5 h6 h8
/-- the sides grown -/
theorem TkI.sides (h : TkI b0 w0 w g v r gp Bx vb vs B S W) {wx : World} {u : Value} {S' : List ByteArray} (ho : OS Bx wx W' u S') (hg : W.grownBy W' vs.ownBlock) : TkI b0 w0 w g v r gp Bx vb u B S' (W'.setCell ⟨gp, 1, none⟩ u) := by
  obtain ⟨c1, p2, p3, k1⟩ := h.own hg (fun q hq => (h.2.2.2.2.1.1.lt q hq).1)
  obtain ⟨h1, h2, h3, h4, h5, h6, h7, h8⟩ := h
  have s4 : OL Bx W' W' vb B := h4.keptS hg (by
    cases hv : vs.ownBlock with
    | none =>
      cases hw : vb.ownBlock with
      | none => exact .inl rfl
      | some q => exact .inr (by simp)
    | some q => exact .inr (h4.neF h5 hv))
  exact TkI.box1 c1 p2 p3 k1 s4 ⟨ho.1, Below.refl _ _, ho.2.2⟩ h6 h8
/-- one side put in its place -/
theorem TkI.elem {gs c : Nat} (h : TkI b0 w0 w g v r gp Bx vb (.slice (some ⟨gs, 0, none⟩) S.length c) B S W) (j : Nat) (t : ByteArray) : TkI b0 w0 w g v r gp Bx vb (.slice (some ⟨gs, 0, none⟩) S.length c) B (S.set j t) (W.setCell ⟨gs, j, none⟩ (.string t)) := by
  have hs := grown_set W gs j (.string t)
  obtain ⟨c1, p2, p3, k1⟩ := h.own hs (fun q hq => (h.2.2.2.2.1.1.lt q (by rw [← hq]; rfl)).1)
  obtain ⟨h1, h2, h3, h4, h5, h6, h7, h8⟩ := h
  have h9 := h5.elem j t
  rw [List.length_set] at h9
  exact ⟨c1, p2, p3, h4.keptS hs (.inr (h4.neF h5 rfl)), h9, h6, k1, h8⟩
/-- its end: the proof copied to the answer's box -/
theorem tk_end (h : TkI b0 w0 w g v r gp Bx vb vs B S W) {nm : ByteArray} (hp : DpF 40 nm B S) : PfM ((W.setCell ⟨r, 0, none⟩ vb).setCell ⟨r, 1, none⟩ vs) r vb vs ∧ DpP b0 w0 w g v (.returned (.tuple #[.string nm, .agg #[vb, vs]])) ((W.setCell ⟨r, 0, none⟩ vb).setCell ⟨r, 1, none⟩ vs) := by
  obtain ⟨h1, h2, h3, h4, h5, ⟨h6, h7, h8⟩, h9, h0⟩ := h
  have s1 := grown_set W r 0 vb
  have s2 := grown_set (W.setCell ⟨r, 0, none⟩ vb) r 1 vs
  have hB := h1.1
  have c1 := h1.kept s1 (by simp; omega) h1.size (fun k hk => by simp at hk; omega)
  have c2 := c1.kept s2 (by simp; omega) c1.size (fun k hk => by simp at hk; omega)
  have k1 := gb_new h9 s1 (fun q hq => by simp at hq; omega)
  have k2 := gb_new k1 s2 (fun q hq => by simp at hq; omega)
  have l1 := (h4.keptS s1 (.inr (own_gt h4.1 (by omega)))).keptS s2 (.inr (own_gt h4.1 (by omega)))
  have l2 := (h5.keptS s1 (.inr (own_gt h5.1 (by omega)))).keptS s2 (.inr (own_gt h5.1 (by omega)))
  obtain ⟨gb, hb, hgb, _⟩ := l1.rw (by have := hp.2.1.2; omega)
  obtain ⟨gs, hs, hgs⟩ := l2.ssB (by have := hp.2.2.1; omega)
  exact ⟨(h2.set0 vb).set1 vs, nm, vb, vs, gb, gs, B, S, rfl, hp, hb.1, hs, ⟨by omega, by omega⟩, c2, k2⟩
theorem DpP.drew {e : Ending} (h : DpP b0 w0 w g v e W) : DpP b0 w0 w g v e W.drew := by
  obtain ⟨nm, vb, vs, gb, gs, B, S, h1, h2, h3, h4, h5, h6, h7⟩ := h
  exact ⟨nm, vb, vs, gb, gs, B, S, h1, h2, h3, h4, h5, h6.kept (grown_below (row := none) (Below.refl _ _).drew) (by simp) h6.size (fun k hk => by cases hk), h7.trans (grown_below (row := some g) (Below.refl _ _).drew)⟩
end

set_option maxRecDepth 100000 in
set_option maxHeartbeats 4000000 in
theorem l11Any_in (b0 : Nat) (w0 w : World) (g : Nat) (v : Value) (x : Int) (hx : 1 ≤ x ∧ x ≤ 32) (hc : Cur b0 w0 w g v) :
    Calls Tryz.prog 49 #[.pointer (some ⟨g, 0, none⟩), .int .i64 x] w (DpP b0 w0 w g v) := by
  have hB := hc.size
  have hlt := hc.lt
  have hcA : Cur b0 w0 (w.alloc (.cells #[.slice none 0 0, .slice none 0 0] 43)) g v := hc.kept (World.grownBy_alloc w _ none) (by simp) hB (fun k hk => by cases hk)
  have hpR := PfM.new w (.slice none 0 0) (.slice none 0 0)
  obtain ⟨r, hr⟩ : ∃ r, w.heap.size = r := ⟨_, rfl⟩
  have hrg : some r ≠ some g := by simp; omega
  rw [hr] at hpR
  go_enter Tryz.func49, Tryz.ntmps49
  go_wp2_with fail
  refine (l01Below_in b0 w0 _ g v 12 12 rfl hcA (by omega) (by omega)).mono ?_
  rintro e w1 ⟨k, hk, rfl, hc1, hg1⟩
  have p1 := hpR.gr hg1 hrg
  have k1 := (World.grownBy_alloc w (.cells #[.slice none 0 0, .slice none 0 0] 43) (some g)).trans hg1
  clear hcA hpR hg1
  go_wp2_with fail
  refine (l01Below_in b0 w0 _ g v 60 60 rfl hc1 (by omega) (by omega)).mono ?_
  rintro e w2 ⟨y, hy, rfl, hc2, hg2⟩
  have p2 := p1.gr hg2 hrg
  have k2 := k1.trans hg2
  clear p1 k1 hc1 hg2
  go_wp2_with fail
  refine (l11Proof_in b0 w0 _ g v x hx hc2).mono ?_
  rintro e w3 ⟨nm, ab, cb, aS, cS, gb, gs, B, S, rfl, hpf, hrb, hss, ⟨n1, n2⟩, hc3, hg3⟩
  have p3 := p2.gr hg3 hrg
  have k3 := k2.trans hg3
  have hpn := PfM.new w3 (.slice none 0 0) (.slice none 0 0)
  clear p2 k2 hc2 hg3
  go_wp2_with (first | (refine wp_loadPf rfl _ rfl w3.heap.size _ _ rfl hfin ?_) | (refine wp_storePf rfl _ _ rfl w3.heap.size _ _ (.slice ab B.length cb) (.slice aS S.length cS) hpn rfl rfl rfl rfl ?_; intro hfin))
  have hbx : Below w3.heap.size w3 ((w3.alloc (.cells #[.slice none 0 0, .slice none 0 0] 43)).setRow w3.heap.size #[.slice ab B.length cb, .slice aS S.length cS]) := below_setRow ((Below.refl _ _).alloc (Nat.le_refl _) _) (Nat.le_refl _)
  have hgr := p3.lt
  have p4 := p3.later hbx
  have k4 := k3.trans (grown_below (row := some g) hbx)
  have hc4 := hc3.kept (grown_below (row := none) hbx) (by simp) hc3.size (fun k hk => by cases hk)
  have hrb4 := hrb.later hbx
  have hss4 := hss.below hbx hss.lt
  obtain ⟨gp, hgp⟩ : ∃ gp, w3.heap.size = gp := ⟨_, rfl⟩
  rw [hgp] at hfin p4 k4 hc4 hrb4 hss4 ⊢
  rw [hgp] at hgr
  clear hpn hbx hrb hss hc3 p3 k3
  generalize (w3.alloc (.cells #[.slice none 0 0, .slice none 0 0] 43)).setRow gp #[.slice ab B.length cb, .slice aS S.length cS] = w4 at *
  clear hgp
  refine (l11Copy_own ab cb aS cS gb gs B S w4 hrb4 hss4 n1 n2 (by have := hpf.2.1.2; omega) (by have := hpf.2.2.1; omega)).mono ?_
  rintro e w5 ⟨a5, c5, a6, c6, rfl, ho5, hs5⟩
  have hb5 := ho5.2.1
  have hlt4 := hfin.lt
  have q5 := hfin.later hb5
  have HI : Hid (TkI b0 w0 w g v r gp w4.heap.size (.slice a5 B.length c5) (.slice a6 S.length c6) B S (w5.setRow gp #[.slice a5 B.length c5, .slice a6 S.length c6])) := by
    have hs := grown_setRowP w5 gp #[.slice a5 B.length c5, .slice a6 S.length c6]
    have c5' := hc4.kept (grown_below (row := none) hb5) (by simp) hc4.size (fun k hk => by cases hk)
    have hB' := hc4.1
    exact ⟨c5'.kept hs (by simp; omega) c5'.size (fun k hk => by simp at hk; omega), (p4.later hb5).gr hs (by simp; omega), setRow_heap w5 gp _ _ _ _ q5, ho5.keptS hs (.inr (own_gt ho5.1 (by omega))), hs5.keptS hs (.inr (own_gt hs5.1 (by omega))), ⟨by omega, by omega, by omega⟩, gb_new (k4.trans (grown_below (row := some g) hb5)) hs (fun q hq => by simp at hq; omega), by omega⟩
  clear hc4 p4 k4 hrb4 hss4 n1 n2 ho5 hs5 hb5 hfin hlt4
  have hkk : k = 0 ∨ k = 1 ∨ (¬ (k : Int) = 0 ∧ ¬ (k : Int) = 1 ∧ (k : Int) = 2) ∨ (¬ (k : Int) = 0 ∧ ¬ (k : Int) = 1 ∧ ¬ (k : Int) = 2 ∧ (k : Int) = 3) ∨ (¬ (k : Int) = 0 ∧ ¬ (k : Int) = 1 ∧ ¬ (k : Int) = 2 ∧ ¬ (k : Int) = 3) := by omega
  have hne : gp ≠ r := by omega
  rcases hkk with rfl | rfl | ⟨h0, h1, h2⟩ | ⟨h0, h1, h2, h3⟩ | ⟨h0, h1, h2, h3⟩
  · go_wp2_with (refine wp_storePf rfl _ _ rfl gp _ _ (.slice a5 B.length c5) (.slice a6 S.length c6) q5 rfl rfl rfl rfl ?_; intro hq; generalize w5.setRow gp #[.slice a5 B.length c5, .slice a6 S.length c6] = w6 at HI hq ⊢; have z0 := hq.c0; have z1 := hq.c1)
    have HD : Hid (TkI b0 w0 w g v r gp w4.heap.size (.slice a5 B.length c5) (.slice a6 S.length c6) B S w6.drew) := HI.out.later (Below.refl _ _).drew
    clear HI hq z1
    refine wp_region_held_drew (S := fun _ => True) (by kernel_rfl) trivial (fun hH => ?_)
    refine wpAnyH_take (i := 0) (v := .pointer (some ⟨gp, 0, none⟩)) rfl (by kernel_rfl) (by kernel_rfl) (by kernel_rfl) (fun _ _ _ h => h) (Or.inl ⟨by rfl, fun w hw => by go_simp⟩) hH ?_
    simp only [Act.put, List.setIfInBounds_toArray, List.set_cons_zero, List.set_cons_succ]
    refine wpAnyH_take (i := 2) (v := .pointer (some ⟨g, 0, none⟩)) rfl (by kernel_rfl) (by kernel_rfl) (by kernel_rfl) (fun _ _ _ h => h) (Or.inl ⟨by rfl, fun w hw => by go_simp⟩) hH ?_
    simp only [Act.put, List.setIfInBounds_toArray, List.set_cons_zero, List.set_cons_succ]
    refine wpAnyH_ready (rs := [1, 3]) (by kernel_rfl) (by simp) ?_
    refine AllReadyH.cons rfl (fun K' hK' => ?_) (AllReadyH.cons rfl (fun K' hK' => ?_) AllReadyH.nil)
    · go_simp
      refine hK'.out _ _ trivial (fun hH => ?_)
      refine wpAnyH_ready (rs := [3]) (by kernel_rfl) (by simp) ?_
      refine AllReadyH.cons rfl (fun K' hK' => ?_) AllReadyH.nil
      go_simp
      go_at_call 83
      refine (l04Name_in b0 w0 _ g v HD.out.1).mono ?_
      rintro e w7 ⟨n7, hn7, rfl, hc7, hg7⟩
      have H7 : Hid (TkI b0 w0 w g v r gp w4.heap.size (.slice a5 B.length c5) (.slice a6 S.length c6) B S w7) := HD.out.drawn hc7 hg7
      have HRN := leaf_new w7 ⟨n7, ⟨#[118]⟩⟩
      have HOA := H7.out.2.2.2.1.beside ⟨n7, ⟨#[118]⟩⟩
      have x7 := H7.out.2.2.1.c0
      have y7 := cell_up x7 ((Below.refl w7.heap.size w7).alloc (Nat.le_refl _) (.cells #[.string n7, .string ⟨#[118]⟩] 34))
      clear hc7 hg7
      go_wp2_with fail
      refine hK'.out _ _ trivial (fun hH => ?_)
      refine wpAnyH_take (i := 4) (v := .agg #[.string n7, .string ⟨#[118]⟩]) rfl (by kernel_rfl) (by kernel_rfl) (by kernel_rfl) (fun _ _ _ h => h) (Or.inl ⟨by rfl, fun w hw => by go_simp⟩) hH ?_
      simp only [Act.put, List.setIfInBounds_toArray, List.set_cons_zero, List.set_cons_succ]
      refine wpAnyH_ready (rs := [5]) (by kernel_rfl) (by simp) ?_
      refine AllReadyH.cons rfl (fun K' hK' => ?_) AllReadyH.nil
      go_simp
      refine hK'.out _ _ trivial (fun hH => ?_)
      refine wpAnyH_ready (rs := [6]) (by kernel_rfl) (by simp) ?_
      refine AllReadyH.cons rfl (fun K' hK' => ?_) AllReadyH.nil
      refine step_leafL rfl _ _ rfl w4.heap.size w7 (.slice a5 B.length c5) B ⟨n7, ⟨#[118]⟩⟩ (by rfl) HOA w7.heap.size (by rfl) HRN.out (by have := hpf.2.1.2; omega) ?_
      intro g8 cap8 w8 ho8 hg8 hl8
      have HJ : Hid (TkI b0 w0 w g v r gp w4.heap.size (.slice a5 B.length c5) (.slice a6 S.length c6) B S (w7.alloc (.cells #[.string n7, .string ⟨#[118]⟩] 34))) := H7.out.later ((Below.refl _ _).alloc (Nat.le_refl _) _)
      have p8 := (HJ.out.own hg8 (fun q hq => (HJ.out.2.2.2.1.1.lt q hq).1)).2.2.1
      have x0 := p8.c0
      have x1 := p8.fr 0
      have HF : Hid (TkI b0 w0 w g v r gp w4.heap.size (.slice (some ⟨g8, 0, none⟩) (B.length + 1) cap8) (.slice a6 S.length c6) (B ++ [⟨n7, ⟨#[118]⟩⟩]) S (w8.setCell ⟨gp, 0, none⟩ (.slice (some ⟨g8, 0, none⟩) (B.length + 1) cap8))) := HJ.out.bucket ho8 hg8
      clear HJ p8 ho8 hg8 hl8 HOA HRN H7 x7 y7
      refine hK'.out _ _ trivial (fun hH => ?_)
      simp only [Act.put, List.setIfInBounds_toArray, List.set_cons_zero, List.set_cons_succ]
      refine wpAnyH_take (i := 7) (v := .pointer (some ⟨gp, 0, none⟩)) rfl (by kernel_rfl) (by kernel_rfl) (by kernel_rfl) (fun _ _ _ h => h) (Or.inl ⟨by rfl, fun w hw => by go_simp⟩) hH ?_
      simp only [Act.put, List.setIfInBounds_toArray, List.set_cons_zero, List.set_cons_succ]
      refine wpAnyH_ready (rs := [8]) (by kernel_rfl) (by simp) ?_
      refine AllReadyH.cons rfl (fun K' hK' => ?_) AllReadyH.nil
      go_simp
      refine hK'.out _ _ trivial (fun hH => ?_)
      refine wpAnyH_done (by kernel_rfl) ?_ _
      clear x0 x1 hH
      generalize w8.setCell ⟨gp, 0, none⟩ (.slice (some ⟨g8, 0, none⟩) (B.length + 1) cap8) = w9 at HF ⊢
      go_wp2_with fail
      have HE : Hid _ := tk_end HF.out (hpf.bucket (nameL_ok n7 hn7).2 (by show (⟨#[118]⟩ : ByteArray).size ≤ 12; decide))
      have t0 := HF.out.2.1.c0
      have t1 := HF.out.2.1.c1
      have f0 := HF.out.2.1.fr 0
      have f1 := HF.out.2.1.fr 1
      have d0 := HF.out.2.2.1.c0
      have d1 := HF.out.2.2.1.c1
      clear HF
      go_region
      generalize (w9.setCell ⟨r, 0, none⟩ (.slice (some ⟨g8, 0, none⟩) (B.length + 1) cap8)).setCell ⟨r, 1, none⟩ (.slice a6 S.length c6) = wF at HE ⊢
      clear t0 t1 f0 f1 d0 d1
      go_wp2
      exact ret_tpf 4 5 r (.string nm) _ _ rfl rfl rfl rfl HE.out.1 HE.out.2.drew
    · go_simp
      go_at_call 83
      refine (l04Name_in b0 w0 _ g v HD.out.1).mono ?_
      rintro e w7 ⟨n7, hn7, rfl, hc7, hg7⟩
      have H7 : Hid (TkI b0 w0 w g v r gp w4.heap.size (.slice a5 B.length c5) (.slice a6 S.length c6) B S w7) := HD.out.drawn hc7 hg7
      have HRN := leaf_new w7 ⟨n7, ⟨#[118]⟩⟩
      have HOA := H7.out.2.2.2.1.beside ⟨n7, ⟨#[118]⟩⟩
      have x7 := H7.out.2.2.1.c0
      have y7 := cell_up x7 ((Below.refl w7.heap.size w7).alloc (Nat.le_refl _) (.cells #[.string n7, .string ⟨#[118]⟩] 34))
      clear hc7 hg7
      go_wp2_with fail
      refine hK'.out _ _ trivial (fun hH => ?_)
      refine wpAnyH_take (i := 4) (v := .agg #[.string n7, .string ⟨#[118]⟩]) rfl (by kernel_rfl) (by kernel_rfl) (by kernel_rfl) (fun _ _ _ h => h) (Or.inl ⟨by rfl, fun w hw => by go_simp⟩) hH ?_
      simp only [Act.put, List.setIfInBounds_toArray, List.set_cons_zero, List.set_cons_succ]
      refine wpAnyH_ready (rs := [1, 5]) (by kernel_rfl) (by simp) ?_
      refine AllReadyH.cons rfl (fun K' hK' => ?_) (AllReadyH.cons rfl (fun K' hK' => ?_) AllReadyH.nil)
      · go_simp
        refine hK'.out _ _ trivial (fun hH => ?_)
        refine wpAnyH_ready (rs := [5]) (by kernel_rfl) (by simp) ?_
        refine AllReadyH.cons rfl (fun K' hK' => ?_) AllReadyH.nil
        go_simp
        refine hK'.out _ _ trivial (fun hH => ?_)
        refine wpAnyH_ready (rs := [6]) (by kernel_rfl) (by simp) ?_
        refine AllReadyH.cons rfl (fun K' hK' => ?_) AllReadyH.nil
        refine step_leafL rfl _ _ rfl w4.heap.size w7 (.slice a5 B.length c5) B ⟨n7, ⟨#[118]⟩⟩ (by rfl) HOA w7.heap.size (by rfl) HRN.out (by have := hpf.2.1.2; omega) ?_
        intro g8 cap8 w8 ho8 hg8 hl8
        have HJ : Hid (TkI b0 w0 w g v r gp w4.heap.size (.slice a5 B.length c5) (.slice a6 S.length c6) B S (w7.alloc (.cells #[.string n7, .string ⟨#[118]⟩] 34))) := H7.out.later ((Below.refl _ _).alloc (Nat.le_refl _) _)
        have p8 := (HJ.out.own hg8 (fun q hq => (HJ.out.2.2.2.1.1.lt q hq).1)).2.2.1
        have x0 := p8.c0
        have x1 := p8.fr 0
        have HF : Hid (TkI b0 w0 w g v r gp w4.heap.size (.slice (some ⟨g8, 0, none⟩) (B.length + 1) cap8) (.slice a6 S.length c6) (B ++ [⟨n7, ⟨#[118]⟩⟩]) S (w8.setCell ⟨gp, 0, none⟩ (.slice (some ⟨g8, 0, none⟩) (B.length + 1) cap8))) := HJ.out.bucket ho8 hg8
        clear HJ p8 ho8 hg8 hl8 HOA HRN H7 x7 y7
        refine hK'.out _ _ trivial (fun hH => ?_)
        simp only [Act.put, List.setIfInBounds_toArray, List.set_cons_zero, List.set_cons_succ]
        refine wpAnyH_take (i := 7) (v := .pointer (some ⟨gp, 0, none⟩)) rfl (by kernel_rfl) (by kernel_rfl) (by kernel_rfl) (fun _ _ _ h => h) (Or.inl ⟨by rfl, fun w hw => by go_simp⟩) hH ?_
        simp only [Act.put, List.setIfInBounds_toArray, List.set_cons_zero, List.set_cons_succ]
        refine wpAnyH_ready (rs := [8]) (by kernel_rfl) (by simp) ?_
        refine AllReadyH.cons rfl (fun K' hK' => ?_) AllReadyH.nil
        go_simp
        refine hK'.out _ _ trivial (fun hH => ?_)
        refine wpAnyH_done (by kernel_rfl) ?_ _
        clear x0 x1 hH
        generalize w8.setCell ⟨gp, 0, none⟩ (.slice (some ⟨g8, 0, none⟩) (B.length + 1) cap8) = w9 at HF ⊢
        go_wp2_with fail
        have HE : Hid _ := tk_end HF.out (hpf.bucket (nameL_ok n7 hn7).2 (by show (⟨#[118]⟩ : ByteArray).size ≤ 12; decide))
        have t0 := HF.out.2.1.c0
        have t1 := HF.out.2.1.c1
        have f0 := HF.out.2.1.fr 0
        have f1 := HF.out.2.1.fr 1
        have d0 := HF.out.2.2.1.c0
        have d1 := HF.out.2.2.1.c1
        clear HF
        go_region
        generalize (w9.setCell ⟨r, 0, none⟩ (.slice (some ⟨g8, 0, none⟩) (B.length + 1) cap8)).setCell ⟨r, 1, none⟩ (.slice a6 S.length c6) = wF at HE ⊢
        clear t0 t1 f0 f1 d0 d1
        go_wp2
        exact ret_tpf 4 5 r (.string nm) _ _ rfl rfl rfl rfl HE.out.1 HE.out.2.drew
      · go_simp
        refine hK'.out _ _ trivial (fun hH => ?_)
        refine wpAnyH_ready (rs := [1]) (by kernel_rfl) (by simp) ?_
        refine AllReadyH.cons rfl (fun K' hK' => ?_) AllReadyH.nil
        go_simp
        refine hK'.out _ _ trivial (fun hH => ?_)
        refine wpAnyH_ready (rs := [6]) (by kernel_rfl) (by simp) ?_
        refine AllReadyH.cons rfl (fun K' hK' => ?_) AllReadyH.nil
        refine step_leafL rfl _ _ rfl w4.heap.size w7 (.slice a5 B.length c5) B ⟨n7, ⟨#[118]⟩⟩ (by rfl) HOA w7.heap.size (by rfl) HRN.out (by have := hpf.2.1.2; omega) ?_
        intro g8 cap8 w8 ho8 hg8 hl8
        have HJ : Hid (TkI b0 w0 w g v r gp w4.heap.size (.slice a5 B.length c5) (.slice a6 S.length c6) B S (w7.alloc (.cells #[.string n7, .string ⟨#[118]⟩] 34))) := H7.out.later ((Below.refl _ _).alloc (Nat.le_refl _) _)
        have p8 := (HJ.out.own hg8 (fun q hq => (HJ.out.2.2.2.1.1.lt q hq).1)).2.2.1
        have x0 := p8.c0
        have x1 := p8.fr 0
        have HF : Hid (TkI b0 w0 w g v r gp w4.heap.size (.slice (some ⟨g8, 0, none⟩) (B.length + 1) cap8) (.slice a6 S.length c6) (B ++ [⟨n7, ⟨#[118]⟩⟩]) S (w8.setCell ⟨gp, 0, none⟩ (.slice (some ⟨g8, 0, none⟩) (B.length + 1) cap8))) := HJ.out.bucket ho8 hg8
        clear HJ p8 ho8 hg8 hl8 HOA HRN H7 x7 y7
        refine hK'.out _ _ trivial (fun hH => ?_)
        simp only [Act.put, List.setIfInBounds_toArray, List.set_cons_zero, List.set_cons_succ]
        refine wpAnyH_take (i := 7) (v := .pointer (some ⟨gp, 0, none⟩)) rfl (by kernel_rfl) (by kernel_rfl) (by kernel_rfl) (fun _ _ _ h => h) (Or.inl ⟨by rfl, fun w hw => by go_simp⟩) hH ?_
        simp only [Act.put, List.setIfInBounds_toArray, List.set_cons_zero, List.set_cons_succ]
        refine wpAnyH_ready (rs := [8]) (by kernel_rfl) (by simp) ?_
        refine AllReadyH.cons rfl (fun K' hK' => ?_) AllReadyH.nil
        go_simp
        refine hK'.out _ _ trivial (fun hH => ?_)
        refine wpAnyH_done (by kernel_rfl) ?_ _
        clear x0 x1 hH
        generalize w8.setCell ⟨gp, 0, none⟩ (.slice (some ⟨g8, 0, none⟩) (B.length + 1) cap8) = w9 at HF ⊢
        go_wp2_with fail
        have HE : Hid _ := tk_end HF.out (hpf.bucket (nameL_ok n7 hn7).2 (by show (⟨#[118]⟩ : ByteArray).size ≤ 12; decide))
        have t0 := HF.out.2.1.c0
        have t1 := HF.out.2.1.c1
        have f0 := HF.out.2.1.fr 0
        have f1 := HF.out.2.1.fr 1
        have d0 := HF.out.2.2.1.c0
        have d1 := HF.out.2.2.1.c1
        clear HF
        go_region
        generalize (w9.setCell ⟨r, 0, none⟩ (.slice (some ⟨g8, 0, none⟩) (B.length + 1) cap8)).setCell ⟨r, 1, none⟩ (.slice a6 S.length c6) = wF at HE ⊢
        clear t0 t1 f0 f1 d0 d1
        go_wp2
        exact ret_tpf 4 5 r (.string nm) _ _ rfl rfl rfl rfl HE.out.1 HE.out.2.drew
  · by_cases hS : 0 < S.length
    · obtain ⟨g6, rfl⟩ : ∃ g6, a6 = some ⟨g6, 0, none⟩ := by
        rcases HI.out.2.2.2.2.1.shape with ⟨hv, hn⟩ | ⟨g6, cap, hv, _⟩
        · exact absurd hS (by simp [hn])
        · exact ⟨g6, by simp at hv; exact hv.1⟩
      obtain ⟨xn, rfl⟩ : ∃ n : Nat, x = n := ⟨x.toNat, by omega⟩
      obtain ⟨T, hT⟩ : ∃ T, (⟨(List.replicate xn (UInt8.ofNat y)).toArray⟩ : ByteArray) = T := ⟨_, rfl⟩
      have hTs : T.size ≤ 64 := by rw [← hT, rep_size]; omega
      have HL : Hid (∀ W, Calls Tryz.prog 103 #[.int .i64 (xn : Int), .int .u8 (y : Int)] W fun e w' => e = .returned (.string T) ∧ Below W.heap.size W w') := fun W => by rw [← hT]; exact l01Long_in _ xn (UInt8.ofNat y) _ W rfl (by simp; omega) (by omega)
      clear hT
      obtain ⟨j, hj⟩ : ∃ j, y % S.length = j := ⟨_, rfl⟩
      have hjl : j < S.length := by rw [← hj]; exact Nat.mod_lt _ hS
      have hmod : Int.tmod (y : Int) (S.length : Int) = (j : Int) := by rw [← hj]; simp [Int.tmod]
      have hS0 : ¬ (S.length : Int) = 0 := by omega
      have hS1 : ¬ S.length = 0 := by omega
      have hS2 : S ≠ [] := fun e => hS1 (by simp [e])
      have hS3 : ((S.length : Int) == 0) = false := by simp [hS2]
      have hwm : IntKind.i64.wrap (j : Int) = (j : Int) := IntWalk.i64_in _ (by have := hpf.2.2.1; omega)
      have hw8 : IntKind.u8.wrap (y : Int) = (y : Int) := IntWalk.u8_in _ (by omega)
      have hj0 : (0 : Int) ≤ (j : Int) := by omega
      have hj1 : (j : Int) < (S.length : Int) := by omega
      have hg6 : g6 ≠ gp := by have h1 := (HI.out.2.2.2.2.1.1.lt g6 rfl).1; have h2 := HI.out.2.2.2.2.2.1.2.2; omega
      have hg6' : gp ≠ g6 := fun e => hg6 e.symm
      go_wp2_with (refine wp_storePf rfl _ _ rfl gp _ _ (.slice a5 B.length c5) (.slice (some ⟨g6, 0, none⟩) S.length c6) q5 rfl rfl rfl rfl ?_; intro hq; generalize w5.setRow gp #[.slice a5 B.length c5, .slice (some ⟨g6, 0, none⟩) S.length c6] = w6 at HI hq ⊢; have z0 := hq.c0; have z1 := hq.c1)
      have HD : Hid (TkI b0 w0 w g v r gp w4.heap.size (.slice a5 B.length c5) (.slice (some ⟨g6, 0, none⟩) S.length c6) B S w6.drew) := HI.out.later (Below.refl _ _).drew
      clear HI hq z0
      go_region_held3 (fun W => W.cell? ⟨gp, 1, none⟩ = some (.slice (some ⟨g6, 0, none⟩) S.length c6)) (first | (go_keep; done) | exact H7.out.2.2.1.c1) (first | (go_at_call 103; refine (HL.out _).mono ?_; rintro e w7 ⟨rfl, hb7⟩; have H7 : Hid (TkI b0 w0 w g v r gp w4.heap.size (.slice a5 B.length c5) (.slice (some ⟨g6, 0, none⟩) S.length c6) B S w7) := HD.out.later hb7; obtain ⟨⟨u7, cu7⟩, fz7⟩ := H7.out.2.2.2.2.1.cellS j hjl) | fail)
      have HF : Hid (TkI b0 w0 w g v r gp w4.heap.size (.slice a5 B.length c5) (.slice (some ⟨g6, 0, none⟩) S.length c6) B (S.set j T) (w7.setCell ⟨g6, j, none⟩ (.string T))) := H7.out.elem j T
      clear HD H7 hb7 cu7 fz7 HL
      try rename_i hHeld
      try clear hHeld
      generalize w7.setCell ⟨g6, j, none⟩ (.string T) = w9 at HF ⊢
      clear hmod hS0 hS3 hw8 hj0 hj1 hwm
      go_wp2_with fail
      have HE : Hid _ := tk_end HF.out (hpf.elem hTs j)
      have t0 := HF.out.2.1.c0
      have t1 := HF.out.2.1.c1
      have f0 := HF.out.2.1.fr 0
      have f1 := HF.out.2.1.fr 1
      have d0 := HF.out.2.2.1.c0
      have d1 := HF.out.2.2.1.c1
      clear HF
      go_region
      generalize (w9.setCell ⟨r, 0, none⟩ (.slice a5 B.length c5)).setCell ⟨r, 1, none⟩ (.slice (some ⟨g6, 0, none⟩) S.length c6) = wF at HE ⊢
      clear t0 t1 f0 f1 d0 d1
      go_wp2
      exact ret_tpf 4 5 r (.string nm) _ _ rfl rfl rfl rfl HE.out.1 HE.out.2.drew
    · go_wp2_with (refine wp_storePf rfl _ _ rfl gp _ _ (.slice a5 B.length c5) (.slice a6 S.length c6) q5 rfl rfl rfl rfl ?_; intro hq; generalize w5.setRow gp #[.slice a5 B.length c5, .slice a6 S.length c6] = w6 at HI hq ⊢; have z0 := hq.c0; have z1 := hq.c1)
      clear hq z0 z1
      have HE : Hid _ := tk_end HI.out (hpf.name hpf.1)
      have t0 := HI.out.2.1.c0
      have t1 := HI.out.2.1.c1
      have f0 := HI.out.2.1.fr 0
      have f1 := HI.out.2.1.fr 1
      have d0 := HI.out.2.2.1.c0
      have d1 := HI.out.2.2.1.c1
      clear HI
      go_region
      generalize (w6.setCell ⟨r, 0, none⟩ (.slice a5 B.length c5)).setCell ⟨r, 1, none⟩ (.slice a6 S.length c6) = wF at HE ⊢
      clear t0 t1 f0 f1 d0 d1
      go_wp2
      exact ret_tpf 4 5 r (.string nm) _ _ rfl rfl rfl rfl HE.out.1 HE.out.2.drew
  · obtain ⟨xn, rfl⟩ : ∃ n : Nat, x = n := ⟨x.toNat, by omega⟩
    obtain ⟨T, hT⟩ : ∃ T, (⟨(List.replicate xn 97).toArray⟩ : ByteArray) = T := ⟨_, rfl⟩
    have hTs : T.size ≤ 64 := by rw [← hT, rep_size]; omega
    have HL : Hid (∀ W, Calls Tryz.prog 103 #[.int .i64 (xn : Int), .int .u8 97] W fun e w' => e = .returned (.string T) ∧ Below W.heap.size W w') := fun W => by rw [← hT]; exact l01Long_in _ xn 97 _ W rfl rfl (by omega)
    clear hT
    go_wp2_with (refine wp_storePf rfl _ _ rfl gp _ _ (.slice a5 B.length c5) (.slice a6 S.length c6) q5 rfl rfl rfl rfl ?_; intro hq; generalize w5.setRow gp #[.slice a5 B.length c5, .slice a6 S.length c6] = w6 at HI hq ⊢; have z0 := hq.c0; have z1 := hq.c1)
    have HD : Hid (TkI b0 w0 w g v r gp w4.heap.size (.slice a5 B.length c5) (.slice a6 S.length c6) B S w6.drew) := HI.out.later (Below.refl _ _).drew
    clear HI hq z0
    refine wp_region_held_drew (S := fun _ => True) (by kernel_rfl) trivial (fun hH => ?_)
    refine wpAnyH_take (i := 0) (v := .pointer (some ⟨gp, 1, none⟩)) rfl (by kernel_rfl) (by kernel_rfl) (by kernel_rfl) (fun _ _ _ h => h) (Or.inl ⟨by rfl, fun w hw => by go_simp⟩) hH ?_
    simp only [Act.put, List.setIfInBounds_toArray, List.set_cons_zero, List.set_cons_succ]
    refine wpAnyH_take (i := 2) (v := .int .i64 (xn : Int)) rfl (by kernel_rfl) (by kernel_rfl) (by kernel_rfl) (fun _ _ _ h => h) (Or.inl ⟨by rfl, fun w hw => by go_simp⟩) hH ?_
    simp only [Act.put, List.setIfInBounds_toArray, List.set_cons_zero, List.set_cons_succ]
    refine wpAnyH_ready (rs := [1, 3]) (by kernel_rfl) (by simp) ?_
    refine AllReadyH.cons rfl (fun K' hK' => ?_) (AllReadyH.cons rfl (fun K' hK' => ?_) AllReadyH.nil)
    · go_simp
      refine hK'.out _ _ trivial (fun hH => ?_)
      refine wpAnyH_ready (rs := [3]) (by kernel_rfl) (by simp) ?_
      refine AllReadyH.cons rfl (fun K' hK' => ?_) AllReadyH.nil
      go_simp
      go_at_call 103
      refine (HL.out _).mono ?_
      rintro e w7 ⟨rfl, hb7⟩
      have H7 : Hid (TkI b0 w0 w g v r gp w4.heap.size (.slice a5 B.length c5) (.slice a6 S.length c6) B S w7) := HD.out.later hb7
      have x7 := H7.out.2.2.1.c1
      have y7 := cell_up x7 ((Below.refl w7.heap.size w7).alloc (Nat.le_refl _) (.cells #[.string T, .string ⟨#[120]⟩] 9))
      clear hb7
      go_wp2_with fail
      refine hK'.out _ _ trivial (fun hH => ?_)
      refine wpAnyH_ready (rs := [4]) (by kernel_rfl) (by simp) ?_
      refine AllReadyH.cons rfl (fun K' hK' => ?_) AllReadyH.nil
      go_simp
      refine hK'.out _ _ trivial (fun hH => ?_)
      refine wpAnyH_ready (rs := [5]) (by kernel_rfl) (by simp) ?_
      refine AllReadyH.cons rfl (fun K' hK' => ?_) AllReadyH.nil
      have HJ : Hid (TkI b0 w0 w g v r gp w4.heap.size (.slice a5 B.length c5) (.slice a6 S.length c6) B S (w7.alloc (.cells #[.string T, .string ⟨#[120]⟩] 9))) := H7.out.later ((Below.refl _ _).alloc (Nat.le_refl _) _)
      refine step_appLit rfl _ _ rfl w4.heap.size _ _ _ S [T, ⟨#[120]⟩] (by rfl) HJ.out.2.2.2.2.1 (by rfl) w7.heap.size 0 (ss_lits w7 [T, ⟨#[120]⟩] _ 2 rfl (by omega) rfl) (by simp) (by have := hpf.2.2.1; simp; omega) ?_
      intro u8 w8 ho8 hg8
      obtain ⟨a8, n8, c8, rfl⟩ : ∃ a n c, u8 = .slice a n c := by obtain ⟨a8, c8, e8⟩ := ho8.slice; exact ⟨_, _, _, e8⟩
      have p8 := (HJ.out.own hg8 (fun q hq => (HJ.out.2.2.2.2.1.1.lt q hq).1)).2.2.1
      have x0 := p8.c1
      have x1 := p8.fr 1
      have HF : Hid (TkI b0 w0 w g v r gp w4.heap.size (.slice a5 B.length c5) (.slice a8 n8 c8) B (S ++ [T, ⟨#[120]⟩]) (w8.setCell ⟨gp, 1, none⟩ (.slice a8 n8 c8))) := HJ.out.sides ho8 hg8
      clear HJ p8 ho8 hg8 H7 x7 y7
      refine hK'.out _ _ trivial (fun hH => ?_)
      simp only [Act.put, List.setIfInBounds_toArray, List.set_cons_zero, List.set_cons_succ]
      refine wpAnyH_take (i := 6) (v := .pointer (some ⟨gp, 1, none⟩)) rfl (by kernel_rfl) (by kernel_rfl) (by kernel_rfl) (fun _ _ _ h => h) (Or.inl ⟨by rfl, fun w hw => by go_simp⟩) hH ?_
      simp only [Act.put, List.setIfInBounds_toArray, List.set_cons_zero, List.set_cons_succ]
      refine wpAnyH_ready (rs := [7]) (by kernel_rfl) (by simp) ?_
      refine AllReadyH.cons rfl (fun K' hK' => ?_) AllReadyH.nil
      go_simp
      refine hK'.out _ _ trivial (fun hH => ?_)
      refine wpAnyH_done (by kernel_rfl) ?_ _
      clear x0 x1 hH
      generalize w8.setCell ⟨gp, 1, none⟩ (.slice a8 n8 c8) = w9 at HF ⊢
      go_wp2_with fail
      have HE : Hid _ := tk_end HF.out (hpf.sides hTs)
      have t0 := HF.out.2.1.c0
      have t1 := HF.out.2.1.c1
      have f0 := HF.out.2.1.fr 0
      have f1 := HF.out.2.1.fr 1
      have d0 := HF.out.2.2.1.c0
      have d1 := HF.out.2.2.1.c1
      clear HF
      go_region
      generalize (w9.setCell ⟨r, 0, none⟩ (.slice a5 B.length c5)).setCell ⟨r, 1, none⟩ (.slice a8 n8 c8) = wF at HE ⊢
      clear t0 t1 f0 f1 d0 d1
      go_wp2
      exact ret_tpf 4 5 r (.string nm) _ _ rfl rfl rfl rfl HE.out.1 HE.out.2.drew
    · go_simp
      go_at_call 103
      refine (HL.out _).mono ?_
      rintro e w7 ⟨rfl, hb7⟩
      have H7 : Hid (TkI b0 w0 w g v r gp w4.heap.size (.slice a5 B.length c5) (.slice a6 S.length c6) B S w7) := HD.out.later hb7
      have x7 := H7.out.2.2.1.c1
      have y7 := cell_up x7 ((Below.refl w7.heap.size w7).alloc (Nat.le_refl _) (.cells #[.string T, .string ⟨#[120]⟩] 9))
      clear hb7
      go_wp2_with fail
      refine hK'.out _ _ trivial (fun hH => ?_)
      refine wpAnyH_ready (rs := [1, 4]) (by kernel_rfl) (by simp) ?_
      refine AllReadyH.cons rfl (fun K' hK' => ?_) (AllReadyH.cons rfl (fun K' hK' => ?_) AllReadyH.nil)
      · go_simp
        refine hK'.out _ _ trivial (fun hH => ?_)
        refine wpAnyH_ready (rs := [4]) (by kernel_rfl) (by simp) ?_
        refine AllReadyH.cons rfl (fun K' hK' => ?_) AllReadyH.nil
        go_simp
        refine hK'.out _ _ trivial (fun hH => ?_)
        refine wpAnyH_ready (rs := [5]) (by kernel_rfl) (by simp) ?_
        refine AllReadyH.cons rfl (fun K' hK' => ?_) AllReadyH.nil
        have HJ : Hid (TkI b0 w0 w g v r gp w4.heap.size (.slice a5 B.length c5) (.slice a6 S.length c6) B S (w7.alloc (.cells #[.string T, .string ⟨#[120]⟩] 9))) := H7.out.later ((Below.refl _ _).alloc (Nat.le_refl _) _)
        refine step_appLit rfl _ _ rfl w4.heap.size _ _ _ S [T, ⟨#[120]⟩] (by rfl) HJ.out.2.2.2.2.1 (by rfl) w7.heap.size 0 (ss_lits w7 [T, ⟨#[120]⟩] _ 2 rfl (by omega) rfl) (by simp) (by have := hpf.2.2.1; simp; omega) ?_
        intro u8 w8 ho8 hg8
        obtain ⟨a8, n8, c8, rfl⟩ : ∃ a n c, u8 = .slice a n c := by obtain ⟨a8, c8, e8⟩ := ho8.slice; exact ⟨_, _, _, e8⟩
        have p8 := (HJ.out.own hg8 (fun q hq => (HJ.out.2.2.2.2.1.1.lt q hq).1)).2.2.1
        have x0 := p8.c1
        have x1 := p8.fr 1
        have HF : Hid (TkI b0 w0 w g v r gp w4.heap.size (.slice a5 B.length c5) (.slice a8 n8 c8) B (S ++ [T, ⟨#[120]⟩]) (w8.setCell ⟨gp, 1, none⟩ (.slice a8 n8 c8))) := HJ.out.sides ho8 hg8
        clear HJ p8 ho8 hg8 H7 x7 y7
        refine hK'.out _ _ trivial (fun hH => ?_)
        simp only [Act.put, List.setIfInBounds_toArray, List.set_cons_zero, List.set_cons_succ]
        refine wpAnyH_take (i := 6) (v := .pointer (some ⟨gp, 1, none⟩)) rfl (by kernel_rfl) (by kernel_rfl) (by kernel_rfl) (fun _ _ _ h => h) (Or.inl ⟨by rfl, fun w hw => by go_simp⟩) hH ?_
        simp only [Act.put, List.setIfInBounds_toArray, List.set_cons_zero, List.set_cons_succ]
        refine wpAnyH_ready (rs := [7]) (by kernel_rfl) (by simp) ?_
        refine AllReadyH.cons rfl (fun K' hK' => ?_) AllReadyH.nil
        go_simp
        refine hK'.out _ _ trivial (fun hH => ?_)
        refine wpAnyH_done (by kernel_rfl) ?_ _
        clear x0 x1 hH
        generalize w8.setCell ⟨gp, 1, none⟩ (.slice a8 n8 c8) = w9 at HF ⊢
        go_wp2_with fail
        have HE : Hid _ := tk_end HF.out (hpf.sides hTs)
        have t0 := HF.out.2.1.c0
        have t1 := HF.out.2.1.c1
        have f0 := HF.out.2.1.fr 0
        have f1 := HF.out.2.1.fr 1
        have d0 := HF.out.2.2.1.c0
        have d1 := HF.out.2.2.1.c1
        clear HF
        go_region
        generalize (w9.setCell ⟨r, 0, none⟩ (.slice a5 B.length c5)).setCell ⟨r, 1, none⟩ (.slice a8 n8 c8) = wF at HE ⊢
        clear t0 t1 f0 f1 d0 d1
        go_wp2
        exact ret_tpf 4 5 r (.string nm) _ _ rfl rfl rfl rfl HE.out.1 HE.out.2.drew
      · go_simp
        refine hK'.out _ _ trivial (fun hH => ?_)
        refine wpAnyH_ready (rs := [1]) (by kernel_rfl) (by simp) ?_
        refine AllReadyH.cons rfl (fun K' hK' => ?_) AllReadyH.nil
        go_simp
        refine hK'.out _ _ trivial (fun hH => ?_)
        refine wpAnyH_ready (rs := [5]) (by kernel_rfl) (by simp) ?_
        refine AllReadyH.cons rfl (fun K' hK' => ?_) AllReadyH.nil
        have HJ : Hid (TkI b0 w0 w g v r gp w4.heap.size (.slice a5 B.length c5) (.slice a6 S.length c6) B S (w7.alloc (.cells #[.string T, .string ⟨#[120]⟩] 9))) := H7.out.later ((Below.refl _ _).alloc (Nat.le_refl _) _)
        refine step_appLit rfl _ _ rfl w4.heap.size _ _ _ S [T, ⟨#[120]⟩] (by rfl) HJ.out.2.2.2.2.1 (by rfl) w7.heap.size 0 (ss_lits w7 [T, ⟨#[120]⟩] _ 2 rfl (by omega) rfl) (by simp) (by have := hpf.2.2.1; simp; omega) ?_
        intro u8 w8 ho8 hg8
        obtain ⟨a8, n8, c8, rfl⟩ : ∃ a n c, u8 = .slice a n c := by obtain ⟨a8, c8, e8⟩ := ho8.slice; exact ⟨_, _, _, e8⟩
        have p8 := (HJ.out.own hg8 (fun q hq => (HJ.out.2.2.2.2.1.1.lt q hq).1)).2.2.1
        have x0 := p8.c1
        have x1 := p8.fr 1
        have HF : Hid (TkI b0 w0 w g v r gp w4.heap.size (.slice a5 B.length c5) (.slice a8 n8 c8) B (S ++ [T, ⟨#[120]⟩]) (w8.setCell ⟨gp, 1, none⟩ (.slice a8 n8 c8))) := HJ.out.sides ho8 hg8
        clear HJ p8 ho8 hg8 H7 x7 y7
        refine hK'.out _ _ trivial (fun hH => ?_)
        simp only [Act.put, List.setIfInBounds_toArray, List.set_cons_zero, List.set_cons_succ]
        refine wpAnyH_take (i := 6) (v := .pointer (some ⟨gp, 1, none⟩)) rfl (by kernel_rfl) (by kernel_rfl) (by kernel_rfl) (fun _ _ _ h => h) (Or.inl ⟨by rfl, fun w hw => by go_simp⟩) hH ?_
        simp only [Act.put, List.setIfInBounds_toArray, List.set_cons_zero, List.set_cons_succ]
        refine wpAnyH_ready (rs := [7]) (by kernel_rfl) (by simp) ?_
        refine AllReadyH.cons rfl (fun K' hK' => ?_) AllReadyH.nil
        go_simp
        refine hK'.out _ _ trivial (fun hH => ?_)
        refine wpAnyH_done (by kernel_rfl) ?_ _
        clear x0 x1 hH
        generalize w8.setCell ⟨gp, 1, none⟩ (.slice a8 n8 c8) = w9 at HF ⊢
        go_wp2_with fail
        have HE : Hid _ := tk_end HF.out (hpf.sides hTs)
        have t0 := HF.out.2.1.c0
        have t1 := HF.out.2.1.c1
        have f0 := HF.out.2.1.fr 0
        have f1 := HF.out.2.1.fr 1
        have d0 := HF.out.2.2.1.c0
        have d1 := HF.out.2.2.1.c1
        clear HF
        go_region
        generalize (w9.setCell ⟨r, 0, none⟩ (.slice a5 B.length c5)).setCell ⟨r, 1, none⟩ (.slice a8 n8 c8) = wF at HE ⊢
        clear t0 t1 f0 f1 d0 d1
        go_wp2
        exact ret_tpf 4 5 r (.string nm) _ _ rfl rfl rfl rfl HE.out.1 HE.out.2.drew
  · go_wp2_with (refine wp_storePf rfl _ _ rfl gp _ _ (.slice a5 B.length c5) (.slice a6 S.length c6) q5 rfl rfl rfl rfl ?_; intro hq; generalize w5.setRow gp #[.slice a5 B.length c5, .slice a6 S.length c6] = w6 at HI hq ⊢; have z0 := hq.c0; have z1 := hq.c1)
    have CP := pick_lit b0 w0 w6 g v 2 otL otC HI.out.1 rfl (by omega) (by omega) (ot_at w6)
    refine CP.out.mono ?_
    rintro e w7 ⟨n7, hn7, rfl, hc7, hg7⟩
    have H7 : Hid (TkI b0 w0 w g v r gp w4.heap.size (.slice a5 B.length c5) (.slice a6 S.length c6) B S w7) := HI.out.drawn hc7 hg7
    clear CP HI hq z0 z1 hc7 hg7
    go_wp2_with fail
    have HE : Hid _ := tk_end H7.out (hpf.name (ot_ok n7 hn7))
    have t0 := H7.out.2.1.c0
    have t1 := H7.out.2.1.c1
    have f0 := H7.out.2.1.fr 0
    have f1 := H7.out.2.1.fr 1
    have d0 := H7.out.2.2.1.c0
    have d1 := H7.out.2.2.1.c1
    clear H7
    go_region
    generalize (w7.setCell ⟨r, 0, none⟩ (.slice a5 B.length c5)).setCell ⟨r, 1, none⟩ (.slice a6 S.length c6) = wF at HE ⊢
    clear t0 t1 f0 f1 d0 d1
    go_wp2
    exact ret_tpf 4 5 r (.string n7) _ _ rfl rfl rfl rfl HE.out.1 HE.out.2.drew
  · go_wp2_with (refine wp_storePf rfl _ _ rfl gp _ _ (.slice a5 B.length c5) (.slice a6 S.length c6) q5 rfl rfl rfl rfl ?_; intro hq; generalize w5.setRow gp #[.slice a5 B.length c5, .slice a6 S.length c6] = w6 at HI hq ⊢; have z0 := hq.c0; have z1 := hq.c1)
    clear hq z0 z1
    have HE : Hid _ := tk_end HI.out (hpf.name hpf.1)
    have t0 := HI.out.2.1.c0
    have t1 := HI.out.2.1.c1
    have f0 := HI.out.2.1.fr 0
    have f1 := HI.out.2.1.fr 1
    have d0 := HI.out.2.2.1.c0
    have d1 := HI.out.2.2.1.c1
    clear HI
    go_region
    generalize (w6.setCell ⟨r, 0, none⟩ (.slice a5 B.length c5)).setCell ⟨r, 1, none⟩ (.slice a6 S.length c6) = wF at HE ⊢
    clear t0 t1 f0 f1 d0 d1
    go_wp2
    exact ret_tpf 4 5 r (.string nm) _ _ rfl rfl rfl rfl HE.out.1 HE.out.2.drew

end Go.Proofs.YtmcejkfknbjjkaaGreatDoor
