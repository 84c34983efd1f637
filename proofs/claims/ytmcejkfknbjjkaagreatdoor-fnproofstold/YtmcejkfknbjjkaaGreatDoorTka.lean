/-
  A proof copied by the specification, its rows owned; and a proof drawn.
-/
import Derived.Test.YtmcejkfknbjjkaaGreatDoorPkR
import Derived.Test.YtmcejkfknbjjkaaGreatDoorDnh
import Derived.Test.YtmcejkfknbjjkaaGreatDoorPkE
import Derived.Test.YtmcejkfknbjjkaaGreatDoorPkL
import Derived.Test.YtmcejkfknbjjkaaGreatDoorPkN
namespace Go.Proofs.YtmcejkfknbjjkaaGreatDoor
open Go.RowKit Go.BigFrame Go.Sort
set_option linter.unusedVariables false
set_option linter.unusedSimpArgs false

theorem OL.low {B : Nat} {w0 w w' : World} {u : Value} {l : List Le} (hb : Below B w0 w) (hB : B ≤ w.heap.size) (h : OL w.heap.size w w' u l) : OL B w0 w' u l := by
  refine ⟨⟨h.1.1, ?_⟩, hb.trans (h.2.1.mono hB), Nat.le_trans hB h.2.2⟩
  rcases h.1.2 with hn | ⟨g, cap, cur, hv, hbg, rest⟩
  · exact .inl hn
  · exact .inr ⟨g, cap, cur, hv, Nat.le_trans hB hbg, rest⟩
theorem OS.low {B : Nat} {w0 w w' : World} {u : Value} {l : List ByteArray} (hb : Below B w0 w) (hB : B ≤ w.heap.size) (h : OS w.heap.size w w' u l) : OS B w0 w' u l := by
  refine ⟨⟨h.1.1, ?_⟩, hb.trans (h.2.1.mono hB), Nat.le_trans hB h.2.2⟩
  rcases h.1.2 with hn | ⟨g, cap, cur, hv, hbg, rest⟩
  · exact .inl hn
  · exact .inr ⟨g, cap, cur, hv, Nat.le_trans hB hbg, rest⟩
theorem own_gt {B q : Nat} {e k n : Nat} {w : World} {v : Value} {xs : List Value} (h : w.ownsRow B e k v n xs) (hq : q < B) : v.ownBlock ≠ some q := fun he => by have := (h.lt q he).1; omega
theorem fcw_end {w wS w7 : World} {v3 v7 : Value} {L : List Le} {S : List ByteArray} (hs : wS.heap.size = w.heap.size + 2) (hbw : Below w.heap.size w wS) (hP : PfM w7 (w.heap.size + 1) (.slice none 0 0) (.slice none 0 0)) (h3 : OL wS.heap.size wS w7 v3 L) (h7 : OS wS.heap.size wS w7 v7 S) :
    PfM ((w7.setCell ⟨w.heap.size + 1, 0, none⟩ v3).setCell ⟨w.heap.size + 1, 1, none⟩ v7) (w.heap.size + 1) v3 v7 ∧ OL w.heap.size w ((w7.setCell ⟨w.heap.size + 1, 0, none⟩ v3).setCell ⟨w.heap.size + 1, 1, none⟩ v7) v3 L ∧ OS w.heap.size w ((w7.setCell ⟨w.heap.size + 1, 0, none⟩ v3).setCell ⟨w.heap.size + 1, 1, none⟩ v7) v7 S := by
  have n3 := own_gt (q := w.heap.size + 1) h3.1 (by omega)
  have n7 := own_gt (q := w.heap.size + 1) h7.1 (by omega)
  have k3 := OL.low hbw (by omega) h3
  have k7 := OS.low hbw (by omega) h7
  refine ⟨(hP.set0 _).set1 _, ?_, ?_⟩
  · exact (k3.grown (grown_set _ _ _ _) (fun q hq => by simp at hq; subst hq; exact ⟨by omega, n3⟩)).grown (grown_set _ _ _ _) (fun q hq => by simp at hq; subst hq; exact ⟨by omega, n3⟩)
  · exact (k7.keptF (grown_set _ _ _ _) (fun q hq => by simp at hq; omega) (.inr n7)).keptF (grown_set _ _ _ _) (fun q hq => by simp at hq; omega) (.inr n7)

set_option maxRecDepth 100000 in
set_option maxHeartbeats 1000000 in
theorem l11Copy_own (ab : Option Addr) (cb : Nat) (aS : Option Addr) (cS : Nat) (gb gs : Nat) (L : List Le) (S : List ByteArray) (w : World) (hb : RS 2 lcs w (.slice ab L.length cb) gb 0 L) (hs : SS w (.slice aS S.length cS) gs 0 S) (hn1 : ab = none → cb = 0) (hn2 : aS = none → cS = 0) (hl1 : L.length ≤ 1000000) (hl2 : S.length ≤ 1000000) :
    Calls Tryz.prog 102 #[.agg #[.slice ab L.length cb, .slice aS S.length cS]] w fun e w' => ∃ a1 c1 a2 c2, e = .returned (.agg #[.slice a1 L.length c1, .slice a2 S.length c2]) ∧ OL w.heap.size w w' (.slice a1 L.length c1) L ∧ OS w.heap.size w w' (.slice a2 S.length c2) S := by
  obtain ⟨p0, p1⟩ := run_rangeP (w := w) (p := 0) (v1 := .slice ab L.length cb) (v2 := .slice aS S.length cS) 43
  have hba : Below w.heap.size w ((w.alloc (.cells #[.slice ab L.length cb, .slice aS S.length cS] 43)).alloc (.cells #[.slice none 0 0, .slice none 0 0] 43)) := ((Below.refl _ _).alloc (Nat.le_refl _) _).alloc (by simp) _
  have c0 : ((w.alloc (.cells #[.slice ab L.length cb, .slice aS S.length cS] 43)).alloc (.cells #[.slice none 0 0, .slice none 0 0] 43)).cell? ⟨w.heap.size, 0, none⟩ = some (.slice ab L.length cb) := cell_up p0 ((Below.refl _ _).alloc (Nat.le_refl _) _)
  have c1 : ((w.alloc (.cells #[.slice ab L.length cb, .slice aS S.length cS] 43)).alloc (.cells #[.slice none 0 0, .slice none 0 0] 43)).cell? ⟨w.heap.size, 1, none⟩ = some (.slice aS S.length cS) := cell_up p1 ((Below.refl _ _).alloc (Nat.le_refl _) _)
  have hP : PfM ((w.alloc (.cells #[.slice ab L.length cb, .slice aS S.length cS] 43)).alloc (.cells #[.slice none 0 0, .slice none 0 0] 43)) (w.heap.size + 1) (.slice none 0 0) (.slice none 0 0) := by
    have h := PfM.new (w.alloc (.cells #[.slice ab L.length cb, .slice aS S.length cS] 43)) (.slice none 0 0) (.slice none 0 0)
    rw [World.size_alloc] at h
    exact h
  have hsz : ((w.alloc (.cells #[.slice ab L.length cb, .slice aS S.length cS] 43)).alloc (.cells #[.slice none 0 0, .slice none 0 0] 43)).heap.size = w.heap.size + 2 := by simp
  go_enter Tryz.func102, Tryz.ntmps102
  go_wp2_with fail
  clear p0 p1
  generalize (w.alloc (.cells #[.slice ab L.length cb, .slice aS S.length cS] 43)).alloc (.cells #[.slice none 0 0, .slice none 0 0] 43) = wS at *
  have HR : Hid (∀ W, Below wS.heap.size wS W → RS 2 lcs W (.slice ab L.length cb) gb 0 L) := fun W hW => (hb.later hba).later hW
  have HS : Hid (∀ W, Below wS.heap.size wS W → SS W (.slice aS S.length cS) gs 0 S) := fun W hW => (hs.below (hba.trans (hW.mono hba.size)) hs.lt)
  have HC : Hid (∀ W, Below wS.heap.size wS W → W.cell? ⟨w.heap.size, 0, none⟩ = some (.slice ab L.length cb) ∧ W.cell? ⟨w.heap.size, 1, none⟩ = some (.slice aS S.length cS)) := fun W hW => ⟨cell_up c0 hW, cell_up c1 hW⟩
  have HP : Hid (∀ W, Below wS.heap.size wS W → PfM W (w.heap.size + 1) (.slice none 0 0) (.slice none 0 0)) := fun W hW => hP.later hW
  have HE : Hid (∀ (w7 : World) (v3 v7 : Value), OL wS.heap.size wS w7 v3 L → OS wS.heap.size wS w7 v7 S → PfM ((w7.setCell ⟨w.heap.size + 1, 0, none⟩ v3).setCell ⟨w.heap.size + 1, 1, none⟩ v7) (w.heap.size + 1) v3 v7 ∧ OL w.heap.size w ((w7.setCell ⟨w.heap.size + 1, 0, none⟩ v3).setCell ⟨w.heap.size + 1, 1, none⟩ v7) v3 L ∧ OS w.heap.size w ((w7.setCell ⟨w.heap.size + 1, 0, none⟩ v3).setCell ⟨w.heap.size + 1, 1, none⟩ v7) v7 S) := fun w7 v3 v7 h3 h7 => fcw_end hsz hba (hP.later h7.2.1) h3 h7
  have bd : ∀ {B : Nat} {w0 W : World}, Below B w0 W → Below B w0 W.drew := fun h => h.drew
  have hr0 := Below.refl wS.heap.size wS
  have OA : OL wS.heap.size wS (wS.alloc (.cells #[] 34)).drew (.slice (some ⟨wS.heap.size, 0, none⟩) 0 0) [] := (OL.made _ _ _ hr0 (Nat.le_refl _)).later (bd (Below.refl _ _))
  have OB1 : OL wS.heap.size wS ((wS.alloc (.cells #[] 34)).alloc (.cells #[] 9)).drew (.slice (some ⟨wS.heap.size, 0, none⟩) 0 0) [] := (OL.made _ _ _ hr0 (Nat.le_refl _)).later (bd ((Below.refl _ _).alloc (Nat.le_refl _) _))
  have OB2 : OS wS.heap.size wS ((wS.alloc (.cells #[] 34)).alloc (.cells #[] 9)).drew (.slice (some ⟨wS.heap.size + 1, 0, none⟩) 0 0) [] := by
    have h := OS.madeF wS.heap.size wS (wS.alloc (.cells #[] 34)) (hr0.alloc (Nat.le_refl _) _) (by simp)
    rw [World.size_alloc] at h
    exact h.drew
  have OC1 : OL wS.heap.size wS ((wS.alloc (.cells #[] 9)).alloc (.cells #[] 34)).drew (.slice (some ⟨wS.heap.size + 1, 0, none⟩) 0 0) [] := by
    have h := OL.made wS.heap.size wS (wS.alloc (.cells #[] 9)) (hr0.alloc (Nat.le_refl _) _) (by simp)
    rw [World.size_alloc] at h
    exact h.later (bd (Below.refl _ _))
  have OC2 : OS wS.heap.size wS ((wS.alloc (.cells #[] 9)).alloc (.cells #[] 34)).drew (.slice (some ⟨wS.heap.size, 0, none⟩) 0 0) [] := ((OS.madeF _ _ _ hr0 (Nat.le_refl _)).alloc _).drew
  clear hb hs hba hP hr0 bd hsz
  go_region_held3 (fun W => W.cell? ⟨w.heap.size, 0, none⟩ = some (.slice ab L.length cb) ∧ W.cell? ⟨w.heap.size, 1, none⟩ = some (.slice aS S.length cS)) (first | (go_keep; done) | exact HC.out _ ho7.2.1 | exact HC.out _ hO7.2.1 | exact HC.out _ ho3.2.1 | exact HC.out _ OB1.2.1 | exact HC.out _ OC1.2.1 | exact HC.out _ OA.2.1) (first | (refine step_rowL rfl _ _ rfl wS.heap.size wS _ (by rfl) OB1 ab cb gb L (by rfl) (HR.out _ OB1.2.1) hn1 hl1 ?_; intro v3 w3 ho3 hg3; obtain ⟨a3, c3, rfl⟩ := ho3.shape; have hO7 := OS.overF OB1 OB2 hg3; have hL7 := ho3) | (refine step_rowL rfl _ _ rfl wS.heap.size wS _ (by rfl) OC1 ab cb gb L (by rfl) (HR.out _ OC1.2.1) hn1 hl1 ?_; intro v3 w3 ho3 hg3; obtain ⟨a3, c3, rfl⟩ := ho3.shape; have hO7 := OS.overF OC1 OC2 hg3; have hL7 := ho3) | (refine step_rowL rfl _ _ rfl wS.heap.size wS _ (by rfl) OA ab cb gb L (by rfl) (HR.out _ OA.2.1) hn1 hl1 ?_; intro v3 w3 ho3 hg3; obtain ⟨a3, c3, rfl⟩ := ho3.shape; have hO7 := OS.madeF _ _ w3 ho3.2.1 ho3.2.2; have hL7 := ho3.later ((Below.refl w3.heap.size w3).alloc (Nat.le_refl _) (.cells #[] 9))) | (refine step_rowT rfl _ _ rfl wS.heap.size wS _ (by rfl) hO7 aS cS gs S (by rfl) (HS.out _ hO7.2.1) hn2 hl2 ?_; intro v7 w7 ho7 hg7; obtain ⟨a7, c7, rfl⟩ := ho7.slice; have hL8 := OL.overF hL7 hO7 hg7; have t0 := (HP.out _ ho7.2.1).c0; have t1 := (HP.out _ ho7.2.1).c1; have f0 := (HP.out _ ho7.2.1).fr 0; have f1 := (HP.out _ ho7.2.1).fr 1) | fail)
  all_goals (obtain ⟨e1, e2, e3⟩ := HE.out _ _ _ hL8 ho7)
  all_goals (generalize (w7.setCell ⟨w.heap.size + 1, 0, none⟩ (.slice a3 L.length c3)).setCell ⟨w.heap.size + 1, 1, none⟩ (.slice a7 S.length c7) = wF at *)
  all_goals clear HR HS HC HP HE OA OB1 OB2 OC1 OC2 ho3 hg3 hO7 hL7 ho7 hg7 hL8 t0 t1 f0 f1
  all_goals go_wp2
  all_goals exact ret_pf1 2 (w.heap.size + 1) _ _ rfl rfl rfl e1 ⟨a3, c3, a7, c7, rfl, e2, e3⟩

/-- a text and a proof, answered -/
theorem ret_tpf {fn : Func} {Rp : Ending → World → Prop} {a : Act} {w : World} (s c g : Nat) (b v1 v2 : Value) (hres : fn.results = #[.tmp s, .cell c 43]) (hd : a.defers = []) (hb : a.tmps.getD s undef = b) (hp : a.tmps.getD c undef = .pointer (some ⟨g, 0, none⟩))
    (hA : PfM w g v1 v2) (h : Rp (.returned (.tuple #[b, .agg #[v1, v2]])) w) : bodyPost Tryz.prog fn Rp .ret a w := by
  have hr := load_pf hA
  refine bodyPost_ret (v := .tuple #[b, .agg #[v1, v2]]) ?_ hd h
  have hp' : a.tmps[c]?.getD undef = .pointer (some ⟨g, 0, none⟩) := by simpa using hp
  have hb' : a.tmps[s]?.getD undef = b := by simpa using hb
  simp [results, hres, asAddr, hr, hp', hb']

def lvgL : List Int := [0, 0, 1, 2, 5]
def lvgC : Array Value := #[.int .i64 0, .int .i64 0, .int .i64 1, .int .i64 2, .int .i64 5]
theorem lvg_at (w : World) : Hid (∀ j, (h : j < lvgL.length) → (w.alloc (.cells lvgC 3)).cell? ⟨w.heap.size, j, none⟩ = some (.int .i64 lvgL[j])) := by
  intro j hj
  rw [World.cell?_alloc_at _ _ _ _ rfl]
  have : j = 0 ∨ j = 1 ∨ j = 2 ∨ j = 3 ∨ j = 4 := by simp [lvgL] at hj; omega
  rcases this with rfl | rfl | rfl | rfl | rfl <;> rfl
theorem PfM.gr {w w' : World} {g : Nat} {v1 v2 : Value} {row : Option Nat} (h : PfM w g v1 v2) (hg : w.grownBy w' row) (hne : some g ≠ row) : PfM w' g v1 v2 := h.keep (hg.block g h.lt hne)

/-- a proof as it is drawn: its rows may be read, and lie behind the cursor -/
def DpF (k : Nat) (nm : ByteArray) (B : List Le) (S : List ByteArray) : Prop := nm.size ≤ 12 ∧ (SmallL B ∧ B.length ≤ k) ∧ S.length ≤ k ∧ ∀ s ∈ S, s.size ≤ 64
/-- what is grown, and then changed in a block of its own -/
theorem gb_new {w w1 w2 : World} {row row' : Option Nat} (h : w.grownBy w1 row) (h2 : w1.grownBy w2 row') (hr : ∀ q, row' = some q → w.heap.size ≤ q) : w.grownBy w2 row :=
  ⟨h2.os.trans h.os, h2.tape.trans h.tape, h2.output.trans h.output, Nat.le_trans h.size h2.size, fun k hk hne => (h2.block k (Nat.lt_of_lt_of_le hk h.size) (fun e => by have := hr k e.symm; omega)).trans (h.block k hk hne)⟩
/-- what l11Proof answers -/
def DqP (b0 : Nat) (w0 w : World) (g : Nat) (v : Value) (e : Ending) (w' : World) : Prop := ∃ (nm : ByteArray) (ab : Option Addr) (cb : Nat) (aS : Option Addr) (cS gb gs : Nat) (B : List Le) (S : List ByteArray), e = .returned (.tuple #[.string nm, .agg #[.slice ab B.length cb, .slice aS S.length cS]]) ∧ DpF 30 nm B S ∧ RS 2 lcs w' (.slice ab B.length cb) gb 0 B ∧ SS w' (.slice aS S.length cS) gs 0 S ∧ ((ab = none → cb = 0) ∧ (aS = none → cS = 0)) ∧ Cur b0 w0 w' g v ∧ w.grownBy w' (some g)
theorem DqP.drew {b0 : Nat} {w0 w1 w : World} {g : Nat} {v : Value} {e : Ending} (h : DqP b0 w0 w1 g v e w) : DqP b0 w0 w1 g v e w.drew := by
  obtain ⟨nm, ab, cb, aS, cS, gb, gs, B, S, h1, h2, h3, h4, h5, h6, h7⟩ := h
  exact ⟨nm, ab, cb, aS, cS, gb, gs, B, S, h1, h2, h3, h4, h5, h6.kept (grown_below (row := none) (Below.refl _ _).drew) (by simp) h6.size (fun k hk => by cases hk), h7.trans (grown_below (row := some g) (Below.refl _ _).drew)⟩

theorem dq_end {b0 : Nat} {w0 w w6 : World} {g : Nat} {v : Value} {r gb gs cb cS : Nat} {ab aS : Option Addr} {nm : ByteArray} {B : List Le} {S : List ByteArray} (p5 : PfM w6 r (.slice none 0 0) (.slice none 0 0)) (h1 : RS 2 lcs w6 (.slice ab B.length cb) gb 0 B) (h2 : SS w6 (.slice aS S.length cS) gs 0 S) (h3 : Cur b0 w0 w6 g v) (hp : DpF 30 nm B S) (hgw : w.grownBy w6 (some g)) (hwr : w.heap.size ≤ r) (n1 : ab = none → cb = 0) (n2 : aS = none → cS = 0) (hg : g < r) (hB : b0 ≤ r) (hgb : r < gb) (hgs : r < gs) :
    PfM ((w6.setCell ⟨r, 0, none⟩ (.slice ab B.length cb)).setCell ⟨r, 1, none⟩ (.slice aS S.length cS)) r (.slice ab B.length cb) (.slice aS S.length cS) ∧ DqP b0 w0 w g v (.returned (.tuple #[.string nm, .agg #[.slice ab B.length cb, .slice aS S.length cS]])) ((w6.setCell ⟨r, 0, none⟩ (.slice ab B.length cb)).setCell ⟨r, 1, none⟩ (.slice aS S.length cS)) := by
  have s1 := grown_set w6 r 0 (.slice ab B.length cb)
  have s2 := grown_set (w6.setCell ⟨r, 0, none⟩ (.slice ab B.length cb)) r 1 (.slice aS S.length cS)
  have c1 := h3.kept s1 (by simp; omega) h3.size (fun k hk => by simp at hk; omega)
  have r1 := (h1.grown s1 (fun _ => by simp; omega)).grown s2 (fun _ => by simp; omega)
  have r2 := (h2.grown s1 (fun _ => by simp; omega)).grown s2 (fun _ => by simp; omega)
  have c2 := c1.kept s2 (by simp; omega) c1.size (fun k hk => by simp at hk; omega)
  have q := (p5.set0 (.slice ab B.length cb)).set1 (.slice aS S.length cS)
  have k1 := gb_new hgw s1 (fun q hq => by simp at hq; omega)
  have k2 := gb_new k1 s2 (fun q hq => by simp at hq; omega)
  exact ⟨q, nm, ab, cb, aS, cS, gb, gs, B, S, rfl, hp, r1, r2, ⟨n1, n2⟩, c2, k2⟩

set_option maxRecDepth 100000 in
set_option maxHeartbeats 4000000 in
theorem l11Proof_in (b0 : Nat) (w0 w : World) (g : Nat) (v : Value) (x : Int) (hx : 1 ≤ x ∧ x ≤ 32) (hc : Cur b0 w0 w g v) :
    Calls Tryz.prog 101 #[.pointer (some ⟨g, 0, none⟩), .int .i64 x] w (DqP b0 w0 w g v) := by
  have hB := hc.size
  have hlt := hc.lt
  have hcA : Cur b0 w0 (w.alloc (.cells #[.slice none 0 0, .slice none 0 0] 43)) g v := hc.kept (World.grownBy_alloc w _ none) (by simp) hB (fun k hk => by cases hk)
  have hpR := PfM.new w (.slice none 0 0) (.slice none 0 0)
  obtain ⟨r, hr⟩ : ∃ r, w.heap.size = r := ⟨_, rfl⟩
  have hrg : some r ≠ some g := by simp; omega
  rw [hr] at hpR
  go_enter Tryz.func101, Tryz.ntmps101
  go_wp2_with fail
  refine (l04Name_in b0 w0 _ g v hcA).mono ?_
  rintro e w1 ⟨nm, hnm, rfl, hc1, hg1⟩
  have p1 := hpR.gr hg1 hrg
  have CP := pickI_lit b0 w0 w1 g v 5 lvgL lvgC hc1 rfl (by omega) (by omega) (lvg_at w1)
  have k1 := (World.grownBy_alloc w (.cells #[.slice none 0 0, .slice none 0 0] 43) (some g)).trans hg1
  clear hcA hpR hg1
  go_wp2_with fail
  refine CP.out.mono ?_
  rintro e w2 ⟨l, hl, rfl, hc2, hg2⟩
  have p2 := p1.gr hg2 hrg
  have k2 := k1.trans hg2
  clear p1 CP hc1 hg2 k1
  go_wp2_with fail
  refine (l09Draw_in b0 w0 _ g v hc2).mono ?_
  rintro e w3 ⟨a3, c3, q3, L, rfl, hl8, hc3, hr3, hq3, _, hLk, hnil3, hg3⟩
  have p3 := p2.gr hg3 hrg
  have hl8' : 0 ≤ l ∧ l ≤ 8 := by simp [lvgL] at hl; omega
  have hnk := nameL_ok nm hnm
  have hsL : SmallL L := fun f hf => by have := leB_size (hLk.2.1 f hf); omega
  have hpv := sProveLeaf_lvl _ q3 0 L nm l x w3 hr3.1 hsL (LV.leavesB_iff.2 hLk) hnk.1 hl8' hx (by omega)
  have HPF : Hid (DpF 30 nm (bkL L (idxN nm)) (sdA L (idxN nm) l x)) := by
    have hb := List.length_filter_le (bkP (idxN nm : Int)) L
    have hs := sdA_len L (idxN nm) l x
    refine ⟨hnk.2, ⟨fun f hf => hsL f (List.mem_filter.1 hf).1, ?_⟩, by omega, ?_⟩
    · show (L.filter _).length ≤ 30
      omega
    · unfold sdA
      split
      · intro s hs
        rw [sd_size hx hLk _ _ s hs]
        omega
      · simp
  generalize bkL L (idxN nm) = B at *
  generalize sdA L (idxN nm) l x = S at *
  have k3 := k2.trans hg3
  clear p2 k2 hc2 hg3 hnil3 hq3 hr3 hLk hl8 hl hl8' hnm hsL hnk
  go_wp2_with fail
  refine hpv.mono ?_
  rintro e w4 ⟨ab, cb, aS, cS, gb, gs, rfl, hrb, hss, ⟨hgb, hgs⟩, ⟨n1, n2⟩, hb4⟩
  have hc4 : Cur b0 w0 w4 g v := hc3.kept (grown_below (row := none) hb4) (by simp) hc3.size (fun k hk => by cases hk)
  have p4 := p3.later hb4
  have k4 := k3.trans (grown_below (row := some g) hb4)
  have hr3l := p3.lt
  have hpn := PfM.new w4 (.slice none 0 0) (.slice none 0 0)
  have hbx : Below w4.heap.size w4 ((w4.alloc (.cells #[.slice none 0 0, .slice none 0 0] 43)).setRow w4.heap.size #[.slice ab B.length cb, .slice aS S.length cS]) := below_setRow ((Below.refl _ _).alloc (Nat.le_refl _) _) (Nat.le_refl _)
  have hrw := p4.lt
  clear hpv hb4 p3 hc3 k3
  go_wp2_with (refine wp_storePf rfl _ _ rfl w4.heap.size _ _ (.slice ab B.length cb) (.slice aS S.length cS) hpn rfl rfl rfl rfl ?_; intro hfin)
  obtain ⟨gp, hgp⟩ : ∃ gp, w4.heap.size = gp := ⟨_, rfl⟩
  have p5 := p4.later hbx
  rw [hgp] at hbx hfin p5 ⊢
  have H6 : Hid (RS 2 lcs ((w4.alloc (.cells #[.slice none 0 0, .slice none 0 0] 43)).setRow gp #[.slice ab B.length cb, .slice aS S.length cS]) (.slice ab B.length cb) gb 0 B ∧ SS ((w4.alloc (.cells #[.slice none 0 0, .slice none 0 0] 43)).setRow gp #[.slice ab B.length cb, .slice aS S.length cS]) (.slice aS S.length cS) gs 0 S ∧ Cur b0 w0 ((w4.alloc (.cells #[.slice none 0 0, .slice none 0 0] 43)).setRow gp #[.slice ab B.length cb, .slice aS S.length cS]) g v ∧ w.grownBy ((w4.alloc (.cells #[.slice none 0 0, .slice none 0 0] 43)).setRow gp #[.slice ab B.length cb, .slice aS S.length cS]) (some g)) := by
    rw [← hgp] at hbx ⊢
    exact ⟨hrb.later hbx, hss.below hbx hss.lt, hc4.kept (grown_below (row := none) hbx) (by simp) hc4.size (fun k hk => by cases hk), k4.trans (grown_below (row := some g) hbx)⟩
  have hne : gp ≠ r := by omega
  clear hpn hbx hrb hss hc4 p4 k4
  generalize (w4.alloc (.cells #[.slice none 0 0, .slice none 0 0] 43)).setRow gp #[.slice ab B.length cb, .slice aS S.length cS] = w6 at *
  have HE : Hid (PfM ((w6.setCell ⟨r, 0, none⟩ (.slice ab B.length cb)).setCell ⟨r, 1, none⟩ (.slice aS S.length cS)) r (.slice ab B.length cb) (.slice aS S.length cS) ∧ DqP b0 w0 w g v (.returned (.tuple #[.string nm, .agg #[.slice ab B.length cb, .slice aS S.length cS]])) ((w6.setCell ⟨r, 0, none⟩ (.slice ab B.length cb)).setCell ⟨r, 1, none⟩ (.slice aS S.length cS))) := by
    exact dq_end p5 H6.out.1 H6.out.2.1 H6.out.2.2.1 HPF.out H6.out.2.2.2 (by omega) n1 n2 (by omega) (by omega) (by omega) (by omega)
  have t0 := p5.c0
  have t1 := p5.c1
  have f0 := p5.fr 0
  have f1 := p5.fr 1
  have d0 := hfin.c0
  have d1 := hfin.c1
  clear p5 hfin H6 HPF
  go_region
  generalize (w6.setCell ⟨r, 0, none⟩ (.slice ab B.length cb)).setCell ⟨r, 1, none⟩ (.slice aS S.length cS) = wF at HE ⊢
  clear t0 t1 f0 f1 d0 d1
  go_wp2
  exact ret_tpf 4 5 r (.string nm) _ _ rfl rfl rfl rfl HE.out.1 HE.out.2.drew

end Go.Proofs.YtmcejkfknbjjkaaGreatDoor
