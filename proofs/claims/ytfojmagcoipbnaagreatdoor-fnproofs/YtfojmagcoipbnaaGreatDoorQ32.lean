/-
  Texts laid together: Dnh, Tka, Tkb, Px.
-/
import Derived.Test.YtfojmagcoipbnaaGreatDoorQ31
import Derived.Test.YtfojmagcoipbnaaGreatDoorQ19
import Derived.Test.YtfojmagcoipbnaaGreatDoorQ30
import Derived.Test.YtfojmagcoipbnaaGreatDoorQ26
import Derived.Test.YtfojmagcoipbnaaGreatDoorQ27
import Derived.Test.YtfojmagcoipbnaaGreatDoorQ09
import Derived.Lib.QuietBelow
/-
  A drawn list, level, place and width.
-/
namespace Go.Proofs.YtfojmagcoipbnaaGreatDoor
open Go.RowKit Go.BigFrame Go.Sort
set_option linter.unusedVariables false
set_option linter.unusedSimpArgs false

/-- one of a list of numbers that is written out -/
theorem pickI_lit (B : Nat) (w0 w : World) (g : Nat) (v : Value) (n : Nat) (zs : List Int) (cs : Array Value) (hc1 : Cur B w0 w g v) (hn : zs.length = n) (h0 : 0 < n) (h1 : n ≤ 1000000)
    (hcell : Hid (∀ j, (h : j < zs.length) → (w.alloc (.cells cs 3)).cell? ⟨w.heap.size, j, none⟩ = some (.int .i64 zs[j]))) :
    Hid (Calls Tryz.prog 97 #[.pointer (some ⟨g, 0, none⟩), .slice (some ⟨w.heap.size, 0, none⟩) n n] (w.alloc (.cells cs 3)) fun e w' => ∃ y : Int, y ∈ zs ∧ e = .returned (.int .i64 y) ∧ Cur B w0 w' g v ∧ w.grownBy w' (some g)) := by
  have hca : Cur B w0 (w.alloc (.cells cs 3)) g v := hc1.kept (World.grownBy_alloc w _ none) (by simp) hc1.size (fun k hk => by cases hk)
  have hga : w.grownBy (w.alloc (.cells cs 3)) (some g) := World.grownBy_alloc w _ (some g)
  have hgl := hc1.lt
  have cP := l01PickInt_in B w0 (w.alloc (.cells cs 3)) g v w.heap.size n zs hca (by omega) (by omega) (by omega) (by simp) hcell
  rw [hn] at cP
  exact cP.mono fun e w' ⟨y, hy, he, hc, hg⟩ => ⟨y, hy, he, hc, hga.trans hg⟩
def wideL : List Int := [16, 16, 1, 32, 2, 0, 33]
def wideC : Array Value := #[.int .i64 16, .int .i64 16, .int .i64 1, .int .i64 32, .int .i64 2, .int .i64 0, .int .i64 33]
theorem wide_at (w : World) : Hid (∀ j, (h : j < wideL.length) → (w.alloc (.cells wideC 3)).cell? ⟨w.heap.size, j, none⟩ = some (.int .i64 wideL[j])) := by
  intro j hj
  rw [World.cell?_alloc_at _ _ _ _ rfl]
  have : j = 0 ∨ j = 1 ∨ j = 2 ∨ j = 3 ∨ j = 4 ∨ j = 5 ∨ j = 6 := by simp [wideL] at hj; omega
  rcases this with rfl | rfl | rfl | rfl | rfl | rfl | rfl <;> rfl
def lvlL : List Int := [0, 1, 2, 3, 8, 7, 9, -1]
def lvlC : Array Value := #[.int .i64 0, .int .i64 1, .int .i64 2, .int .i64 3, .int .i64 8, .int .i64 7, .int .i64 9, .int .i64 (-1)]
theorem lvl_at (w : World) : Hid (∀ j, (h : j < lvlL.length) → (w.alloc (.cells lvlC 3)).cell? ⟨w.heap.size, j, none⟩ = some (.int .i64 lvlL[j])) := by
  intro j hj
  rw [World.cell?_alloc_at _ _ _ _ rfl]
  have : j = 0 ∨ j = 1 ∨ j = 2 ∨ j = 3 ∨ j = 4 ∨ j = 5 ∨ j = 6 ∨ j = 7 := by simp [lvlL] at hj; omega
  rcases this with rfl | rfl | rfl | rfl | rfl | rfl | rfl | rfl <;> rfl
def plcL : List Int := [-1, 256, 1]
def plcC : Array Value := #[.int .i64 (-1), .int .i64 256, .int .i64 1]
theorem plc_at (w : World) : Hid (∀ j, (h : j < plcL.length) → (w.alloc (.cells plcC 3)).cell? ⟨w.heap.size, j, none⟩ = some (.int .i64 plcL[j])) := by
  intro j hj
  rw [World.cell?_alloc_at _ _ _ _ rfl]
  have : j = 0 ∨ j = 1 ∨ j = 2 := by simp [plcL] at hj; omega
  rcases this with rfl | rfl | rfl <;> rfl
/-- four values, answered -/
theorem ret_fourT {fn : Func} {Rp : Ending → World → Prop} {a : Act} {w : World} (i j k m : Nat) (v0 v1 v2 v3 : Value) (hres : fn.results = #[.tmp i, .tmp j, .tmp k, .tmp m]) (hd : a.defers = []) (h0 : a.tmps.getD i undef = v0) (h1 : a.tmps.getD j undef = v1) (h2 : a.tmps.getD k undef = v2) (h3 : a.tmps.getD m undef = v3)
    (h : Rp (.returned (.tuple #[v0, v1, v2, v3])) w) : bodyPost Tryz.prog fn Rp .ret a w := by
  refine bodyPost_ret (v := .tuple #[v0, v1, v2, v3]) ?_ hd h
  have h0' : a.tmps[i]?.getD undef = v0 := by simpa using h0
  have h1' : a.tmps[j]?.getD undef = v1 := by simpa using h1
  have h2' : a.tmps[k]?.getD undef = v2 := by simpa using h2
  have h3' : a.tmps[m]?.getD undef = v3 := by simpa using h3
  simp [results, hres, h0', h1', h2', h3']

/-- what DrawNodeHash gives -/
def DnA (w : World) (e : Ending) (w' : World) : Prop := ∃ (u : Value) (q : Nat) (L : List Le) (y z x : Int), e = .returned (.tuple #[u, .int .i64 y, .int .i64 z, .int .i64 x]) ∧ SmallL L ∧ L.length ≤ 25 ∧ RS 2 lcs w' u q 0 L ∧ Below w.heap.size w w'

end Go.Proofs.YtfojmagcoipbnaaGreatDoor
/-
  A proof copied by the specification, its rows owned; and a proof drawn.
-/
namespace Go.Proofs.YtfojmagcoipbnaaGreatDoor
open Go.RowKit Go.BigFrame Go.Sort
set_option linter.unusedVariables false
set_option linter.unusedSimpArgs false

theorem OL.low {B : Nat} {w0 w w' : World} {u : Value} {l : List Le} (hb : Below B w0 w) (hB : B ≤ w.heap.size) (h : OL w.heap.size w w' u l) : OL B w0 w' u l := by
  refine ⟨⟨h.1.1, ?_⟩, hb.trans (h.2.1.mono hB), Nat.le_trans hB h.2.2⟩
  rcases h.1.2 with hn | ⟨g, cap, cur, hv, hbg, rest⟩
  · exact .inl hn
  · exact .inr ⟨g, cap, cur, hv, Nat.le_trans hB hbg, rest⟩
theorem OS.low {B : Nat} {w0 w w' : World} {u : Value} {l : List ByteArray} (hb : Below B w0 w) (hB : B ≤ w.heap.size) (h : OS w.heap.size w w' u l) : OS B w0 w' u l := by
  refine ⟨⟨h.1.1, ?_⟩, hb.trans (h.2.1.mono hB), Nat.le_trans hB h.2.2⟩
  rcases h.1.2 with hn | ⟨g, cap, cur, hv, hbg, rest⟩
  · exact .inl hn
  · exact .inr ⟨g, cap, cur, hv, Nat.le_trans hB hbg, rest⟩
theorem own_gt {B q : Nat} {e k n : Nat} {w : World} {v : Value} {xs : List Value} (h : w.ownsRow B e k v n xs) (hq : q < B) : v.ownBlock ≠ some q := fun he => by have := (h.lt q he).1; omega
theorem fcw_end {w wS w7 : World} {v3 v7 : Value} {L : List Le} {S : List ByteArray} (hs : wS.heap.size = w.heap.size + 2) (hbw : Below w.heap.size w wS) (hP : PfM w7 (w.heap.size + 1) (.slice none 0 0) (.slice none 0 0)) (h3 : OL wS.heap.size wS w7 v3 L) (h7 : OS wS.heap.size wS w7 v7 S) :
    PfM ((w7.setCell ⟨w.heap.size + 1, 0, none⟩ v3).setCell ⟨w.heap.size + 1, 1, none⟩ v7) (w.heap.size + 1) v3 v7 ∧ OL w.heap.size w ((w7.setCell ⟨w.heap.size + 1, 0, none⟩ v3).setCell ⟨w.heap.size + 1, 1, none⟩ v7) v3 L ∧ OS w.heap.size w ((w7.setCell ⟨w.heap.size + 1, 0, none⟩ v3).setCell ⟨w.heap.size + 1, 1, none⟩ v7) v7 S := by
  have n3 := own_gt (q := w.heap.size + 1) h3.1 (by omega)
  have n7 := own_gt (q := w.heap.size + 1) h7.1 (by omega)
  have k3 := OL.low hbw (by omega) h3
  have k7 := OS.low hbw (by omega) h7
  refine ⟨(hP.set0 _).set1 _, ?_, ?_⟩
  · exact (k3.grown (grown_set _ _ _ _) (fun q hq => by simp at hq; subst hq; exact ⟨by omega, n3⟩)).grown (grown_set _ _ _ _) (fun q hq => by simp at hq; subst hq; exact ⟨by omega, n3⟩)
  · exact (k7.keptF (grown_set _ _ _ _) (fun q hq => by simp at hq; omega) (.inr n7)).keptF (grown_set _ _ _ _) (fun q hq => by simp at hq; omega) (.inr n7)

set_option maxRecDepth 100000 in
set_option maxHeartbeats 1000000 in
theorem l11Copy_own (ab : Option Addr) (cb : Nat) (aS : Option Addr) (cS : Nat) (gb gs : Nat) (L : List Le) (S : List ByteArray) (w : World) (hb : RS 2 lcs w (.slice ab L.length cb) gb 0 L) (hs : SS w (.slice aS S.length cS) gs 0 S) (hn1 : ab = none → cb = 0) (hn2 : aS = none → cS = 0) (hl1 : L.length ≤ 1000000) (hl2 : S.length ≤ 1000000) :
    Calls Tryz.prog 195 #[.agg #[.slice ab L.length cb, .slice aS S.length cS]] w fun e w' => ∃ a1 c1 a2 c2, e = .returned (.agg #[.slice a1 L.length c1, .slice a2 S.length c2]) ∧ OL w.heap.size w w' (.slice a1 L.length c1) L ∧ OS w.heap.size w w' (.slice a2 S.length c2) S := by
  obtain ⟨p0, p1⟩ := run_rangeP (w := w) (p := 0) (v1 := .slice ab L.length cb) (v2 := .slice aS S.length cS) 29
  have hba : Below w.heap.size w ((w.alloc (.cells #[.slice ab L.length cb, .slice aS S.length cS] 29)).alloc (.cells #[.slice none 0 0, .slice none 0 0] 29)) := ((Below.refl _ _).alloc (Nat.le_refl _) _).alloc (by simp) _
  have c0 : ((w.alloc (.cells #[.slice ab L.length cb, .slice aS S.length cS] 29)).alloc (.cells #[.slice none 0 0, .slice none 0 0] 29)).cell? ⟨w.heap.size, 0, none⟩ = some (.slice ab L.length cb) := cell_up p0 ((Below.refl _ _).alloc (Nat.le_refl _) _)
  have c1 : ((w.alloc (.cells #[.slice ab L.length cb, .slice aS S.length cS] 29)).alloc (.cells #[.slice none 0 0, .slice none 0 0] 29)).cell? ⟨w.heap.size, 1, none⟩ = some (.slice aS S.length cS) := cell_up p1 ((Below.refl _ _).alloc (Nat.le_refl _) _)
  have hP : PfM ((w.alloc (.cells #[.slice ab L.length cb, .slice aS S.length cS] 29)).alloc (.cells #[.slice none 0 0, .slice none 0 0] 29)) (w.heap.size + 1) (.slice none 0 0) (.slice none 0 0) := by
    have h := PfM.new (w.alloc (.cells #[.slice ab L.length cb, .slice aS S.length cS] 29)) (.slice none 0 0) (.slice none 0 0)
    rw [World.size_alloc] at h
    exact h
  have hsz : ((w.alloc (.cells #[.slice ab L.length cb, .slice aS S.length cS] 29)).alloc (.cells #[.slice none 0 0, .slice none 0 0] 29)).heap.size = w.heap.size + 2 := by simp
  go_enter Tryz.func195, Tryz.ntmps195
  go_wp2_with fail
  clear p0 p1
  generalize (w.alloc (.cells #[.slice ab L.length cb, .slice aS S.length cS] 29)).alloc (.cells #[.slice none 0 0, .slice none 0 0] 29) = wS at *
  have HR : Hid (∀ W, Below wS.heap.size wS W → RS 2 lcs W (.slice ab L.length cb) gb 0 L) := fun W hW => (hb.later hba).later hW
  have HS : Hid (∀ W, Below wS.heap.size wS W → SS W (.slice aS S.length cS) gs 0 S) := fun W hW => (hs.below (hba.trans (hW.mono hba.size)) hs.lt)
  have HC : Hid (∀ W, Below wS.heap.size wS W → W.cell? ⟨w.heap.size, 0, none⟩ = some (.slice ab L.length cb) ∧ W.cell? ⟨w.heap.size, 1, none⟩ = some (.slice aS S.length cS)) := fun W hW => ⟨cell_up c0 hW, cell_up c1 hW⟩
  have HP : Hid (∀ W, Below wS.heap.size wS W → PfM W (w.heap.size + 1) (.slice none 0 0) (.slice none 0 0)) := fun W hW => hP.later hW
  have HE : Hid (∀ (w7 : World) (v3 v7 : Value), OL wS.heap.size wS w7 v3 L → OS wS.heap.size wS w7 v7 S → PfM ((w7.setCell ⟨w.heap.size + 1, 0, none⟩ v3).setCell ⟨w.heap.size + 1, 1, none⟩ v7) (w.heap.size + 1) v3 v7 ∧ OL w.heap.size w ((w7.setCell ⟨w.heap.size + 1, 0, none⟩ v3).setCell ⟨w.heap.size + 1, 1, none⟩ v7) v3 L ∧ OS w.heap.size w ((w7.setCell ⟨w.heap.size + 1, 0, none⟩ v3).setCell ⟨w.heap.size + 1, 1, none⟩ v7) v7 S) := fun w7 v3 v7 h3 h7 => fcw_end hsz hba (hP.later h7.2.1) h3 h7
  have bd : ∀ {B : Nat} {w0 W : World}, Below B w0 W → Below B w0 W.drew := fun h => h.drew
  have hr0 := Below.refl wS.heap.size wS
  have OA : OL wS.heap.size wS (wS.alloc (.cells #[] 121)).drew (.slice (some ⟨wS.heap.size, 0, none⟩) 0 0) [] := (OL.made _ _ _ hr0 (Nat.le_refl _)).later (bd (Below.refl _ _))
  have OB1 : OL wS.heap.size wS ((wS.alloc (.cells #[] 121)).alloc (.cells #[] 9)).drew (.slice (some ⟨wS.heap.size, 0, none⟩) 0 0) [] := (OL.made _ _ _ hr0 (Nat.le_refl _)).later (bd ((Below.refl _ _).alloc (Nat.le_refl _) _))
  have OB2 : OS wS.heap.size wS ((wS.alloc (.cells #[] 121)).alloc (.cells #[] 9)).drew (.slice (some ⟨wS.heap.size + 1, 0, none⟩) 0 0) [] := by
    have h := OS.madeF wS.heap.size wS (wS.alloc (.cells #[] 121)) (hr0.alloc (Nat.le_refl _) _) (by simp)
    rw [World.size_alloc] at h
    exact h.drew
  have OC1 : OL wS.heap.size wS ((wS.alloc (.cells #[] 9)).alloc (.cells #[] 121)).drew (.slice (some ⟨wS.heap.size + 1, 0, none⟩) 0 0) [] := by
    have h := OL.made wS.heap.size wS (wS.alloc (.cells #[] 9)) (hr0.alloc (Nat.le_refl _) _) (by simp)
    rw [World.size_alloc] at h
    exact h.later (bd (Below.refl _ _))
  have OC2 : OS wS.heap.size wS ((wS.alloc (.cells #[] 9)).alloc (.cells #[] 121)).drew (.slice (some ⟨wS.heap.size, 0, none⟩) 0 0) [] := ((OS.madeF _ _ _ hr0 (Nat.le_refl _)).alloc _).drew
  clear hb hs hba hP hr0 bd hsz
  go_region_held3 (fun W => W.cell? ⟨w.heap.size, 0, none⟩ = some (.slice ab L.length cb) ∧ W.cell? ⟨w.heap.size, 1, none⟩ = some (.slice aS S.length cS)) (first | (go_keep; done) | exact HC.out _ ho7.2.1 | exact HC.out _ hO7.2.1 | exact HC.out _ ho3.2.1 | exact HC.out _ OB1.2.1 | exact HC.out _ OC1.2.1 | exact HC.out _ OA.2.1) (first | (refine step_rowL rfl _ _ rfl wS.heap.size wS _ (by rfl) OB1 ab cb gb L (by rfl) (HR.out _ OB1.2.1) hn1 hl1 ?_; intro v3 w3 ho3 hg3; obtain ⟨a3, c3, rfl⟩ := ho3.shape; have hO7 := OS.overF OB1 OB2 hg3; have hL7 := ho3) | (refine step_rowL rfl _ _ rfl wS.heap.size wS _ (by rfl) OC1 ab cb gb L (by rfl) (HR.out _ OC1.2.1) hn1 hl1 ?_; intro v3 w3 ho3 hg3; obtain ⟨a3, c3, rfl⟩ := ho3.shape; have hO7 := OS.overF OC1 OC2 hg3; have hL7 := ho3) | (refine step_rowL rfl _ _ rfl wS.heap.size wS _ (by rfl) OA ab cb gb L (by rfl) (HR.out _ OA.2.1) hn1 hl1 ?_; intro v3 w3 ho3 hg3; obtain ⟨a3, c3, rfl⟩ := ho3.shape; have hO7 := OS.madeF _ _ w3 ho3.2.1 ho3.2.2; have hL7 := ho3.later ((Below.refl w3.heap.size w3).alloc (Nat.le_refl _) (.cells #[] 9))) | (refine step_rowT rfl _ _ rfl wS.heap.size wS _ (by rfl) hO7 aS cS gs S (by rfl) (HS.out _ hO7.2.1) hn2 hl2 ?_; intro v7 w7 ho7 hg7; obtain ⟨a7, c7, rfl⟩ := ho7.slice; have hL8 := OL.overF hL7 hO7 hg7; have t0 := (HP.out _ ho7.2.1).c0; have t1 := (HP.out _ ho7.2.1).c1; have f0 := (HP.out _ ho7.2.1).fr 0; have f1 := (HP.out _ ho7.2.1).fr 1) | fail)
  all_goals (obtain ⟨e1, e2, e3⟩ := HE.out _ _ _ hL8 ho7)
  all_goals (generalize (w7.setCell ⟨w.heap.size + 1, 0, none⟩ (.slice a3 L.length c3)).setCell ⟨w.heap.size + 1, 1, none⟩ (.slice a7 S.length c7) = wF at *)
  all_goals clear HR HS HC HP HE OA OB1 OB2 OC1 OC2 ho3 hg3 hO7 hL7 ho7 hg7 hL8 t0 t1 f0 f1
  all_goals go_wp2
  all_goals exact ret_pf1 2 (w.heap.size + 1) _ _ rfl rfl rfl e1 ⟨a3, c3, a7, c7, rfl, e2, e3⟩

/-- a text and a proof, answered -/
theorem ret_tpf {fn : Func} {Rp : Ending → World → Prop} {a : Act} {w : World} (s c g : Nat) (b v1 v2 : Value) (hres : fn.results = #[.tmp s, .cell c 29]) (hd : a.defers = []) (hb : a.tmps.getD s undef = b) (hp : a.tmps.getD c undef = .pointer (some ⟨g, 0, none⟩))
    (hA : PfM w g v1 v2) (h : Rp (.returned (.tuple #[b, .agg #[v1, v2]])) w) : bodyPost Tryz.prog fn Rp .ret a w := by
  have hr := load_pf hA
  refine bodyPost_ret (v := .tuple #[b, .agg #[v1, v2]]) ?_ hd h
  have hp' : a.tmps[c]?.getD undef = .pointer (some ⟨g, 0, none⟩) := by simpa using hp
  have hb' : a.tmps[s]?.getD undef = b := by simpa using hb
  simp [results, hres, asAddr, hr, hp', hb']

def lvgL : List Int := [0, 0, 1, 2, 5]
def lvgC : Array Value := #[.int .i64 0, .int .i64 0, .int .i64 1, .int .i64 2, .int .i64 5]
theorem lvg_at (w : World) : Hid (∀ j, (h : j < lvgL.length) → (w.alloc (.cells lvgC 3)).cell? ⟨w.heap.size, j, none⟩ = some (.int .i64 lvgL[j])) := by
  intro j hj
  rw [World.cell?_alloc_at _ _ _ _ rfl]
  have : j = 0 ∨ j = 1 ∨ j = 2 ∨ j = 3 ∨ j = 4 := by simp [lvgL] at hj; omega
  rcases this with rfl | rfl | rfl | rfl | rfl <;> rfl
theorem PfM.gr {w w' : World} {g : Nat} {v1 v2 : Value} {row : Option Nat} (h : PfM w g v1 v2) (hg : w.grownBy w' row) (hne : some g ≠ row) : PfM w' g v1 v2 := h.keep (hg.block g h.lt hne)

/-- a proof as it is drawn: its rows may be read, and lie behind the cursor -/
def DpF (k : Nat) (nm : ByteArray) (B : List Le) (S : List ByteArray) : Prop := nm.size ≤ 12 ∧ (SmallL B ∧ B.length ≤ k) ∧ S.length ≤ k ∧ ∀ s ∈ S, s.size ≤ 64
/-- what is grown, and then changed in a block of its own -/
theorem gb_new {w w1 w2 : World} {row row' : Option Nat} (h : w.grownBy w1 row) (h2 : w1.grownBy w2 row') (hr : ∀ q, row' = some q → w.heap.size ≤ q) : w.grownBy w2 row :=
  ⟨h2.os.trans h.os, h2.tape.trans h.tape, h2.output.trans h.output, Nat.le_trans h.size h2.size, fun k hk hne => (h2.block k (Nat.lt_of_lt_of_le hk h.size) (fun e => by have := hr k e.symm; omega)).trans (h.block k hk hne)⟩
/-- what l11Proof answers -/
def DqP (b0 : Nat) (w0 w : World) (g : Nat) (v : Value) (e : Ending) (w' : World) : Prop := ∃ (nm : ByteArray) (ab : Option Addr) (cb : Nat) (aS : Option Addr) (cS gb gs : Nat) (B : List Le) (S : List ByteArray), e = .returned (.tuple #[.string nm, .agg #[.slice ab B.length cb, .slice aS S.length cS]]) ∧ DpF 30 nm B S ∧ RS 2 lcs w' (.slice ab B.length cb) gb 0 B ∧ SS w' (.slice aS S.length cS) gs 0 S ∧ ((ab = none → cb = 0) ∧ (aS = none → cS = 0)) ∧ Cur b0 w0 w' g v ∧ w.grownBy w' (some g)
theorem DqP.drew {b0 : Nat} {w0 w1 w : World} {g : Nat} {v : Value} {e : Ending} (h : DqP b0 w0 w1 g v e w) : DqP b0 w0 w1 g v e w.drew := by
  obtain ⟨nm, ab, cb, aS, cS, gb, gs, B, S, h1, h2, h3, h4, h5, h6, h7⟩ := h
  exact ⟨nm, ab, cb, aS, cS, gb, gs, B, S, h1, h2, h3, h4, h5, h6.kept (grown_below (row := none) (Below.refl _ _).drew) (by simp) h6.size (fun k hk => by cases hk), h7.trans (grown_below (row := some g) (Below.refl _ _).drew)⟩

theorem dq_end {b0 : Nat} {w0 w w6 : World} {g : Nat} {v : Value} {r gb gs cb cS : Nat} {ab aS : Option Addr} {nm : ByteArray} {B : List Le} {S : List ByteArray} (p5 : PfM w6 r (.slice none 0 0) (.slice none 0 0)) (h1 : RS 2 lcs w6 (.slice ab B.length cb) gb 0 B) (h2 : SS w6 (.slice aS S.length cS) gs 0 S) (h3 : Cur b0 w0 w6 g v) (hp : DpF 30 nm B S) (hgw : w.grownBy w6 (some g)) (hwr : w.heap.size ≤ r) (n1 : ab = none → cb = 0) (n2 : aS = none → cS = 0) (hg : g < r) (hB : b0 ≤ r) (hgb : r < gb) (hgs : r < gs) :
    PfM ((w6.setCell ⟨r, 0, none⟩ (.slice ab B.length cb)).setCell ⟨r, 1, none⟩ (.slice aS S.length cS)) r (.slice ab B.length cb) (.slice aS S.length cS) ∧ DqP b0 w0 w g v (.returned (.tuple #[.string nm, .agg #[.slice ab B.length cb, .slice aS S.length cS]])) ((w6.setCell ⟨r, 0, none⟩ (.slice ab B.length cb)).setCell ⟨r, 1, none⟩ (.slice aS S.length cS)) := by
  have s1 := grown_set w6 r 0 (.slice ab B.length cb)
  have s2 := grown_set (w6.setCell ⟨r, 0, none⟩ (.slice ab B.length cb)) r 1 (.slice aS S.length cS)
  have c1 := h3.kept s1 (by simp; omega) h3.size (fun k hk => by simp at hk; omega)
  have r1 := (h1.grown s1 (fun _ => by simp; omega)).grown s2 (fun _ => by simp; omega)
  have r2 := (h2.grown s1 (fun _ => by simp; omega)).grown s2 (fun _ => by simp; omega)
  have c2 := c1.kept s2 (by simp; omega) c1.size (fun k hk => by simp at hk; omega)
  have q := (p5.set0 (.slice ab B.length cb)).set1 (.slice aS S.length cS)
  have k1 := gb_new hgw s1 (fun q hq => by simp at hq; omega)
  have k2 := gb_new k1 s2 (fun q hq => by simp at hq; omega)
  exact ⟨q, nm, ab, cb, aS, cS, gb, gs, B, S, rfl, hp, r1, r2, ⟨n1, n2⟩, c2, k2⟩

set_option maxRecDepth 100000 in
set_option maxHeartbeats 4000000 in
theorem l11Proof_in (b0 : Nat) (w0 w : World) (g : Nat) (v : Value) (x : Int) (hx : 1 ≤ x ∧ x ≤ 32) (hc : Cur b0 w0 w g v) :
    Calls Tryz.prog 194 #[.pointer (some ⟨g, 0, none⟩), .int .i64 x] w (DqP b0 w0 w g v) := by
  have hB := hc.size
  have hlt := hc.lt
  have hcA : Cur b0 w0 (w.alloc (.cells #[.slice none 0 0, .slice none 0 0] 29)) g v := hc.kept (World.grownBy_alloc w _ none) (by simp) hB (fun k hk => by cases hk)
  have hpR := PfM.new w (.slice none 0 0) (.slice none 0 0)
  obtain ⟨r, hr⟩ : ∃ r, w.heap.size = r := ⟨_, rfl⟩
  have hrg : some r ≠ some g := by simp; omega
  rw [hr] at hpR
  go_enter Tryz.func194, Tryz.ntmps194
  go_wp2_with fail
  refine (l04Name_in b0 w0 _ g v hcA).mono ?_
  rintro e w1 ⟨nm, hnm, rfl, hc1, hg1⟩
  have p1 := hpR.gr hg1 hrg
  have CP := pickI_lit b0 w0 w1 g v 5 lvgL lvgC hc1 rfl (by omega) (by omega) (lvg_at w1)
  have k1 := (World.grownBy_alloc w (.cells #[.slice none 0 0, .slice none 0 0] 29) (some g)).trans hg1
  clear hcA hpR hg1
  go_wp2_with fail
  refine CP.out.mono ?_
  rintro e w2 ⟨l, hl, rfl, hc2, hg2⟩
  have p2 := p1.gr hg2 hrg
  have k2 := k1.trans hg2
  clear p1 CP hc1 hg2 k1
  go_wp2_with fail
  refine (l09Draw_in b0 w0 _ g v hc2).mono ?_
  rintro e w3 ⟨a3, c3, q3, L, rfl, hl8, hc3, hr3, hq3, _, hLk, hnil3, hg3⟩
  have p3 := p2.gr hg3 hrg
  have hl8' : 0 ≤ l ∧ l ≤ 8 := by simp [lvgL] at hl; omega
  have hnk := nameL_ok nm hnm
  have hsL : SmallL L := fun f hf => by have := leB_size (hLk.2.1 f hf); omega
  have hpv := sProveLeaf_lvl _ q3 0 L nm l x w3 hr3.1 hsL (LV.leavesB_iff.2 hLk) hnk.1 hl8' hx (by omega)
  have HPF : Hid (DpF 30 nm (bkL L (idxN nm)) (sdA L (idxN nm) l x)) := by
    have hb := List.length_filter_le (bkP (idxN nm : Int)) L
    have hs := sdA_len L (idxN nm) l x
    refine ⟨hnk.2, ⟨fun f hf => hsL f (List.mem_filter.1 hf).1, ?_⟩, by omega, ?_⟩
    · show (L.filter _).length ≤ 30
      omega
    · unfold sdA
      split
      · intro s hs
        rw [sd_size hx hLk _ _ s hs]
        omega
      · simp
  generalize bkL L (idxN nm) = B at *
  generalize sdA L (idxN nm) l x = S at *
  have k3 := k2.trans hg3
  clear p2 k2 hc2 hg3 hnil3 hq3 hr3 hLk hl8 hl hl8' hnm hsL hnk
  go_wp2_with fail
  refine hpv.mono ?_
  rintro e w4 ⟨ab, cb, aS, cS, gb, gs, rfl, hrb, hss, ⟨hgb, hgs⟩, ⟨n1, n2⟩, hb4⟩
  have hc4 : Cur b0 w0 w4 g v := hc3.kept (grown_below (row := none) hb4) (by simp) hc3.size (fun k hk => by cases hk)
  have p4 := p3.later hb4
  have k4 := k3.trans (grown_below (row := some g) hb4)
  have hr3l := p3.lt
  have hpn := PfM.new w4 (.slice none 0 0) (.slice none 0 0)
  have hbx : Below w4.heap.size w4 ((w4.alloc (.cells #[.slice none 0 0, .slice none 0 0] 29)).setRow w4.heap.size #[.slice ab B.length cb, .slice aS S.length cS]) := below_setRow ((Below.refl _ _).alloc (Nat.le_refl _) _) (Nat.le_refl _)
  have hrw := p4.lt
  clear hpv hb4 p3 hc3 k3
  go_wp2_with (refine wp_storePf rfl _ _ rfl w4.heap.size _ _ (.slice ab B.length cb) (.slice aS S.length cS) hpn rfl rfl rfl rfl ?_; intro hfin)
  obtain ⟨gp, hgp⟩ : ∃ gp, w4.heap.size = gp := ⟨_, rfl⟩
  have p5 := p4.later hbx
  rw [hgp] at hbx hfin p5 ⊢
  have H6 : Hid (RS 2 lcs ((w4.alloc (.cells #[.slice none 0 0, .slice none 0 0] 29)).setRow gp #[.slice ab B.length cb, .slice aS S.length cS]) (.slice ab B.length cb) gb 0 B ∧ SS ((w4.alloc (.cells #[.slice none 0 0, .slice none 0 0] 29)).setRow gp #[.slice ab B.length cb, .slice aS S.length cS]) (.slice aS S.length cS) gs 0 S ∧ Cur b0 w0 ((w4.alloc (.cells #[.slice none 0 0, .slice none 0 0] 29)).setRow gp #[.slice ab B.length cb, .slice aS S.length cS]) g v ∧ w.grownBy ((w4.alloc (.cells #[.slice none 0 0, .slice none 0 0] 29)).setRow gp #[.slice ab B.length cb, .slice aS S.length cS]) (some g)) := by
    rw [← hgp] at hbx ⊢
    exact ⟨hrb.later hbx, hss.below hbx hss.lt, hc4.kept (grown_below (row := none) hbx) (by simp) hc4.size (fun k hk => by cases hk), k4.trans (grown_below (row := some g) hbx)⟩
  have hne : gp ≠ r := by omega
  clear hpn hbx hrb hss hc4 p4 k4
  generalize (w4.alloc (.cells #[.slice none 0 0, .slice none 0 0] 29)).setRow gp #[.slice ab B.length cb, .slice aS S.length cS] = w6 at *
  have HE : Hid (PfM ((w6.setCell ⟨r, 0, none⟩ (.slice ab B.length cb)).setCell ⟨r, 1, none⟩ (.slice aS S.length cS)) r (.slice ab B.length cb) (.slice aS S.length cS) ∧ DqP b0 w0 w g v (.returned (.tuple #[.string nm, .agg #[.slice ab B.length cb, .slice aS S.length cS]])) ((w6.setCell ⟨r, 0, none⟩ (.slice ab B.length cb)).setCell ⟨r, 1, none⟩ (.slice aS S.length cS))) := by
    exact dq_end p5 H6.out.1 H6.out.2.1 H6.out.2.2.1 HPF.out H6.out.2.2.2 (by omega) n1 n2 (by omega) (by omega) (by omega) (by omega)
  have t0 := p5.c0
  have t1 := p5.c1
  have f0 := p5.fr 0
  have f1 := p5.fr 1
  have d0 := hfin.c0
  have d1 := hfin.c1
  clear p5 hfin H6 HPF
  go_region
  generalize (w6.setCell ⟨r, 0, none⟩ (.slice ab B.length cb)).setCell ⟨r, 1, none⟩ (.slice aS S.length cS) = wF at HE ⊢
  clear t0 t1 f0 f1 d0 d1
  go_wp2
  exact ret_tpf 4 5 r (.string nm) _ _ rfl rfl rfl rfl HE.out.1 HE.out.2.drew

end Go.Proofs.YtfojmagcoipbnaaGreatDoor
/-
  A proof drawn, right or not.
-/
namespace Go.Proofs.YtfojmagcoipbnaaGreatDoor
open Go.RowKit Go.BigFrame Go.Sort
set_option linter.unusedVariables false
set_option linter.unusedSimpArgs false

theorem OL.keptS {Bx : Nat} {w0 W W' : World} {v : Value} {l : List Le} {row : Option Nat} (h : OL Bx w0 W v l) (hg : W.grownBy W' row) (hne : v.ownBlock = none ∨ v.ownBlock ≠ row) : OL Bx W' W' v l := ⟨World.ownsRow.kept h.1 hg hne, Below.refl _ _, Nat.le_trans h.2.2 hg.size⟩
theorem OS.keptS {Bx : Nat} {w0 W W' : World} {v : Value} {l : List ByteArray} {row : Option Nat} (h : OS Bx w0 W v l) (hg : W.grownBy W' row) (hne : v.ownBlock = none ∨ v.ownBlock ≠ row) : OS Bx W' W' v l := ⟨World.ownsRow.kept h.1 hg hne, Below.refl _ _, Nat.le_trans h.2.2 hg.size⟩
theorem OS.ssB {Bx : Nat} {w0 W : World} {v : Value} {l : List ByteArray} (h : OS Bx w0 W v l) (hl : l.length ≤ 1100000) : ∃ g, SS W v g 0 l ∧ Bx ≤ g := by
  obtain ⟨g, a, cap, hv, h2, h3, h4⟩ := h.ss hl
  by_cases h0 : 0 < l.length
  · refine ⟨g, ⟨a, cap, hv, h2, h3, h4⟩, ?_⟩
    have e := h3 h0
    subst e
    exact (h.1.lt g (by rw [hv]; rfl)).1
  · exact ⟨Bx, ⟨a, cap, hv, h2, fun k => absurd k h0, fun j hj => absurd hj (by omega)⟩, Nat.le_refl _⟩
/-- one text of a row put in its place -/
theorem OS.elem {Bx : Nat} {w0 W : World} {gs c : Nat} {l : List ByteArray} (h : OS Bx w0 W (.slice (some ⟨gs, 0, none⟩) l.length c) l) (j : Nat) (t : ByteArray) : OS Bx (W.setCell ⟨gs, j, none⟩ (.string t)) (W.setCell ⟨gs, j, none⟩ (.string t)) (.slice (some ⟨gs, 0, none⟩) (l.set j t).length c) (l.set j t) := by
  have hz := h.2.2
  refine ⟨⟨by simp [svs], ?_⟩, Below.refl _ _, by simpa using hz⟩
  rcases h.1.2 with ⟨hv, _⟩ | ⟨g, cap, cur, hv, hbg, hg, h5, h6, h7, h8⟩
  · cases hv
  · obtain ⟨rfl, rfl⟩ : gs = g ∧ c = cap := by simpa using hv
    refine .inr ⟨gs, c, cur.setIfInBounds j (.string t), by simp, hbg, heap_setCell_same W gs j cur _ _ hg, by simpa using h5, h6, by simpa using h7, ?_⟩
    simp only [List.length_set, Array.toList_setIfInBounds, List.take_set, h8]
    simp [svs, List.map_set]

theorem OS.cellS {Bx : Nat} {w0 W : World} {gs c : Nat} {l : List ByteArray} (h : OS Bx w0 W (.slice (some ⟨gs, 0, none⟩) l.length c) l) (j : Nat) (hj : j < l.length) : (∃ u, W.cell? ⟨gs, j, none⟩ = some u) ∧ W.frozen? ⟨gs, j, none⟩ = false := by
  rcases h.1.2 with ⟨hv, _⟩ | ⟨g, cap, cur, hv, hbg, hg, h5, h6, h7, h8⟩
  · cases hv
  · obtain ⟨rfl, rfl⟩ : gs = g ∧ c = cap := by simpa using hv
    refine ⟨⟨cur[j]'(by omega), ?_⟩, by simp [World.frozen?, hg]⟩
    rw [cell_of_row W gs j _ _ _ hg]
    exact Array.getElem?_eq_getElem _
theorem rep_size (n : Nat) (x : UInt8) : (⟨(List.replicate n x).toArray⟩ : ByteArray).size = n := by simp [ByteArray.size]
theorem DpF.bucket {nm : ByteArray} {B : List Le} {S : List ByteArray} {f : Le} (h : DpF 30 nm B S) (h1 : f.n.size ≤ 12) (h2 : f.v.size ≤ 12) : DpF 40 nm (B ++ [f]) S := ⟨h.1, ⟨h.2.1.1.add h1 h2, by have := h.2.1.2; simp; omega⟩, by have := h.2.2.1; omega, h.2.2.2⟩
theorem DpF.elem {nm : ByteArray} {B : List Le} {S : List ByteArray} {t : ByteArray} (h : DpF 30 nm B S) (ht : t.size ≤ 64) (j : Nat) : DpF 40 nm B (S.set j t) := ⟨h.1, ⟨h.2.1.1, by have := h.2.1.2; omega⟩, by have := h.2.2.1; simp; omega, fun s hs => by
  rcases List.mem_or_eq_of_mem_set hs with h0 | rfl
  · exact h.2.2.2 s h0
  · exact ht⟩
theorem DpF.sides {nm : ByteArray} {B : List Le} {S : List ByteArray} {t : ByteArray} (h : DpF 30 nm B S) (ht : t.size ≤ 64) : DpF 40 nm B (S ++ [t, ⟨#[120]⟩]) := ⟨h.1, ⟨h.2.1.1, by have := h.2.1.2; omega⟩, by have := h.2.2.1; simp; omega, fun s hs => by
  rcases List.mem_append.1 hs with h0 | h0
  · exact h.2.2.2 s h0
  · simp at h0
    rcases h0 with rfl | rfl
    · exact ht
    · decide⟩
theorem DpF.name {nm n : ByteArray} {B : List Le} {S : List ByteArray} (h : DpF 30 nm B S) (hn : n.size ≤ 12) : DpF 40 n B S := ⟨hn, ⟨h.2.1.1, by have := h.2.1.2; omega⟩, by have := h.2.2.1; omega, h.2.2.2⟩
def otL : List ByteArray := [⟨#[]⟩, ⟨#[111, 116, 104, 101, 114]⟩]
def otC : Array Value := #[.string ⟨#[]⟩, .string ⟨#[111, 116, 104, 101, 114]⟩]
theorem ot_at (w : World) : Hid (∀ j, (h : j < otL.length) → (w.alloc (.cells otC 9)).cell? ⟨w.heap.size, j, none⟩ = some (.string otL[j])) := by
  intro j hj
  rw [World.cell?_alloc_at _ _ _ _ rfl]
  have : j = 0 ∨ j = 1 := by simp [otL] at hj; omega
  rcases this with rfl | rfl <;> rfl
theorem ot_ok : ∀ y ∈ otL, y.size ≤ 12 := by decide +kernel

/-- what l11Any keeps: the cursor, the box of the answer, the proof in its box, its rows -/
def TkI (b0 : Nat) (w0 w : World) (g : Nat) (v : Value) (r gp Bx : Nat) (vb vs : Value) (B : List Le) (S : List ByteArray) (W : World) : Prop :=
  Cur b0 w0 W g v ∧ PfM W r (.slice none 0 0) (.slice none 0 0) ∧ PfM W gp vb vs ∧ OL Bx W W vb B ∧ OS Bx W W vs S ∧ (g < r ∧ r < gp ∧ gp < Bx) ∧ w.grownBy W (some g) ∧ w.heap.size ≤ r
/-- what is answered of it -/
def DpP (b0 : Nat) (w0 w : World) (g : Nat) (v : Value) (e : Ending) (w' : World) : Prop := ∃ (nm : ByteArray) (vb vs : Value) (gb gs : Nat) (B : List Le) (S : List ByteArray), e = .returned (.tuple #[.string nm, .agg #[vb, vs]]) ∧ DpF 40 nm B S ∧ RS 2 lcs w' vb gb 0 B ∧ SS w' vs gs 0 S ∧ (g < gb ∧ g < gs) ∧ Cur b0 w0 w' g v ∧ w.grownBy w' (some g)
section
variable {b0 : Nat} {w0 w : World} {g : Nat} {v : Value} {r gp Bx : Nat} {vb vs : Value} {B : List Le} {S : List ByteArray} {W W' : World}
theorem TkI.later (h : TkI b0 w0 w g v r gp Bx vb vs B S W) (hb : Below W.heap.size W W') : TkI b0 w0 w g v r gp Bx vb vs B S W' := by
  obtain ⟨h1, h2, h3, h4, h5, h6, h7, h8⟩ := h
  exact ⟨h1.kept (grown_below (row := none) hb) (by simp) h1.size (fun k hk => by cases hk), h2.later hb, h3.later hb, (h4.later hb).self, ⟨(h5.later hb).1, Below.refl _ _, (h5.later hb).2.2⟩, h6, h7.trans (grown_below (row := some g) hb), h8⟩
theorem TkI.drawn (h : TkI b0 w0 w g v r gp Bx vb vs B S W) (hc : Cur b0 w0 W' g v) (hg : W.grownBy W' (some g)) : TkI b0 w0 w g v r gp Bx vb vs B S W' := by
  obtain ⟨h1, h2, h3, h4, h5, ⟨h6, h7, h8⟩, h9, h0⟩ := h
  exact ⟨hc, h2.gr hg (by simp; omega), h3.gr hg (by simp; omega), h4.keptS hg (.inr (own_gt h4.1 (by omega))), h5.keptS hg (.inr (own_gt h5.1 (by omega))), ⟨h6, h7, h8⟩, h9.trans hg, h0⟩
/-- a block from Bx on changed, which is neither of the rows -/
theorem TkI.own (h : TkI b0 w0 w g v r gp Bx vb vs B S W) {row : Option Nat} (hg : W.grownBy W' row) (hr : ∀ q, row = some q → Bx ≤ q) : Cur b0 w0 W' g v ∧ PfM W' r (.slice none 0 0) (.slice none 0 0) ∧ PfM W' gp vb vs ∧ w.grownBy W' (some g) := by
  obtain ⟨h1, h2, h3, h4, h5, ⟨h6, h7, h8⟩, h9, h0⟩ := h
  have nb : ∀ q, q < Bx → some q ≠ row := fun q hq e => by have := hr q e.symm; omega
  exact ⟨h1.kept hg (nb g (by omega)) h1.size (fun k hk => by have := hr k hk; have := h1.size; have := h1.1; omega), h2.gr hg (nb r (by omega)), h3.gr hg (nb gp (by omega)), gb_new h9 hg (fun q hq => by have := hr q hq; omega)⟩
/-- the proof's box written -/
theorem TkI.box0 (hc : Cur b0 w0 W g v) (h2 : PfM W r (.slice none 0 0) (.slice none 0 0)) (h3 : PfM W gp vb vs) (h9 : w.grownBy W (some g)) {vb' : Value} {B' : List Le} (h4 : OL Bx W W vb' B') (h5 : OS Bx W W vs S) (h6 : g < r ∧ r < gp ∧ gp < Bx) (h0 : w.heap.size ≤ r) : TkI b0 w0 w g v r gp Bx vb' vs B' S (W.setCell ⟨gp, 0, none⟩ vb') := by
  have hs := grown_set W gp 0 vb'
  have hB := hc.1
  exact ⟨hc.kept hs (by simp; omega) hc.size (fun k hk => by simp at hk; omega), h2.gr hs (by simp; omega), h3.set0 _, h4.keptS hs (.inr (own_gt h4.1 h6.2.2)), h5.keptS hs (.inr (own_gt h5.1 h6.2.2)), h6, gb_new h9 hs (fun q hq => by simp at hq; omega), h0⟩
theorem TkI.box1 (hc : Cur b0 w0 W g v) (h2 : PfM W r (.slice none 0 0) (.slice none 0 0)) (h3 : PfM W gp vb vs) (h9 : w.grownBy W (some g)) {vs' : Value} {S' : List ByteArray} (h4 : OL Bx W W vb B) (h5 : OS Bx W W vs' S') (h6 : g < r ∧ r < gp ∧ gp < Bx) (h0 : w.heap.size ≤ r) : TkI b0 w0 w g v r gp Bx vb vs' B S' (W.setCell ⟨gp, 1, none⟩ vs') := by
  have hs := grown_set W gp 1 vs'
  have hB := hc.1
  exact ⟨hc.kept hs (by simp; omega) hc.size (fun k hk => by simp at hk; omega), h2.gr hs (by simp; omega), h3.set1 _, h4.keptS hs (.inr (own_gt h4.1 h6.2.2)), h5.keptS hs (.inr (own_gt h5.1 h6.2.2)), h6, gb_new h9 hs (fun q hq => by simp at hq; omega), h0⟩
/-- the bucket grown -/
theorem TkI.bucket (h : TkI b0 w0 w g v r gp Bx vb vs B S W) {wx : World} {u : Value} {B' : List Le} (ho : OL Bx wx W' u B') (hg : W.grownBy W' vb.ownBlock) : TkI b0 w0 w g v r gp Bx u vs B' S (W'.setCell ⟨gp, 0, none⟩ u) := by
  obtain ⟨c1, p2, p3, k1⟩ := h.own hg (fun q hq => (h.2.2.2.1.1.lt q hq).1)
  obtain ⟨h1, h2, h3, h4, h5, h6, h7, h8⟩ := h
  have s5 : OS Bx W' W' vs S := h5.keptS hg (by
    cases hv : vs.ownBlock with
    | none => exact .inl rfl
    | some q => exact .inr (fun he => h4.neF h5 hv he.symm))
  exact TkI.box0 c1 p2 p3 k1 ho.self s5 h6 h8
/-- the sides grown -/
theorem TkI.sides (h : TkI b0 w0 w g v r gp Bx vb vs B S W) {wx : World} {u : Value} {S' : List ByteArray} (ho : OS Bx wx W' u S') (hg : W.grownBy W' vs.ownBlock) : TkI b0 w0 w g v r gp Bx vb u B S' (W'.setCell ⟨gp, 1, none⟩ u) := by
  obtain ⟨c1, p2, p3, k1⟩ := h.own hg (fun q hq => (h.2.2.2.2.1.1.lt q hq).1)
  obtain ⟨h1, h2, h3, h4, h5, h6, h7, h8⟩ := h
  have s4 : OL Bx W' W' vb B := h4.keptS hg (by
    cases hv : vs.ownBlock with
    | none =>
      cases hw : vb.ownBlock with
      | none => exact .inl rfl
      | some q => exact .inr (by simp)
    | some q => exact .inr (h4.neF h5 hv))
  exact TkI.box1 c1 p2 p3 k1 s4 ⟨ho.1, Below.refl _ _, ho.2.2⟩ h6 h8
/-- one side put in its place -/
theorem TkI.elem {gs c : Nat} (h : TkI b0 w0 w g v r gp Bx vb (.slice (some ⟨gs, 0, none⟩) S.length c) B S W) (j : Nat) (t : ByteArray) : TkI b0 w0 w g v r gp Bx vb (.slice (some ⟨gs, 0, none⟩) S.length c) B (S.set j t) (W.setCell ⟨gs, j, none⟩ (.string t)) := by
  have hs := grown_set W gs j (.string t)
  obtain ⟨c1, p2, p3, k1⟩ := h.own hs (fun q hq => (h.2.2.2.2.1.1.lt q (by rw [← hq]; rfl)).1)
  obtain ⟨h1, h2, h3, h4, h5, h6, h7, h8⟩ := h
  have h9 := h5.elem j t
  rw [List.length_set] at h9
  exact ⟨c1, p2, p3, h4.keptS hs (.inr (h4.neF h5 rfl)), h9, h6, k1, h8⟩
/-- its end: the proof copied to the answer's box -/
theorem tk_end (h : TkI b0 w0 w g v r gp Bx vb vs B S W) {nm : ByteArray} (hp : DpF 40 nm B S) : PfM ((W.setCell ⟨r, 0, none⟩ vb).setCell ⟨r, 1, none⟩ vs) r vb vs ∧ DpP b0 w0 w g v (.returned (.tuple #[.string nm, .agg #[vb, vs]])) ((W.setCell ⟨r, 0, none⟩ vb).setCell ⟨r, 1, none⟩ vs) := by
  obtain ⟨h1, h2, h3, h4, h5, ⟨h6, h7, h8⟩, h9, h0⟩ := h
  have s1 := grown_set W r 0 vb
  have s2 := grown_set (W.setCell ⟨r, 0, none⟩ vb) r 1 vs
  have hB := h1.1
  have c1 := h1.kept s1 (by simp; omega) h1.size (fun k hk => by simp at hk; omega)
  have c2 := c1.kept s2 (by simp; omega) c1.size (fun k hk => by simp at hk; omega)
  have k1 := gb_new h9 s1 (fun q hq => by simp at hq; omega)
  have k2 := gb_new k1 s2 (fun q hq => by simp at hq; omega)
  have l1 := (h4.keptS s1 (.inr (own_gt h4.1 (by omega)))).keptS s2 (.inr (own_gt h4.1 (by omega)))
  have l2 := (h5.keptS s1 (.inr (own_gt h5.1 (by omega)))).keptS s2 (.inr (own_gt h5.1 (by omega)))
  obtain ⟨gb, hb, hgb, _⟩ := l1.rw (by have := hp.2.1.2; omega)
  obtain ⟨gs, hs, hgs⟩ := l2.ssB (by have := hp.2.2.1; omega)
  exact ⟨(h2.set0 vb).set1 vs, nm, vb, vs, gb, gs, B, S, rfl, hp, hb.1, hs, ⟨by omega, by omega⟩, c2, k2⟩
theorem DpP.drew {e : Ending} (h : DpP b0 w0 w g v e W) : DpP b0 w0 w g v e W.drew := by
  obtain ⟨nm, vb, vs, gb, gs, B, S, h1, h2, h3, h4, h5, h6, h7⟩ := h
  exact ⟨nm, vb, vs, gb, gs, B, S, h1, h2, h3, h4, h5, h6.kept (grown_below (row := none) (Below.refl _ _).drew) (by simp) h6.size (fun k hk => by cases hk), h7.trans (grown_below (row := some g) (Below.refl _ _).drew)⟩
end

set_option maxRecDepth 100000 in
set_option maxHeartbeats 4000000 in
theorem l11Any_in (b0 : Nat) (w0 w : World) (g : Nat) (v : Value) (x : Int) (hx : 1 ≤ x ∧ x ≤ 32) (hc : Cur b0 w0 w g v) :
    Calls Tryz.prog 98 #[.pointer (some ⟨g, 0, none⟩), .int .i64 x] w (DpP b0 w0 w g v) := by
  have hB := hc.size
  have hlt := hc.lt
  have hcA : Cur b0 w0 (w.alloc (.cells #[.slice none 0 0, .slice none 0 0] 29)) g v := hc.kept (World.grownBy_alloc w _ none) (by simp) hB (fun k hk => by cases hk)
  have hpR := PfM.new w (.slice none 0 0) (.slice none 0 0)
  obtain ⟨r, hr⟩ : ∃ r, w.heap.size = r := ⟨_, rfl⟩
  have hrg : some r ≠ some g := by simp; omega
  rw [hr] at hpR
  go_enter Tryz.func98, Tryz.ntmps98
  go_wp2_with fail
  refine (l01Below_in b0 w0 _ g v 12 12 rfl hcA (by omega) (by omega)).mono ?_
  rintro e w1 ⟨k, hk, rfl, hc1, hg1⟩
  have p1 := hpR.gr hg1 hrg
  have k1 := (World.grownBy_alloc w (.cells #[.slice none 0 0, .slice none 0 0] 29) (some g)).trans hg1
  clear hcA hpR hg1
  go_wp2_with fail
  refine (l01Below_in b0 w0 _ g v 60 60 rfl hc1 (by omega) (by omega)).mono ?_
  rintro e w2 ⟨y, hy, rfl, hc2, hg2⟩
  have p2 := p1.gr hg2 hrg
  have k2 := k1.trans hg2
  clear p1 k1 hc1 hg2
  go_wp2_with fail
  refine (l11Proof_in b0 w0 _ g v x hx hc2).mono ?_
  rintro e w3 ⟨nm, ab, cb, aS, cS, gb, gs, B, S, rfl, hpf, hrb, hss, ⟨n1, n2⟩, hc3, hg3⟩
  have p3 := p2.gr hg3 hrg
  have k3 := k2.trans hg3
  have hpn := PfM.new w3 (.slice none 0 0) (.slice none 0 0)
  clear p2 k2 hc2 hg3
  go_wp2_with (first | (refine wp_loadPf rfl _ rfl w3.heap.size _ _ rfl hfin ?_) | (refine wp_storePf rfl _ _ rfl w3.heap.size _ _ (.slice ab B.length cb) (.slice aS S.length cS) hpn rfl rfl rfl rfl ?_; intro hfin))
  have hbx : Below w3.heap.size w3 ((w3.alloc (.cells #[.slice none 0 0, .slice none 0 0] 29)).setRow w3.heap.size #[.slice ab B.length cb, .slice aS S.length cS]) := below_setRow ((Below.refl _ _).alloc (Nat.le_refl _) _) (Nat.le_refl _)
  have hgr := p3.lt
  have p4 := p3.later hbx
  have k4 := k3.trans (grown_below (row := some g) hbx)
  have hc4 := hc3.kept (grown_below (row := none) hbx) (by simp) hc3.size (fun k hk => by cases hk)
  have hrb4 := hrb.later hbx
  have hss4 := hss.below hbx hss.lt
  obtain ⟨gp, hgp⟩ : ∃ gp, w3.heap.size = gp := ⟨_, rfl⟩
  rw [hgp] at hfin p4 k4 hc4 hrb4 hss4 ⊢
  rw [hgp] at hgr
  clear hpn hbx hrb hss hc3 p3 k3
  generalize (w3.alloc (.cells #[.slice none 0 0, .slice none 0 0] 29)).setRow gp #[.slice ab B.length cb, .slice aS S.length cS] = w4 at *
  clear hgp
  refine (l11Copy_own ab cb aS cS gb gs B S w4 hrb4 hss4 n1 n2 (by have := hpf.2.1.2; omega) (by have := hpf.2.2.1; omega)).mono ?_
  rintro e w5 ⟨a5, c5, a6, c6, rfl, ho5, hs5⟩
  have hb5 := ho5.2.1
  have hlt4 := hfin.lt
  have q5 := hfin.later hb5
  have HI : Hid (TkI b0 w0 w g v r gp w4.heap.size (.slice a5 B.length c5) (.slice a6 S.length c6) B S (w5.setRow gp #[.slice a5 B.length c5, .slice a6 S.length c6])) := by
    have hs := grown_setRowP w5 gp #[.slice a5 B.length c5, .slice a6 S.length c6]
    have c5' := hc4.kept (grown_below (row := none) hb5) (by simp) hc4.size (fun k hk => by cases hk)
    have hB' := hc4.1
    exact ⟨c5'.kept hs (by simp; omega) c5'.size (fun k hk => by simp at hk; omega), (p4.later hb5).gr hs (by simp; omega), setRow_heap w5 gp _ _ _ _ q5, ho5.keptS hs (.inr (own_gt ho5.1 (by omega))), hs5.keptS hs (.inr (own_gt hs5.1 (by omega))), ⟨by omega, by omega, by omega⟩, gb_new (k4.trans (grown_below (row := some g) hb5)) hs (fun q hq => by simp at hq; omega), by omega⟩
  clear hc4 p4 k4 hrb4 hss4 n1 n2 ho5 hs5 hb5 hfin hlt4
  have hkk : k = 0 ∨ k = 1 ∨ (¬ (k : Int) = 0 ∧ ¬ (k : Int) = 1 ∧ (k : Int) = 2) ∨ (¬ (k : Int) = 0 ∧ ¬ (k : Int) = 1 ∧ ¬ (k : Int) = 2 ∧ (k : Int) = 3) ∨ (¬ (k : Int) = 0 ∧ ¬ (k : Int) = 1 ∧ ¬ (k : Int) = 2 ∧ ¬ (k : Int) = 3) := by omega
  have hne : gp ≠ r := by omega
  rcases hkk with rfl | rfl | ⟨h0, h1, h2⟩ | ⟨h0, h1, h2, h3⟩ | ⟨h0, h1, h2, h3⟩
  · go_wp2_with (refine wp_storePf rfl _ _ rfl gp _ _ (.slice a5 B.length c5) (.slice a6 S.length c6) q5 rfl rfl rfl rfl ?_; intro hq; generalize w5.setRow gp #[.slice a5 B.length c5, .slice a6 S.length c6] = w6 at HI hq ⊢; have z0 := hq.c0; have z1 := hq.c1)
    have HD : Hid (TkI b0 w0 w g v r gp w4.heap.size (.slice a5 B.length c5) (.slice a6 S.length c6) B S w6.drew) := HI.out.later (Below.refl _ _).drew
    clear HI hq z1
    refine wp_region_held_drew (S := fun _ => True) (by kernel_rfl) trivial (fun hH => ?_)
    refine wpAnyH_take (i := 0) (v := .pointer (some ⟨gp, 0, none⟩)) rfl (by kernel_rfl) (by kernel_rfl) (by kernel_rfl) (fun _ _ _ h => h) (Or.inl ⟨by rfl, fun w hw => by go_simp⟩) hH ?_
    simp only [Act.put, List.setIfInBounds_toArray, List.set_cons_zero, List.set_cons_succ]
    refine wpAnyH_take (i := 2) (v := .pointer (some ⟨g, 0, none⟩)) rfl (by kernel_rfl) (by kernel_rfl) (by kernel_rfl) (fun _ _ _ h => h) (Or.inl ⟨by rfl, fun w hw => by go_simp⟩) hH ?_
    simp only [Act.put, List.setIfInBounds_toArray, List.set_cons_zero, List.set_cons_succ]
    refine wpAnyH_ready (rs := [1, 3]) (by kernel_rfl) (by simp) ?_
    refine AllReadyH.cons rfl (fun K' hK' => ?_) (AllReadyH.cons rfl (fun K' hK' => ?_) AllReadyH.nil)
    · go_simp
      refine hK'.out _ _ trivial (fun hH => ?_)
      refine wpAnyH_ready (rs := [3]) (by kernel_rfl) (by simp) ?_
      refine AllReadyH.cons rfl (fun K' hK' => ?_) AllReadyH.nil
      go_simp
      go_at_call 72
      refine (l04Name_in b0 w0 _ g v HD.out.1).mono ?_
      rintro e w7 ⟨n7, hn7, rfl, hc7, hg7⟩
      have H7 : Hid (TkI b0 w0 w g v r gp w4.heap.size (.slice a5 B.length c5) (.slice a6 S.length c6) B S w7) := HD.out.drawn hc7 hg7
      have HRN := leaf_new w7 ⟨n7, ⟨#[118]⟩⟩
      have HOA := H7.out.2.2.2.1.beside ⟨n7, ⟨#[118]⟩⟩
      have x7 := H7.out.2.2.1.c0
      have y7 := cell_up x7 ((Below.refl w7.heap.size w7).alloc (Nat.le_refl _) (.cells #[.string n7, .string ⟨#[118]⟩] 121))
      clear hc7 hg7
      go_wp2_with fail
      refine hK'.out _ _ trivial (fun hH => ?_)
      refine wpAnyH_take (i := 4) (v := .agg #[.string n7, .string ⟨#[118]⟩]) rfl (by kernel_rfl) (by kernel_rfl) (by kernel_rfl) (fun _ _ _ h => h) (Or.inl ⟨by rfl, fun w hw => by go_simp⟩) hH ?_
      simp only [Act.put, List.setIfInBounds_toArray, List.set_cons_zero, List.set_cons_succ]
      refine wpAnyH_ready (rs := [5]) (by kernel_rfl) (by simp) ?_
      refine AllReadyH.cons rfl (fun K' hK' => ?_) AllReadyH.nil
      go_simp
      refine hK'.out _ _ trivial (fun hH => ?_)
      refine wpAnyH_ready (rs := [6]) (by kernel_rfl) (by simp) ?_
      refine AllReadyH.cons rfl (fun K' hK' => ?_) AllReadyH.nil
      refine step_leafL rfl _ _ rfl w4.heap.size w7 (.slice a5 B.length c5) B ⟨n7, ⟨#[118]⟩⟩ (by rfl) HOA w7.heap.size (by rfl) HRN.out (by have := hpf.2.1.2; omega) ?_
      intro g8 cap8 w8 ho8 hg8 hl8
      have HJ : Hid (TkI b0 w0 w g v r gp w4.heap.size (.slice a5 B.length c5) (.slice a6 S.length c6) B S (w7.alloc (.cells #[.string n7, .string ⟨#[118]⟩] 121))) := H7.out.later ((Below.refl _ _).alloc (Nat.le_refl _) _)
      have p8 := (HJ.out.own hg8 (fun q hq => (HJ.out.2.2.2.1.1.lt q hq).1)).2.2.1
      have x0 := p8.c0
      have x1 := p8.fr 0
      have HF : Hid (TkI b0 w0 w g v r gp w4.heap.size (.slice (some ⟨g8, 0, none⟩) (B.length + 1) cap8) (.slice a6 S.length c6) (B ++ [⟨n7, ⟨#[118]⟩⟩]) S (w8.setCell ⟨gp, 0, none⟩ (.slice (some ⟨g8, 0, none⟩) (B.length + 1) cap8))) := HJ.out.bucket ho8 hg8
      clear HJ p8 ho8 hg8 hl8 HOA HRN H7 x7 y7
      refine hK'.out _ _ trivial (fun hH => ?_)
      simp only [Act.put, List.setIfInBounds_toArray, List.set_cons_zero, List.set_cons_succ]
      refine wpAnyH_take (i := 7) (v := .pointer (some ⟨gp, 0, none⟩)) rfl (by kernel_rfl) (by kernel_rfl) (by kernel_rfl) (fun _ _ _ h => h) (Or.inl ⟨by rfl, fun w hw => by go_simp⟩) hH ?_
      simp only [Act.put, List.setIfInBounds_toArray, List.set_cons_zero, List.set_cons_succ]
      refine wpAnyH_ready (rs := [8]) (by kernel_rfl) (by simp) ?_
      refine AllReadyH.cons rfl (fun K' hK' => ?_) AllReadyH.nil
      go_simp
      refine hK'.out _ _ trivial (fun hH => ?_)
      refine wpAnyH_done (by kernel_rfl) ?_ _
      clear x0 x1 hH
      generalize w8.setCell ⟨gp, 0, none⟩ (.slice (some ⟨g8, 0, none⟩) (B.length + 1) cap8) = w9 at HF ⊢
      go_wp2_with fail
      have HE : Hid _ := tk_end HF.out (hpf.bucket (nameL_ok n7 hn7).2 (by show (⟨#[118]⟩ : ByteArray).size ≤ 12; decide))
      have t0 := HF.out.2.1.c0
      have t1 := HF.out.2.1.c1
      have f0 := HF.out.2.1.fr 0
      have f1 := HF.out.2.1.fr 1
      have d0 := HF.out.2.2.1.c0
      have d1 := HF.out.2.2.1.c1
      clear HF
      go_region
      generalize (w9.setCell ⟨r, 0, none⟩ (.slice (some ⟨g8, 0, none⟩) (B.length + 1) cap8)).setCell ⟨r, 1, none⟩ (.slice a6 S.length c6) = wF at HE ⊢
      clear t0 t1 f0 f1 d0 d1
      go_wp2
      exact ret_tpf 4 5 r (.string nm) _ _ rfl rfl rfl rfl HE.out.1 HE.out.2.drew
    · go_simp
      go_at_call 72
      refine (l04Name_in b0 w0 _ g v HD.out.1).mono ?_
      rintro e w7 ⟨n7, hn7, rfl, hc7, hg7⟩
      have H7 : Hid (TkI b0 w0 w g v r gp w4.heap.size (.slice a5 B.length c5) (.slice a6 S.length c6) B S w7) := HD.out.drawn hc7 hg7
      have HRN := leaf_new w7 ⟨n7, ⟨#[118]⟩⟩
      have HOA := H7.out.2.2.2.1.beside ⟨n7, ⟨#[118]⟩⟩
      have x7 := H7.out.2.2.1.c0
      have y7 := cell_up x7 ((Below.refl w7.heap.size w7).alloc (Nat.le_refl _) (.cells #[.string n7, .string ⟨#[118]⟩] 121))
      clear hc7 hg7
      go_wp2_with fail
      refine hK'.out _ _ trivial (fun hH => ?_)
      refine wpAnyH_take (i := 4) (v := .agg #[.string n7, .string ⟨#[118]⟩]) rfl (by kernel_rfl) (by kernel_rfl) (by kernel_rfl) (fun _ _ _ h => h) (Or.inl ⟨by rfl, fun w hw => by go_simp⟩) hH ?_
      simp only [Act.put, List.setIfInBounds_toArray, List.set_cons_zero, List.set_cons_succ]
      refine wpAnyH_ready (rs := [1, 5]) (by kernel_rfl) (by simp) ?_
      refine AllReadyH.cons rfl (fun K' hK' => ?_) (AllReadyH.cons rfl (fun K' hK' => ?_) AllReadyH.nil)
      · go_simp
        refine hK'.out _ _ trivial (fun hH => ?_)
        refine wpAnyH_ready (rs := [5]) (by kernel_rfl) (by simp) ?_
        refine AllReadyH.cons rfl (fun K' hK' => ?_) AllReadyH.nil
        go_simp
        refine hK'.out _ _ trivial (fun hH => ?_)
        refine wpAnyH_ready (rs := [6]) (by kernel_rfl) (by simp) ?_
        refine AllReadyH.cons rfl (fun K' hK' => ?_) AllReadyH.nil
        refine step_leafL rfl _ _ rfl w4.heap.size w7 (.slice a5 B.length c5) B ⟨n7, ⟨#[118]⟩⟩ (by rfl) HOA w7.heap.size (by rfl) HRN.out (by have := hpf.2.1.2; omega) ?_
        intro g8 cap8 w8 ho8 hg8 hl8
        have HJ : Hid (TkI b0 w0 w g v r gp w4.heap.size (.slice a5 B.length c5) (.slice a6 S.length c6) B S (w7.alloc (.cells #[.string n7, .string ⟨#[118]⟩] 121))) := H7.out.later ((Below.refl _ _).alloc (Nat.le_refl _) _)
        have p8 := (HJ.out.own hg8 (fun q hq => (HJ.out.2.2.2.1.1.lt q hq).1)).2.2.1
        have x0 := p8.c0
        have x1 := p8.fr 0
        have HF : Hid (TkI b0 w0 w g v r gp w4.heap.size (.slice (some ⟨g8, 0, none⟩) (B.length + 1) cap8) (.slice a6 S.length c6) (B ++ [⟨n7, ⟨#[118]⟩⟩]) S (w8.setCell ⟨gp, 0, none⟩ (.slice (some ⟨g8, 0, none⟩) (B.length + 1) cap8))) := HJ.out.bucket ho8 hg8
        clear HJ p8 ho8 hg8 hl8 HOA HRN H7 x7 y7
        refine hK'.out _ _ trivial (fun hH => ?_)
        simp only [Act.put, List.setIfInBounds_toArray, List.set_cons_zero, List.set_cons_succ]
        refine wpAnyH_take (i := 7) (v := .pointer (some ⟨gp, 0, none⟩)) rfl (by kernel_rfl) (by kernel_rfl) (by kernel_rfl) (fun _ _ _ h => h) (Or.inl ⟨by rfl, fun w hw => by go_simp⟩) hH ?_
        simp only [Act.put, List.setIfInBounds_toArray, List.set_cons_zero, List.set_cons_succ]
        refine wpAnyH_ready (rs := [8]) (by kernel_rfl) (by simp) ?_
        refine AllReadyH.cons rfl (fun K' hK' => ?_) AllReadyH.nil
        go_simp
        refine hK'.out _ _ trivial (fun hH => ?_)
        refine wpAnyH_done (by kernel_rfl) ?_ _
        clear x0 x1 hH
        generalize w8.setCell ⟨gp, 0, none⟩ (.slice (some ⟨g8, 0, none⟩) (B.length + 1) cap8) = w9 at HF ⊢
        go_wp2_with fail
        have HE : Hid _ := tk_end HF.out (hpf.bucket (nameL_ok n7 hn7).2 (by show (⟨#[118]⟩ : ByteArray).size ≤ 12; decide))
        have t0 := HF.out.2.1.c0
        have t1 := HF.out.2.1.c1
        have f0 := HF.out.2.1.fr 0
        have f1 := HF.out.2.1.fr 1
        have d0 := HF.out.2.2.1.c0
        have d1 := HF.out.2.2.1.c1
        clear HF
        go_region
        generalize (w9.setCell ⟨r, 0, none⟩ (.slice (some ⟨g8, 0, none⟩) (B.length + 1) cap8)).setCell ⟨r, 1, none⟩ (.slice a6 S.length c6) = wF at HE ⊢
        clear t0 t1 f0 f1 d0 d1
        go_wp2
        exact ret_tpf 4 5 r (.string nm) _ _ rfl rfl rfl rfl HE.out.1 HE.out.2.drew
      · go_simp
        refine hK'.out _ _ trivial (fun hH => ?_)
        refine wpAnyH_ready (rs := [1]) (by kernel_rfl) (by simp) ?_
        refine AllReadyH.cons rfl (fun K' hK' => ?_) AllReadyH.nil
        go_simp
        refine hK'.out _ _ trivial (fun hH => ?_)
        refine wpAnyH_ready (rs := [6]) (by kernel_rfl) (by simp) ?_
        refine AllReadyH.cons rfl (fun K' hK' => ?_) AllReadyH.nil
        refine step_leafL rfl _ _ rfl w4.heap.size w7 (.slice a5 B.length c5) B ⟨n7, ⟨#[118]⟩⟩ (by rfl) HOA w7.heap.size (by rfl) HRN.out (by have := hpf.2.1.2; omega) ?_
        intro g8 cap8 w8 ho8 hg8 hl8
        have HJ : Hid (TkI b0 w0 w g v r gp w4.heap.size (.slice a5 B.length c5) (.slice a6 S.length c6) B S (w7.alloc (.cells #[.string n7, .string ⟨#[118]⟩] 121))) := H7.out.later ((Below.refl _ _).alloc (Nat.le_refl _) _)
        have p8 := (HJ.out.own hg8 (fun q hq => (HJ.out.2.2.2.1.1.lt q hq).1)).2.2.1
        have x0 := p8.c0
        have x1 := p8.fr 0
        have HF : Hid (TkI b0 w0 w g v r gp w4.heap.size (.slice (some ⟨g8, 0, none⟩) (B.length + 1) cap8) (.slice a6 S.length c6) (B ++ [⟨n7, ⟨#[118]⟩⟩]) S (w8.setCell ⟨gp, 0, none⟩ (.slice (some ⟨g8, 0, none⟩) (B.length + 1) cap8))) := HJ.out.bucket ho8 hg8
        clear HJ p8 ho8 hg8 hl8 HOA HRN H7 x7 y7
        refine hK'.out _ _ trivial (fun hH => ?_)
        simp only [Act.put, List.setIfInBounds_toArray, List.set_cons_zero, List.set_cons_succ]
        refine wpAnyH_take (i := 7) (v := .pointer (some ⟨gp, 0, none⟩)) rfl (by kernel_rfl) (by kernel_rfl) (by kernel_rfl) (fun _ _ _ h => h) (Or.inl ⟨by rfl, fun w hw => by go_simp⟩) hH ?_
        simp only [Act.put, List.setIfInBounds_toArray, List.set_cons_zero, List.set_cons_succ]
        refine wpAnyH_ready (rs := [8]) (by kernel_rfl) (by simp) ?_
        refine AllReadyH.cons rfl (fun K' hK' => ?_) AllReadyH.nil
        go_simp
        refine hK'.out _ _ trivial (fun hH => ?_)
        refine wpAnyH_done (by kernel_rfl) ?_ _
        clear x0 x1 hH
        generalize w8.setCell ⟨gp, 0, none⟩ (.slice (some ⟨g8, 0, none⟩) (B.length + 1) cap8) = w9 at HF ⊢
        go_wp2_with fail
        have HE : Hid _ := tk_end HF.out (hpf.bucket (nameL_ok n7 hn7).2 (by show (⟨#[118]⟩ : ByteArray).size ≤ 12; decide))
        have t0 := HF.out.2.1.c0
        have t1 := HF.out.2.1.c1
        have f0 := HF.out.2.1.fr 0
        have f1 := HF.out.2.1.fr 1
        have d0 := HF.out.2.2.1.c0
        have d1 := HF.out.2.2.1.c1
        clear HF
        go_region
        generalize (w9.setCell ⟨r, 0, none⟩ (.slice (some ⟨g8, 0, none⟩) (B.length + 1) cap8)).setCell ⟨r, 1, none⟩ (.slice a6 S.length c6) = wF at HE ⊢
        clear t0 t1 f0 f1 d0 d1
        go_wp2
        exact ret_tpf 4 5 r (.string nm) _ _ rfl rfl rfl rfl HE.out.1 HE.out.2.drew
  · by_cases hS : 0 < S.length
    · obtain ⟨g6, rfl⟩ : ∃ g6, a6 = some ⟨g6, 0, none⟩ := by
        rcases HI.out.2.2.2.2.1.shape with ⟨hv, hn⟩ | ⟨g6, cap, hv, _⟩
        · exact absurd hS (by simp [hn])
        · exact ⟨g6, by simp at hv; exact hv.1⟩
      obtain ⟨xn, rfl⟩ : ∃ n : Nat, x = n := ⟨x.toNat, by omega⟩
      obtain ⟨T, hT⟩ : ∃ T, (⟨(List.replicate xn (UInt8.ofNat y)).toArray⟩ : ByteArray) = T := ⟨_, rfl⟩
      have hTs : T.size ≤ 64 := by rw [← hT, rep_size]; omega
      have HL : Hid (∀ W, Calls Tryz.prog 196 #[.int .i64 (xn : Int), .int .u8 (y : Int)] W fun e w' => e = .returned (.string T) ∧ Below W.heap.size W w') := fun W => by rw [← hT]; exact l01Long_in _ xn (UInt8.ofNat y) _ W rfl (by simp; omega) (by omega)
      clear hT
      obtain ⟨j, hj⟩ : ∃ j, y % S.length = j := ⟨_, rfl⟩
      have hjl : j < S.length := by rw [← hj]; exact Nat.mod_lt _ hS
      have hmod : Int.tmod (y : Int) (S.length : Int) = (j : Int) := by rw [← hj]; simp [Int.tmod]
      have hS0 : ¬ (S.length : Int) = 0 := by omega
      have hS1 : ¬ S.length = 0 := by omega
      have hS2 : S ≠ [] := fun e => hS1 (by simp [e])
      have hS3 : ((S.length : Int) == 0) = false := by simp [hS2]
      have hwm : IntKind.i64.wrap (j : Int) = (j : Int) := IntWalk.i64_in _ (by have := hpf.2.2.1; omega)
      have hw8 : IntKind.u8.wrap (y : Int) = (y : Int) := IntWalk.u8_in _ (by omega)
      have hj0 : (0 : Int) ≤ (j : Int) := by omega
      have hj1 : (j : Int) < (S.length : Int) := by omega
      have hg6 : g6 ≠ gp := by have h1 := (HI.out.2.2.2.2.1.1.lt g6 rfl).1; have h2 := HI.out.2.2.2.2.2.1.2.2; omega
      have hg6' : gp ≠ g6 := fun e => hg6 e.symm
      go_wp2_with (refine wp_storePf rfl _ _ rfl gp _ _ (.slice a5 B.length c5) (.slice (some ⟨g6, 0, none⟩) S.length c6) q5 rfl rfl rfl rfl ?_; intro hq; generalize w5.setRow gp #[.slice a5 B.length c5, .slice (some ⟨g6, 0, none⟩) S.length c6] = w6 at HI hq ⊢; have z0 := hq.c0; have z1 := hq.c1)
      have HD : Hid (TkI b0 w0 w g v r gp w4.heap.size (.slice a5 B.length c5) (.slice (some ⟨g6, 0, none⟩) S.length c6) B S w6.drew) := HI.out.later (Below.refl _ _).drew
      clear HI hq z0
      go_region_held3 (fun W => W.cell? ⟨gp, 1, none⟩ = some (.slice (some ⟨g6, 0, none⟩) S.length c6)) (first | (go_keep; done) | exact H7.out.2.2.1.c1) (first | (go_at_call 196; refine (HL.out _).mono ?_; rintro e w7 ⟨rfl, hb7⟩; have H7 : Hid (TkI b0 w0 w g v r gp w4.heap.size (.slice a5 B.length c5) (.slice (some ⟨g6, 0, none⟩) S.length c6) B S w7) := HD.out.later hb7; obtain ⟨⟨u7, cu7⟩, fz7⟩ := H7.out.2.2.2.2.1.cellS j hjl) | fail)
      have HF : Hid (TkI b0 w0 w g v r gp w4.heap.size (.slice a5 B.length c5) (.slice (some ⟨g6, 0, none⟩) S.length c6) B (S.set j T) (w7.setCell ⟨g6, j, none⟩ (.string T))) := H7.out.elem j T
      clear HD H7 hb7 cu7 fz7 HL
      try rename_i hHeld
      try clear hHeld
      generalize w7.setCell ⟨g6, j, none⟩ (.string T) = w9 at HF ⊢
      clear hmod hS0 hS3 hw8 hj0 hj1 hwm
      go_wp2_with fail
      have HE : Hid _ := tk_end HF.out (hpf.elem hTs j)
      have t0 := HF.out.2.1.c0
      have t1 := HF.out.2.1.c1
      have f0 := HF.out.2.1.fr 0
      have f1 := HF.out.2.1.fr 1
      have d0 := HF.out.2.2.1.c0
      have d1 := HF.out.2.2.1.c1
      clear HF
      go_region
      generalize (w9.setCell ⟨r, 0, none⟩ (.slice a5 B.length c5)).setCell ⟨r, 1, none⟩ (.slice (some ⟨g6, 0, none⟩) S.length c6) = wF at HE ⊢
      clear t0 t1 f0 f1 d0 d1
      go_wp2
      exact ret_tpf 4 5 r (.string nm) _ _ rfl rfl rfl rfl HE.out.1 HE.out.2.drew
    · go_wp2_with (refine wp_storePf rfl _ _ rfl gp _ _ (.slice a5 B.length c5) (.slice a6 S.length c6) q5 rfl rfl rfl rfl ?_; intro hq; generalize w5.setRow gp #[.slice a5 B.length c5, .slice a6 S.length c6] = w6 at HI hq ⊢; have z0 := hq.c0; have z1 := hq.c1)
      clear hq z0 z1
      have HE : Hid _ := tk_end HI.out (hpf.name hpf.1)
      have t0 := HI.out.2.1.c0
      have t1 := HI.out.2.1.c1
      have f0 := HI.out.2.1.fr 0
      have f1 := HI.out.2.1.fr 1
      have d0 := HI.out.2.2.1.c0
      have d1 := HI.out.2.2.1.c1
      clear HI
      go_region
      generalize (w6.setCell ⟨r, 0, none⟩ (.slice a5 B.length c5)).setCell ⟨r, 1, none⟩ (.slice a6 S.length c6) = wF at HE ⊢
      clear t0 t1 f0 f1 d0 d1
      go_wp2
      exact ret_tpf 4 5 r (.string nm) _ _ rfl rfl rfl rfl HE.out.1 HE.out.2.drew
  · obtain ⟨xn, rfl⟩ : ∃ n : Nat, x = n := ⟨x.toNat, by omega⟩
    obtain ⟨T, hT⟩ : ∃ T, (⟨(List.replicate xn 97).toArray⟩ : ByteArray) = T := ⟨_, rfl⟩
    have hTs : T.size ≤ 64 := by rw [← hT, rep_size]; omega
    have HL : Hid (∀ W, Calls Tryz.prog 196 #[.int .i64 (xn : Int), .int .u8 97] W fun e w' => e = .returned (.string T) ∧ Below W.heap.size W w') := fun W => by rw [← hT]; exact l01Long_in _ xn 97 _ W rfl rfl (by omega)
    clear hT
    go_wp2_with (refine wp_storePf rfl _ _ rfl gp _ _ (.slice a5 B.length c5) (.slice a6 S.length c6) q5 rfl rfl rfl rfl ?_; intro hq; generalize w5.setRow gp #[.slice a5 B.length c5, .slice a6 S.length c6] = w6 at HI hq ⊢; have z0 := hq.c0; have z1 := hq.c1)
    have HD : Hid (TkI b0 w0 w g v r gp w4.heap.size (.slice a5 B.length c5) (.slice a6 S.length c6) B S w6.drew) := HI.out.later (Below.refl _ _).drew
    clear HI hq z0
    refine wp_region_held_drew (S := fun _ => True) (by kernel_rfl) trivial (fun hH => ?_)
    refine wpAnyH_take (i := 0) (v := .pointer (some ⟨gp, 1, none⟩)) rfl (by kernel_rfl) (by kernel_rfl) (by kernel_rfl) (fun _ _ _ h => h) (Or.inl ⟨by rfl, fun w hw => by go_simp⟩) hH ?_
    simp only [Act.put, List.setIfInBounds_toArray, List.set_cons_zero, List.set_cons_succ]
    refine wpAnyH_take (i := 2) (v := .int .i64 (xn : Int)) rfl (by kernel_rfl) (by kernel_rfl) (by kernel_rfl) (fun _ _ _ h => h) (Or.inl ⟨by rfl, fun w hw => by go_simp⟩) hH ?_
    simp only [Act.put, List.setIfInBounds_toArray, List.set_cons_zero, List.set_cons_succ]
    refine wpAnyH_ready (rs := [1, 3]) (by kernel_rfl) (by simp) ?_
    refine AllReadyH.cons rfl (fun K' hK' => ?_) (AllReadyH.cons rfl (fun K' hK' => ?_) AllReadyH.nil)
    · go_simp
      refine hK'.out _ _ trivial (fun hH => ?_)
      refine wpAnyH_ready (rs := [3]) (by kernel_rfl) (by simp) ?_
      refine AllReadyH.cons rfl (fun K' hK' => ?_) AllReadyH.nil
      go_simp
      go_at_call 196
      refine (HL.out _).mono ?_
      rintro e w7 ⟨rfl, hb7⟩
      have H7 : Hid (TkI b0 w0 w g v r gp w4.heap.size (.slice a5 B.length c5) (.slice a6 S.length c6) B S w7) := HD.out.later hb7
      have x7 := H7.out.2.2.1.c1
      have y7 := cell_up x7 ((Below.refl w7.heap.size w7).alloc (Nat.le_refl _) (.cells #[.string T, .string ⟨#[120]⟩] 9))
      clear hb7
      go_wp2_with fail
      refine hK'.out _ _ trivial (fun hH => ?_)
      refine wpAnyH_ready (rs := [4]) (by kernel_rfl) (by simp) ?_
      refine AllReadyH.cons rfl (fun K' hK' => ?_) AllReadyH.nil
      go_simp
      refine hK'.out _ _ trivial (fun hH => ?_)
      refine wpAnyH_ready (rs := [5]) (by kernel_rfl) (by simp) ?_
      refine AllReadyH.cons rfl (fun K' hK' => ?_) AllReadyH.nil
      have HJ : Hid (TkI b0 w0 w g v r gp w4.heap.size (.slice a5 B.length c5) (.slice a6 S.length c6) B S (w7.alloc (.cells #[.string T, .string ⟨#[120]⟩] 9))) := H7.out.later ((Below.refl _ _).alloc (Nat.le_refl _) _)
      refine step_appLit rfl _ _ rfl w4.heap.size _ _ _ S [T, ⟨#[120]⟩] (by rfl) HJ.out.2.2.2.2.1 (by rfl) w7.heap.size 0 (ss_lits w7 [T, ⟨#[120]⟩] _ 2 rfl (by omega) rfl) (by simp) (by have := hpf.2.2.1; simp; omega) ?_
      intro u8 w8 ho8 hg8
      obtain ⟨a8, n8, c8, rfl⟩ : ∃ a n c, u8 = .slice a n c := by obtain ⟨a8, c8, e8⟩ := ho8.slice; exact ⟨_, _, _, e8⟩
      have p8 := (HJ.out.own hg8 (fun q hq => (HJ.out.2.2.2.2.1.1.lt q hq).1)).2.2.1
      have x0 := p8.c1
      have x1 := p8.fr 1
      have HF : Hid (TkI b0 w0 w g v r gp w4.heap.size (.slice a5 B.length c5) (.slice a8 n8 c8) B (S ++ [T, ⟨#[120]⟩]) (w8.setCell ⟨gp, 1, none⟩ (.slice a8 n8 c8))) := HJ.out.sides ho8 hg8
      clear HJ p8 ho8 hg8 H7 x7 y7
      refine hK'.out _ _ trivial (fun hH => ?_)
      simp only [Act.put, List.setIfInBounds_toArray, List.set_cons_zero, List.set_cons_succ]
      refine wpAnyH_take (i := 6) (v := .pointer (some ⟨gp, 1, none⟩)) rfl (by kernel_rfl) (by kernel_rfl) (by kernel_rfl) (fun _ _ _ h => h) (Or.inl ⟨by rfl, fun w hw => by go_simp⟩) hH ?_
      simp only [Act.put, List.setIfInBounds_toArray, List.set_cons_zero, List.set_cons_succ]
      refine wpAnyH_ready (rs := [7]) (by kernel_rfl) (by simp) ?_
      refine AllReadyH.cons rfl (fun K' hK' => ?_) AllReadyH.nil
      go_simp
      refine hK'.out _ _ trivial (fun hH => ?_)
      refine wpAnyH_done (by kernel_rfl) ?_ _
      clear x0 x1 hH
      generalize w8.setCell ⟨gp, 1, none⟩ (.slice a8 n8 c8) = w9 at HF ⊢
      go_wp2_with fail
      have HE : Hid _ := tk_end HF.out (hpf.sides hTs)
      have t0 := HF.out.2.1.c0
      have t1 := HF.out.2.1.c1
      have f0 := HF.out.2.1.fr 0
      have f1 := HF.out.2.1.fr 1
      have d0 := HF.out.2.2.1.c0
      have d1 := HF.out.2.2.1.c1
      clear HF
      go_region
      generalize (w9.setCell ⟨r, 0, none⟩ (.slice a5 B.length c5)).setCell ⟨r, 1, none⟩ (.slice a8 n8 c8) = wF at HE ⊢
      clear t0 t1 f0 f1 d0 d1
      go_wp2
      exact ret_tpf 4 5 r (.string nm) _ _ rfl rfl rfl rfl HE.out.1 HE.out.2.drew
    · go_simp
      go_at_call 196
      refine (HL.out _).mono ?_
      rintro e w7 ⟨rfl, hb7⟩
      have H7 : Hid (TkI b0 w0 w g v r gp w4.heap.size (.slice a5 B.length c5) (.slice a6 S.length c6) B S w7) := HD.out.later hb7
      have x7 := H7.out.2.2.1.c1
      have y7 := cell_up x7 ((Below.refl w7.heap.size w7).alloc (Nat.le_refl _) (.cells #[.string T, .string ⟨#[120]⟩] 9))
      clear hb7
      go_wp2_with fail
      refine hK'.out _ _ trivial (fun hH => ?_)
      refine wpAnyH_ready (rs := [1, 4]) (by kernel_rfl) (by simp) ?_
      refine AllReadyH.cons rfl (fun K' hK' => ?_) (AllReadyH.cons rfl (fun K' hK' => ?_) AllReadyH.nil)
      · go_simp
        refine hK'.out _ _ trivial (fun hH => ?_)
        refine wpAnyH_ready (rs := [4]) (by kernel_rfl) (by simp) ?_
        refine AllReadyH.cons rfl (fun K' hK' => ?_) AllReadyH.nil
        go_simp
        refine hK'.out _ _ trivial (fun hH => ?_)
        refine wpAnyH_ready (rs := [5]) (by kernel_rfl) (by simp) ?_
        refine AllReadyH.cons rfl (fun K' hK' => ?_) AllReadyH.nil
        have HJ : Hid (TkI b0 w0 w g v r gp w4.heap.size (.slice a5 B.length c5) (.slice a6 S.length c6) B S (w7.alloc (.cells #[.string T, .string ⟨#[120]⟩] 9))) := H7.out.later ((Below.refl _ _).alloc (Nat.le_refl _) _)
        refine step_appLit rfl _ _ rfl w4.heap.size _ _ _ S [T, ⟨#[120]⟩] (by rfl) HJ.out.2.2.2.2.1 (by rfl) w7.heap.size 0 (ss_lits w7 [T, ⟨#[120]⟩] _ 2 rfl (by omega) rfl) (by simp) (by have := hpf.2.2.1; simp; omega) ?_
        intro u8 w8 ho8 hg8
        obtain ⟨a8, n8, c8, rfl⟩ : ∃ a n c, u8 = .slice a n c := by obtain ⟨a8, c8, e8⟩ := ho8.slice; exact ⟨_, _, _, e8⟩
        have p8 := (HJ.out.own hg8 (fun q hq => (HJ.out.2.2.2.2.1.1.lt q hq).1)).2.2.1
        have x0 := p8.c1
        have x1 := p8.fr 1
        have HF : Hid (TkI b0 w0 w g v r gp w4.heap.size (.slice a5 B.length c5) (.slice a8 n8 c8) B (S ++ [T, ⟨#[120]⟩]) (w8.setCell ⟨gp, 1, none⟩ (.slice a8 n8 c8))) := HJ.out.sides ho8 hg8
        clear HJ p8 ho8 hg8 H7 x7 y7
        refine hK'.out _ _ trivial (fun hH => ?_)
        simp only [Act.put, List.setIfInBounds_toArray, List.set_cons_zero, List.set_cons_succ]
        refine wpAnyH_take (i := 6) (v := .pointer (some ⟨gp, 1, none⟩)) rfl (by kernel_rfl) (by kernel_rfl) (by kernel_rfl) (fun _ _ _ h => h) (Or.inl ⟨by rfl, fun w hw => by go_simp⟩) hH ?_
        simp only [Act.put, List.setIfInBounds_toArray, List.set_cons_zero, List.set_cons_succ]
        refine wpAnyH_ready (rs := [7]) (by kernel_rfl) (by simp) ?_
        refine AllReadyH.cons rfl (fun K' hK' => ?_) AllReadyH.nil
        go_simp
        refine hK'.out _ _ trivial (fun hH => ?_)
        refine wpAnyH_done (by kernel_rfl) ?_ _
        clear x0 x1 hH
        generalize w8.setCell ⟨gp, 1, none⟩ (.slice a8 n8 c8) = w9 at HF ⊢
        go_wp2_with fail
        have HE : Hid _ := tk_end HF.out (hpf.sides hTs)
        have t0 := HF.out.2.1.c0
        have t1 := HF.out.2.1.c1
        have f0 := HF.out.2.1.fr 0
        have f1 := HF.out.2.1.fr 1
        have d0 := HF.out.2.2.1.c0
        have d1 := HF.out.2.2.1.c1
        clear HF
        go_region
        generalize (w9.setCell ⟨r, 0, none⟩ (.slice a5 B.length c5)).setCell ⟨r, 1, none⟩ (.slice a8 n8 c8) = wF at HE ⊢
        clear t0 t1 f0 f1 d0 d1
        go_wp2
        exact ret_tpf 4 5 r (.string nm) _ _ rfl rfl rfl rfl HE.out.1 HE.out.2.drew
      · go_simp
        refine hK'.out _ _ trivial (fun hH => ?_)
        refine wpAnyH_ready (rs := [1]) (by kernel_rfl) (by simp) ?_
        refine AllReadyH.cons rfl (fun K' hK' => ?_) AllReadyH.nil
        go_simp
        refine hK'.out _ _ trivial (fun hH => ?_)
        refine wpAnyH_ready (rs := [5]) (by kernel_rfl) (by simp) ?_
        refine AllReadyH.cons rfl (fun K' hK' => ?_) AllReadyH.nil
        have HJ : Hid (TkI b0 w0 w g v r gp w4.heap.size (.slice a5 B.length c5) (.slice a6 S.length c6) B S (w7.alloc (.cells #[.string T, .string ⟨#[120]⟩] 9))) := H7.out.later ((Below.refl _ _).alloc (Nat.le_refl _) _)
        refine step_appLit rfl _ _ rfl w4.heap.size _ _ _ S [T, ⟨#[120]⟩] (by rfl) HJ.out.2.2.2.2.1 (by rfl) w7.heap.size 0 (ss_lits w7 [T, ⟨#[120]⟩] _ 2 rfl (by omega) rfl) (by simp) (by have := hpf.2.2.1; simp; omega) ?_
        intro u8 w8 ho8 hg8
        obtain ⟨a8, n8, c8, rfl⟩ : ∃ a n c, u8 = .slice a n c := by obtain ⟨a8, c8, e8⟩ := ho8.slice; exact ⟨_, _, _, e8⟩
        have p8 := (HJ.out.own hg8 (fun q hq => (HJ.out.2.2.2.2.1.1.lt q hq).1)).2.2.1
        have x0 := p8.c1
        have x1 := p8.fr 1
        have HF : Hid (TkI b0 w0 w g v r gp w4.heap.size (.slice a5 B.length c5) (.slice a8 n8 c8) B (S ++ [T, ⟨#[120]⟩]) (w8.setCell ⟨gp, 1, none⟩ (.slice a8 n8 c8))) := HJ.out.sides ho8 hg8
        clear HJ p8 ho8 hg8 H7 x7 y7
        refine hK'.out _ _ trivial (fun hH => ?_)
        simp only [Act.put, List.setIfInBounds_toArray, List.set_cons_zero, List.set_cons_succ]
        refine wpAnyH_take (i := 6) (v := .pointer (some ⟨gp, 1, none⟩)) rfl (by kernel_rfl) (by kernel_rfl) (by kernel_rfl) (fun _ _ _ h => h) (Or.inl ⟨by rfl, fun w hw => by go_simp⟩) hH ?_
        simp only [Act.put, List.setIfInBounds_toArray, List.set_cons_zero, List.set_cons_succ]
        refine wpAnyH_ready (rs := [7]) (by kernel_rfl) (by simp) ?_
        refine AllReadyH.cons rfl (fun K' hK' => ?_) AllReadyH.nil
        go_simp
        refine hK'.out _ _ trivial (fun hH => ?_)
        refine wpAnyH_done (by kernel_rfl) ?_ _
        clear x0 x1 hH
        generalize w8.setCell ⟨gp, 1, none⟩ (.slice a8 n8 c8) = w9 at HF ⊢
        go_wp2_with fail
        have HE : Hid _ := tk_end HF.out (hpf.sides hTs)
        have t0 := HF.out.2.1.c0
        have t1 := HF.out.2.1.c1
        have f0 := HF.out.2.1.fr 0
        have f1 := HF.out.2.1.fr 1
        have d0 := HF.out.2.2.1.c0
        have d1 := HF.out.2.2.1.c1
        clear HF
        go_region
        generalize (w9.setCell ⟨r, 0, none⟩ (.slice a5 B.length c5)).setCell ⟨r, 1, none⟩ (.slice a8 n8 c8) = wF at HE ⊢
        clear t0 t1 f0 f1 d0 d1
        go_wp2
        exact ret_tpf 4 5 r (.string nm) _ _ rfl rfl rfl rfl HE.out.1 HE.out.2.drew
  · go_wp2_with (refine wp_storePf rfl _ _ rfl gp _ _ (.slice a5 B.length c5) (.slice a6 S.length c6) q5 rfl rfl rfl rfl ?_; intro hq; generalize w5.setRow gp #[.slice a5 B.length c5, .slice a6 S.length c6] = w6 at HI hq ⊢; have z0 := hq.c0; have z1 := hq.c1)
    have CP := pick_lit b0 w0 w6 g v 2 otL otC HI.out.1 rfl (by omega) (by omega) (ot_at w6)
    refine CP.out.mono ?_
    rintro e w7 ⟨n7, hn7, rfl, hc7, hg7⟩
    have H7 : Hid (TkI b0 w0 w g v r gp w4.heap.size (.slice a5 B.length c5) (.slice a6 S.length c6) B S w7) := HI.out.drawn hc7 hg7
    clear CP HI hq z0 z1 hc7 hg7
    go_wp2_with fail
    have HE : Hid _ := tk_end H7.out (hpf.name (ot_ok n7 hn7))
    have t0 := H7.out.2.1.c0
    have t1 := H7.out.2.1.c1
    have f0 := H7.out.2.1.fr 0
    have f1 := H7.out.2.1.fr 1
    have d0 := H7.out.2.2.1.c0
    have d1 := H7.out.2.2.1.c1
    clear H7
    go_region
    generalize (w7.setCell ⟨r, 0, none⟩ (.slice a5 B.length c5)).setCell ⟨r, 1, none⟩ (.slice a6 S.length c6) = wF at HE ⊢
    clear t0 t1 f0 f1 d0 d1
    go_wp2
    exact ret_tpf 4 5 r (.string n7) _ _ rfl rfl rfl rfl HE.out.1 HE.out.2.drew
  · go_wp2_with (refine wp_storePf rfl _ _ rfl gp _ _ (.slice a5 B.length c5) (.slice a6 S.length c6) q5 rfl rfl rfl rfl ?_; intro hq; generalize w5.setRow gp #[.slice a5 B.length c5, .slice a6 S.length c6] = w6 at HI hq ⊢; have z0 := hq.c0; have z1 := hq.c1)
    clear hq z0 z1
    have HE : Hid _ := tk_end HI.out (hpf.name hpf.1)
    have t0 := HI.out.2.1.c0
    have t1 := HI.out.2.1.c1
    have f0 := HI.out.2.1.fr 0
    have f1 := HI.out.2.1.fr 1
    have d0 := HI.out.2.2.1.c0
    have d1 := HI.out.2.2.1.c1
    clear HI
    go_region
    generalize (w6.setCell ⟨r, 0, none⟩ (.slice a5 B.length c5)).setCell ⟨r, 1, none⟩ (.slice a6 S.length c6) = wF at HE ⊢
    clear t0 t1 f0 f1 d0 d1
    go_wp2
    exact ret_tpf 4 5 r (.string nm) _ _ rfl rfl rfl rfl HE.out.1 HE.out.2.drew

end Go.Proofs.YtfojmagcoipbnaaGreatDoor
/-
  Two texts out of two proofs: the program's and the specification's answers.
-/
namespace Go.Proofs.YtfojmagcoipbnaaGreatDoor
open Go.RowKit Go.BigFrame Go.Sort
set_option linter.unusedVariables false
set_option linter.unusedSimpArgs false

/-- from the last one on back the first two that differ -/
def lu (A C : List ByteArray) : Nat → ByteArray × ByteArray × Bool
  | 0 => (⟨#[]⟩, ⟨#[]⟩, false)
  | k + 1 => if A.getD k ⟨#[]⟩ = C.getD k ⟨#[]⟩ then lu A C k else (A.getD k ⟨#[]⟩, C.getD k ⟨#[]⟩, true)
def trip (r : ByteArray × ByteArray × Bool) : Value := .tuple #[.string r.1, .string r.2.1, .bool r.2.2]
def PxR (w : World) (F : Nat → ByteArray × ByteArray × Bool) (n : Nat) (i : Value) (wr : World) : Prop := ∃ m : Nat, m ≤ n ∧ i = .int .i64 ((m : Int) - 1) ∧ Hid (Below w.heap.size w wr ∧ F n = F m)

set_option maxRecDepth 100000 in
set_option maxHeartbeats 1000000 in
theorem lastUnlike_any (va vb : Value) (ga oa gb ob : Nat) (A C : List ByteArray) (w : World) (hv : SS w va ga oa A) (hu : SS w vb gb ob C) (hl : A.length = C.length) :
    Calls Tryz.prog 108 #[va, vb] w fun e w' => e = .returned (trip (lu A C A.length)) ∧ Below w.heap.size w w' := by
  obtain ⟨R, hR⟩ : ∃ R, lu A C A.length = R := ⟨_, rfl⟩
  have HR : Hid (lu A C A.length = R) := hR
  rw [hR]
  have HV : Hid (∀ W, Below w.heap.size w W → SS W va ga oa A ∧ SS W vb gb ob C) := fun W hW => ⟨hv.below hW hv.lt, hu.below hW hu.lt⟩
  obtain ⟨a, ca, rfl, hla, hA, hxa⟩ := hv
  obtain ⟨b, cb, rfl, hlb, hB, hxb⟩ := hu
  clear hxa hxb hR
  obtain ⟨n, hn⟩ : ∃ n, A.length = n := ⟨_, rfl⟩
  have HN : Hid (A.length = n ∧ C.length = n) := ⟨hn, hl ▸ hn⟩
  have HA : Hid (0 < n → a = some ⟨ga, oa, none⟩) := by rw [← hn]; exact hA
  have HB : Hid (0 < n → b = some ⟨gb, ob, none⟩) := by rw [← hn, hl]; exact hB
  rw [← hl, hn] at hlb ⊢
  rw [hn] at hla HR
  rw [← hl, hn] at HV
  have HST : Hid (PxR w (lu A C) n (.int .i64 ((n : Int) - 1)) w) := ⟨n, by omega, rfl, Below.refl _ _, rfl⟩
  clear hA hB hn hl
  go_enter Tryz.func108, Tryz.ntmps108
  go_wp2
  go_loopw [7] (fun i wr => PxR w (lu A C) n i wr) (fun i _ => (intOf i + 1).toNat)
  case atStart => exact HST.out
  case round =>
    obtain ⟨m, hm, rfl, HI⟩ := hrel
    clear HST
    cases m with
    | zero =>
      have hRf : R = (⟨#[]⟩, ⟨#[]⟩, false) := by rw [← HR.out, HI.out.2]; rfl
      subst hRf
      have HF : Hid (Below w.heap.size w wr) := HI.out.1
      clear HI HR HV HA HB HN
      go_wp2
      go_ret3
      exact ⟨rfl, HF.out⟩
    | succ k =>
      have ea := HA.out (by omega)
      have eb := HB.out (by omega)
      subst ea
      subst eb
      have e1 : (((k + 1 : Nat) : Int) - 1) = (k : Int) := by omega
      rw [e1]
      have hka : k < A.length := by rw [HN.out.1]; omega
      have hkb : k < C.length := by rw [HN.out.2]; omega
      obtain ⟨X, hX⟩ : ∃ X, A[k] = X := ⟨_, rfl⟩
      obtain ⟨Y, hY⟩ : ∃ Y, C[k] = Y := ⟨_, rfl⟩
      have HCC : Hid (∀ W, Below w.heap.size w W → W.cell? ⟨ga, oa + k, none⟩ = some (.string X) ∧ W.cell? ⟨gb, ob + k, none⟩ = some (.string Y)) := fun W hW => by
        obtain ⟨⟨a1, b1, e2, _, h2, h3⟩, ⟨a4, b4, e5, _, h5, h6⟩⟩ := HV.out W hW
        exact ⟨by rw [← hX]; exact h3 k hka, by rw [← hY]; exact h6 k hkb⟩
      obtain ⟨c0, d0⟩ := HCC.out _ HI.out.1
      have HU : Hid (lu A C (k + 1) = if X = Y then lu A C k else (X, Y, true)) := by
        show lu A C (k + 1) = _
        rw [lu]
        simp only [List.getD_eq_getElem?_getD, List.getElem?_eq_getElem hka, List.getElem?_eq_getElem hkb, Option.getD_some, hX, hY]
      have i1 : (k : Int) < (n : Int) := by omega
      have i2 : (0 : Int) ≤ (k : Int) := by omega
      clear hX hY hka hkb HA HB
      by_cases hk : X = Y
      · have q : (X.toList == Y.toList) = true := by rw [hk]; simp
        have hH : Below w.heap.size w wr ∧ lu A C n = lu A C k := ⟨HI.out.1, by rw [HI.out.2, HU.out, if_pos hk]⟩
        have HJ : Hid (Below w.heap.size w wr ∧ lu A C n = lu A C k) := hH
        clear HU HI hH hk HCC HV
        go_wp2
        go_quiet (fail)
        go_wp2
        refine ⟨⟨k, by omega, rfl, HJ.out.1.trans (⟨rfl, rfl, rfl, Nat.le_refl _, fun _ _ => rfl⟩), HJ.out.2⟩, ?_⟩
        simp [intOf]
      · have q : (X.toList == Y.toList) = false := LV.bytes_ne hk
        have hRR : R = (X, Y, true) := by rw [← HR.out, HI.out.2, HU.out, if_neg hk]
        subst hRR
        have HF : Hid (Below w.heap.size w wr) := HI.out.1
        clear HU HI hk HV HR
        go_wp2
        go_quiet (fail)
        go_wp2
        have hbd : Below w.heap.size w (wr.drewN nq) := HF.out.trans (⟨rfl, rfl, rfl, Nat.le_refl _, fun _ _ => rfl⟩)
        obtain ⟨c1, d1⟩ := HCC.out _ hbd
        clear HCC c0 d0 HF
        generalize wr.drewN nq = wd at *
        go_quiet (fail)
        go_wp2
        try rw [Exit.noGoto_ret]
        go_ret3
        exact ⟨rfl, hbd.trans ⟨rfl, rfl, rfl, Nat.le_refl _, fun _ _ => rfl⟩⟩

def sayB (B C : List Le) (nm : ByteArray) : Bool := decide (LV.getV B nm = LV.getV C nm) && (LV.getB B nm == LV.getB C nm)

set_option maxRecDepth 100000 in
set_option maxHeartbeats 1000000 in
theorem saySame_any (nm : ByteArray) (vb vs ub us : Value) (gb ob hb ob' : Nat) (B C : List Le) (w : World) (h1 : RS 2 lcs w vb gb ob B) (s1 : SmallL B) (h2 : RS 2 lcs w ub hb ob' C) (s2 : SmallL C) :
    Calls Tryz.prog 107 #[.string nm, .agg #[vb, vs], .agg #[ub, us]] w fun e w' => e = .returned (.bool (sayB B C nm)) ∧ Below w.heap.size w w' := by
  obtain ⟨R, hR⟩ : ∃ R, sayB B C nm = R := ⟨_, rfl⟩
  have hba : Below w.heap.size w ((w.alloc (.cells #[vb, vs] 29)).alloc (.cells #[ub, us] 29)) := ((Below.refl _ _).alloc (Nat.le_refl _) _).alloc (by simp) _
  have HP : Hid (∀ W, Below ((w.alloc (.cells #[vb, vs] 29)).alloc (.cells #[ub, us] 29)).heap.size ((w.alloc (.cells #[vb, vs] 29)).alloc (.cells #[ub, us] 29)) W → W.cell? ⟨w.heap.size, 0, none⟩ = some vb ∧ W.cell? ⟨w.heap.size, 1, none⟩ = some vs ∧ W.cell? ⟨w.heap.size + 1, 0, none⟩ = some ub ∧ W.cell? ⟨w.heap.size + 1, 1, none⟩ = some us ∧ Below w.heap.size w W) := fun W hW => by
    obtain ⟨a0, a1⟩ := run_rangeP (w := w) (p := 0) (v1 := vb) (v2 := vs) 29
    obtain ⟨b0, b1⟩ := run_rangeP (w := w.alloc (.cells #[vb, vs] 29)) (p := 0) (v1 := ub) (v2 := us) 29
    have hq : Below (w.alloc (.cells #[vb, vs] 29)).heap.size (w.alloc (.cells #[vb, vs] 29)) ((w.alloc (.cells #[vb, vs] 29)).alloc (.cells #[ub, us] 29)) := (Below.refl _ _).alloc (Nat.le_refl _) _
    have e : (w.alloc (.cells #[vb, vs] 29)).heap.size = w.heap.size + 1 := by simp
    rw [e] at b0 b1
    exact ⟨cell_later (cell_later a0 hq) hW, cell_later (cell_later a1 hq) hW, cell_later b0 hW, cell_later b1 hW, hba.trans (hW.mono hba.size)⟩
  have HL1 : Hid (∀ W, Below w.heap.size w W → Calls Tryz.prog 15 #[.string nm, .agg #[vb, vs]] W fun e w' => e = .returned (.tuple #[.string (LV.getV B nm), .bool (LV.getB B nm)]) ∧ Below W.heap.size W w') := fun W hW => ProofSays_any nm vb vs gb ob B W (h1.later hW) s1
  have HL2 : Hid (∀ W, Below w.heap.size w W → Calls Tryz.prog 15 #[.string nm, .agg #[ub, us]] W fun e w' => e = .returned (.tuple #[.string (LV.getV C nm), .bool (LV.getB C nm)]) ∧ Below W.heap.size W w') := fun W hW => ProofSays_any nm ub us hb ob' C W (h2.later hW) s2
  have hR2 : R = (decide (LV.getV B nm = LV.getV C nm) && (LV.getB B nm == LV.getB C nm)) := hR.symm
  rw [hR]
  clear h1 h2 s1 s2 hR
  generalize LV.getV B nm = V1 at *
  generalize LV.getV C nm = V2 at *
  generalize LV.getB B nm = R1 at *
  generalize LV.getB C nm = R2 at *
  obtain ⟨p0, p1, p2, p3, _⟩ := HP.out _ (Below.refl _ _)
  go_enter Tryz.func107, Tryz.ntmps107
  go_wp2_with fail
  refine (HL1.out _ hba).mono ?_
  rintro e w1 ⟨rfl, hb1⟩
  obtain ⟨k0, k1, k2, k3, b1⟩ := HP.out _ hb1
  clear p0 p1 p2 p3 HP HL1 hba hb1
  go_wp2_with fail
  refine (HL2.out _ b1).mono ?_
  rintro e w2 ⟨rfl, hb2⟩
  have b2 := b1.trans (hb2.mono b1.size)
  clear k0 k1 k2 k3 HL2 hb2 b1
  by_cases hV : V1 = V2
  · have q : (V1.toList == V2.toList) = true := by rw [hV]; simp
    rw [decide_eq_true hV, Bool.true_and] at hR2
    clear hV
    go_wp2
    go_ret
    exact ⟨by rw [hR2]; rfl, b2⟩
  · have q : (V1.toList == V2.toList) = false := LV.bytes_ne hV
    rw [decide_eq_false hV, Bool.false_and] at hR2
    clear hV
    go_wp2
    go_ret
    exact ⟨by rw [hR2]; rfl, b2⟩

noncomputable def xtR (nm : ByteArray) (B : List Le) (S : List ByteArray) (C : List Le) (T : List ByteArray) (x : Int) : ByteArray × ByteArray × Bool :=
  if (ptA nm B S x).length = 0 ∨ (ptA nm B S x).length ≠ (ptA nm C T x).length ∨ phA nm B S x ≠ phA nm C T x ∨ sayB B C nm = true then (⟨#[]⟩, ⟨#[]⟩, false) else lu (ptA nm B S x) (ptA nm C T x) (ptA nm B S x).length

/-- two proofs in their boxes -/
theorem two_boxes {w : World} {vb vs ub us : Value} : ∀ W, Below ((w.alloc (.cells #[vb, vs] 29)).alloc (.cells #[ub, us] 29)).heap.size ((w.alloc (.cells #[vb, vs] 29)).alloc (.cells #[ub, us] 29)) W → W.cell? ⟨w.heap.size, 0, none⟩ = some vb ∧ W.cell? ⟨w.heap.size, 1, none⟩ = some vs ∧ W.cell? ⟨w.heap.size + 1, 0, none⟩ = some ub ∧ W.cell? ⟨w.heap.size + 1, 1, none⟩ = some us ∧ Below w.heap.size w W := fun W hW => by
  have hba : Below w.heap.size w ((w.alloc (.cells #[vb, vs] 29)).alloc (.cells #[ub, us] 29)) := ((Below.refl _ _).alloc (Nat.le_refl _) _).alloc (by simp) _
  obtain ⟨a0, a1⟩ := run_rangeP (w := w) (p := 0) (v1 := vb) (v2 := vs) 29
  obtain ⟨b0, b1⟩ := run_rangeP (w := w.alloc (.cells #[vb, vs] 29)) (p := 0) (v1 := ub) (v2 := us) 29
  have hq : Below (w.alloc (.cells #[vb, vs] 29)).heap.size (w.alloc (.cells #[vb, vs] 29)) ((w.alloc (.cells #[vb, vs] 29)).alloc (.cells #[ub, us] 29)) := (Below.refl _ _).alloc (Nat.le_refl _) _
  have e : (w.alloc (.cells #[vb, vs] 29)).heap.size = w.heap.size + 1 := by simp
  rw [e] at b0 b1
  exact ⟨cell_later (cell_later a0 hq) hW, cell_later (cell_later a1 hq) hW, cell_later b0 hW, cell_later b1 hW, hba.trans (hW.mono hba.size)⟩

set_option maxRecDepth 100000 in
set_option maxHeartbeats 1000000 in
theorem ExtractTwo_any (nm : ByteArray) (vb vs ub us : Value) (gb ob gs os hb ob' hs os' : Nat) (B : List Le) (S : List ByteArray) (C : List Le) (T : List ByteArray) (x : Int) (w : World) (hnm : nm.size ≤ 1048576) (h1 : RS 2 lcs w vb gb ob B) (s1 : SmallL B) (h2 : SS w vs gs os S) (h3 : RS 2 lcs w ub hb ob' C) (s2 : SmallL C) (h4 : SS w us hs os' T) (hT : Tb w) :
    Calls Tryz.prog 28 #[.string nm, .agg #[vb, vs], .agg #[ub, us], .int .i64 x] w fun e w' => e = .returned (trip (xtR nm B S C T x)) ∧ Below w.heap.size w w' := by
  have hba : Below w.heap.size w ((w.alloc (.cells #[vb, vs] 29)).alloc (.cells #[ub, us] 29)) := ((Below.refl _ _).alloc (Nat.le_refl _) _).alloc (by simp) _
  have HP : Hid (∀ W, Below ((w.alloc (.cells #[vb, vs] 29)).alloc (.cells #[ub, us] 29)).heap.size ((w.alloc (.cells #[vb, vs] 29)).alloc (.cells #[ub, us] 29)) W → W.cell? ⟨w.heap.size, 0, none⟩ = some vb ∧ W.cell? ⟨w.heap.size, 1, none⟩ = some vs ∧ W.cell? ⟨w.heap.size + 1, 0, none⟩ = some ub ∧ W.cell? ⟨w.heap.size + 1, 1, none⟩ = some us ∧ Below w.heap.size w W) := two_boxes
  have HU : Hid (∀ W, Below w.heap.size w W → RS 2 lcs W vb gb ob B ∧ SS W vs gs os S ∧ RS 2 lcs W ub hb ob' C ∧ SS W us hs os' T ∧ Tb W) := fun W hW => ⟨h1.later hW, h2.below hW h2.lt, h3.later hW, h4.below hW h4.lt, hT.later hW⟩
  have HPT : Hid (∀ W, Below ((w.alloc (.cells #[vb, vs] 29)).alloc (.cells #[ub, us] 29)).heap.size ((w.alloc (.cells #[vb, vs] 29)).alloc (.cells #[ub, us] 29)) W → Calls Tryz.prog 19 #[.string nm, .agg #[vb, vs], .int .i64 x] W fun e w' => ∃ v, e = .returned v ∧ OS W.heap.size W w' v (ptA nm B S x)) := fun W hW => by
    have h := HU.out W (HP.out W hW).2.2.2.2
    exact ProofTexts_any nm vb vs gb ob gs os B S x W hnm h.1 s1 h.2.1 h.2.2.2.2
  have HQT : Hid (∀ W, Below ((w.alloc (.cells #[vb, vs] 29)).alloc (.cells #[ub, us] 29)).heap.size ((w.alloc (.cells #[vb, vs] 29)).alloc (.cells #[ub, us] 29)) W → Calls Tryz.prog 19 #[.string nm, .agg #[ub, us], .int .i64 x] W fun e w' => ∃ v, e = .returned v ∧ OS W.heap.size W w' v (ptA nm C T x)) := fun W hW => by
    have h := HU.out W (HP.out W hW).2.2.2.2
    exact ProofTexts_any nm ub us hb ob' hs os' C T x W hnm h.2.2.1 s2 h.2.2.2.1 h.2.2.2.2
  have HHL : Hid (∀ W v g l, Below w.heap.size w W → SS W v g 0 l → (∀ t ∈ l, t.size ≤ 12601) → Calls Tryz.prog 94 #[v, .int .i64 x] W fun e w' => e = .returned (.string (lastH l x)) ∧ Below W.heap.size W w') := fun W v g l hW h hz => hashOfLast_any v g 0 l x W h (fun t ht => by have := hz t ht; omega) (HU.out W hW).2.2.2.2
  have HSY : Hid (∀ W, Below w.heap.size w W → Calls Tryz.prog 107 #[.string nm, .agg #[vb, vs], .agg #[ub, us]] W fun e w' => e = .returned (.bool (sayB B C nm)) ∧ Below W.heap.size W w') := fun W hW => saySame_any nm vb vs ub us gb ob hb ob' B C W (HU.out W hW).1 s1 (HU.out W hW).2.2.1 s2
  have HR : Hid (xtR nm B S C T x = if (ptA nm B S x).length = 0 ∨ (ptA nm B S x).length ≠ (ptA nm C T x).length ∨ lastH (ptA nm B S x) x ≠ lastH (ptA nm C T x) x ∨ sayB B C nm = true then (⟨#[]⟩, ⟨#[]⟩, false) else lu (ptA nm B S x) (ptA nm C T x) (ptA nm B S x).length) := rfl
  have HZ1 : Hid ((ptA nm B S x).length ≤ 9 ∧ ∀ t ∈ ptA nm B S x, t.size ≤ 12601) := ⟨ptA_len _ _ _ _, ptA_size⟩
  have HZ2 : Hid ((ptA nm C T x).length ≤ 9 ∧ ∀ t ∈ ptA nm C T x, t.size ≤ 12601) := ⟨ptA_len _ _ _ _, ptA_size⟩
  generalize xtR nm B S C T x = R at *
  generalize ptA nm B S x = L1 at *
  generalize ptA nm C T x = L2 at *
  generalize sayB B C nm = SY at *
  have HP0 : Hid (Below ((w.alloc (.cells #[vb, vs] 29)).alloc (.cells #[ub, us] 29)).heap.size ((w.alloc (.cells #[vb, vs] 29)).alloc (.cells #[ub, us] 29)) ((w.alloc (.cells #[vb, vs] 29)).alloc (.cells #[ub, us] 29)).drew) := (Below.refl _ _).drew
  have hb0 := HP0.out
  clear h1 h2 h3 h4 s1 s2 hT HU
  go_enter Tryz.func28, Tryz.ntmps28
  go_wp2
  go_region_held3 (fun W => W.cell? ⟨w.heap.size, 0, none⟩ = some vb ∧ W.cell? ⟨w.heap.size, 1, none⟩ = some vs ∧ W.cell? ⟨w.heap.size + 1, 0, none⟩ = some ub ∧ W.cell? ⟨w.heap.size + 1, 1, none⟩ = some us) (first | (go_keep; done) | exact ⟨(HP.out _ hb0).1, (HP.out _ hb0).2.1, (HP.out _ hb0).2.2.1, (HP.out _ hb0).2.2.2.1⟩) ((go_at_call 19; first | ((with_reducible refine (HPT.out _ hb0).mono ?_); rintro e w1 ⟨v1, rfl, ho1⟩; have hc1 := ho1.2.1; have hb0 := hb0.trans (hc1.mono hb0.size)) | ((with_reducible refine (HQT.out _ hb0).mono ?_); rintro e w2 ⟨v2, rfl, ho2⟩; have hc2 := ho2.2.1; have hb0 := hb0.trans (hc2.mono hb0.size)) | fail))
  rename_i hHeld
  obtain ⟨g1, hs1⟩ := ho1.ss (by have := HZ1.out.1; omega)
  obtain ⟨g2, hs2⟩ := ho2.ss (by have := HZ2.out.1; omega)
  obtain ⟨a1, c1, rfl⟩ := ho1.slice
  obtain ⟨a2, c2, rfl⟩ := ho2.slice
  have HS : Hid (∀ W, Below w2.heap.size w2 W → SS W (.slice a1 L1.length c1) g1 0 L1 ∧ SS W (.slice a2 L2.length c2) g2 0 L2 ∧ Below w.heap.size w W ∧ W.cell? ⟨w.heap.size, 0, none⟩ = some vb ∧ W.cell? ⟨w.heap.size, 1, none⟩ = some vs ∧ W.cell? ⟨w.heap.size + 1, 0, none⟩ = some ub ∧ W.cell? ⟨w.heap.size + 1, 1, none⟩ = some us) := fun W hW => by
    have hh := HP.out W (hb0.trans (hW.mono hb0.size))
    exact ⟨(hs1.below ho2.2.1 hs1.lt).below hW (hs1.below ho2.2.1 hs1.lt).lt, hs2.below hW hs2.lt, hh.2.2.2.2, hh.1, hh.2.1, hh.2.2.1, hh.2.2.2.1⟩
  have HZ3 : Hid (L1.length ≤ 9 ∧ L2.length ≤ 9) := ⟨HZ1.out.1, HZ2.out.1⟩
  have hz1 := HZ1.out.1
  have hz2 := HZ2.out.1
  have HH1 : Hid (∀ W, Below w2.heap.size w2 W → Calls Tryz.prog 94 #[.slice a1 L1.length c1, .int .i64 x] W fun e w' => e = .returned (.string (lastH L1 x)) ∧ Below W.heap.size W w') := fun W hW => HHL.out W _ g1 L1 (HS.out W hW).2.2.1 (HS.out W hW).1 HZ1.out.2
  have HH2 : Hid (∀ W, Below w2.heap.size w2 W → Calls Tryz.prog 94 #[.slice a2 L2.length c2, .int .i64 x] W fun e w' => e = .returned (.string (lastH L2 x)) ∧ Below W.heap.size W w') := fun W hW => HHL.out W _ g2 L2 (HS.out W hW).2.2.1 (HS.out W hW).2.1 HZ2.out.2
  have HLU : Hid (∀ W, L1.length = L2.length → Below w2.heap.size w2 W → Calls Tryz.prog 108 #[.slice a1 L1.length c1, .slice a2 L2.length c2] W fun e w' => e = .returned (trip (lu L1 L2 L1.length)) ∧ Below W.heap.size W w') := fun W hl hW => lastUnlike_any _ _ g1 0 g2 0 L1 L2 W (HS.out W hW).1 (HS.out W hW).2.1 hl
  have b2 := (HS.out _ (Below.refl _ _)).2.2.1
  have HS2 : Hid (∀ W, Below w2.heap.size w2 W → Below w.heap.size w W ∧ W.cell? ⟨w.heap.size, 0, none⟩ = some vb ∧ W.cell? ⟨w.heap.size, 1, none⟩ = some vs ∧ W.cell? ⟨w.heap.size + 1, 0, none⟩ = some ub ∧ W.cell? ⟨w.heap.size + 1, 1, none⟩ = some us) := fun W hW => (HS.out W hW).2.2
  clear HPT HQT HHL HZ1 HZ2 hs1 hs2 ho1 ho2 HS HP HP0 hb0 hc1 hc2
  generalize lastH L1 x = H1 at *
  generalize lastH L2 x = H2 at *
  generalize lu L1 L2 L1.length = U at *
  generalize L1.length = n1 at *
  generalize L2.length = n2 at *
  by_cases e1 : n1 = 0
  · have hR : R = (⟨#[]⟩, ⟨#[]⟩, false) := by rw [HR.out, if_pos (.inl e1)]
    subst hR
    subst e1
    clear HR HSY HH1 HH2 HLU HS2
    go_wp2
    go_ret3
    exact ⟨rfl, b2⟩
  · have q1 : ((n1 : Int) == 0) = false := by simp; omega
    by_cases e2 : n1 = n2
    · subst e2
      have hlu := fun W => HLU.out W rfl
      go_wp2_with fail
      refine (HH1.out _ (Below.refl _ _)).mono ?_
      rintro e w3 ⟨rfl, hb3⟩
      go_wp2_with fail
      refine (HH2.out _ hb3).mono ?_
      rintro e w4 ⟨rfl, hb4⟩
      have hb4' := hb3.trans (hb4.mono hb3.size)
      obtain ⟨b4, k0, k1, k2, k3⟩ := HS2.out _ hb4'
      clear HH1 HH2 hb3 hb4 hHeld
      by_cases e3 : H1 = H2
      · have q3 : (H1.toList == H2.toList) = true := by rw [e3]; simp
        go_wp2_with fail
        refine (HSY.out _ b4).mono ?_
        rintro e w5 ⟨rfl, hb5⟩
        have hb5' := hb4'.trans (hb5.mono hb4'.size)
        obtain ⟨b5, _⟩ := HS2.out _ hb5'
        clear k0 k1 k2 k3 hb5 hb4' HSY
        cases SY with
        | true =>
          have hR : R = (⟨#[]⟩, ⟨#[]⟩, false) := by rw [HR.out, if_pos (.inr (.inr (.inr rfl)))]
          subst hR
          clear HR e3 q3
          go_wp2
          go_ret3
          exact ⟨rfl, b5⟩
        | false =>
          have hR : R = U := by rw [HR.out, if_neg (by simp [e1, e3])]
          subst hR
          clear HR e3
          go_wp2_with fail
          refine (hlu _ hb5').mono ?_
          rintro e w6 ⟨rfl, hb6⟩
          obtain ⟨x1, x2, x3⟩ := R
          unfold trip
          go_wp2
          go_ret3
          exact ⟨rfl, b5.trans (hb6.mono b5.size)⟩
      · have q3 : (H1.toList == H2.toList) = false := LV.bytes_ne e3
        have hR : R = (⟨#[]⟩, ⟨#[]⟩, false) := by rw [HR.out, if_pos (.inr (.inr (.inl e3)))]
        subst hR
        clear HR k0 k1 k2 k3 hb4' HSY
        go_wp2
        go_ret3
        exact ⟨rfl, b4⟩
    · have hR : R = (⟨#[]⟩, ⟨#[]⟩, false) := by rw [HR.out, if_pos (.inr (.inl e2))]
      subst hR
      have q2 : ((n1 : Int) != (n2 : Int)) = true := by simp; omega
      clear HR HSY HH1 HH2 HLU HS2
      go_wp2
      go_ret3
      exact ⟨rfl, b2⟩

end Go.Proofs.YtfojmagcoipbnaaGreatDoor
