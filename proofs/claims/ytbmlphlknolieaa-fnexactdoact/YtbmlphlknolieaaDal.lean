/-
  The walk of the law FnExactDoAct: it answers true of every disk and every act.
-/
import Derived.Test.YtbmlphlknolieaaSj
import Derived.Test.YtbmlphlknolieaaAc
import Derived.Test.YtbmlphlknolieaaLsl
namespace Go.Proofs.Ytbmlphlknolieaa
open Go.RowKit Go.BigFrame Go.Sort
set_option linter.unusedVariables false
set_option linter.unusedSimpArgs false

/-- above the world b: what the specification answered, and what the program answered -/
def LaS (b W : World) (pw : Nat) (sw : Value) (gw : Nat) (pg : Nat) (sg : Value) (gg : Nat) (M N : List Fl) : Prop := Below b.heap.size b W ∧ XD W pw sw gw M ∧ XD W pg sg gg N
theorem LaS.later {b W W' : World} {pw : Nat} {sw : Value} {gw : Nat} {pg : Nat} {sg : Value} {gg : Nat} {M N : List Fl} (h : LaS b W pw sw gw pg sg gg M N) (hb : Below W.heap.size W W') : LaS b W' pw sw gw pg sg gg M N :=
  ⟨h.1.trans (hb.mono h.1.size), h.2.1.later hb, h.2.2.later hb⟩
theorem LaS.grown {b W W' : World} {pw : Nat} {sw : Value} {gw : Nat} {pg : Nat} {sg : Value} {gg : Nat} {M N : List Fl} {row : Option Nat} (h : LaS b W pw sw gw pg sg gg M N) (hg : W.grownBy W' row)
    (n2 : some pw ≠ row) (n3 : 0 < M.length → some gw ≠ row) (n4 : some pg ≠ row) (n5 : 0 < N.length → some gg ≠ row) (n7 : ∀ k, row = some k → b.heap.size ≤ k) : LaS b W' pw sw gw pg sg gg M N :=
  ⟨h.1.grown hg h.1.size n7, h.2.1.grown hg n2 n3, h.2.2.grown hg n4 n5⟩
/-- .. the latter bearing marks -/
theorem LaS.mark {b W W' : World} {pw : Nat} {sw : Value} {gw : Nat} {pg : Nat} {sg : Value} {gg : Nat} {M : List Fl} {row : Option Nat} (h : LaS b W pw sw gw pg sg gg M M) (hg : W.grownBy W' row)
    (n2 : some pw ≠ row) (n3 : 0 < M.length → some gw ≠ row) (n4 : some pg ≠ row) (n7 : ∀ k, row = some k → b.heap.size ≤ k) (hr : RW 3 fcs W' sg gg (fmarks 1 M.length)) : LaS b W' pw sw gw pg sg gg M (fmarks 1 M.length) :=
  ⟨h.1.grown hg h.1.size n7, h.2.1.grown hg n2 n3, h.2.2.1.grown hg n4, hr⟩
/-- a world above another: nothing that was there has turned -/
def Up (V W : World) : Prop := Below V.heap.size V W
theorem Up.refl (V : World) : Up V V := Below.refl _ _
theorem Up.step {V W X : World} (h : Up V W) (hb : Up W X) : Up V X := Below.trans h (Below.mono hb h.size)
theorem Up.alloc {V W : World} (h : Up V W) (o : Obj) : Up V (W.alloc o) := Below.alloc h h.size o
theorem Up.drew {V W : World} (h : Up V W) : Up V W.drew := Below.drew h
/-- the box, empty yet, above V -/
def Bx (V W : World) (q : Nat) : Prop := BD W q 26 (.slice none 0 0) ∧ V.heap.size ≤ q
theorem Bx.new {V W : World} (h : Up V W) : Bx V (W.alloc (.cells #[.slice none 0 0] 26)) W.heap.size := ⟨BD.new W _ _, h.size⟩
theorem Bx.up {V W X : World} {q : Nat} (h : Bx V W q) (hb : Up W X) : Bx V X q := ⟨h.1.later hb, h.2⟩
theorem Bx.le {V W : World} {q : Nat} (h : Bx V W q) : V.heap.size ≤ q := h.2
theorem Bx.lt {V W : World} {q : Nat} (h : Bx V W q) : q < W.heap.size := h.1.lt
theorem Bx.cell {V W : World} {q : Nat} (h : Bx V W q) : W.cell? ⟨q, 0, none⟩ = some (.slice none 0 0) := h.1.cell
theorem Bx.fr {V W : World} {q : Nat} (h : Bx V W q) : W.frozen? ⟨q, 0, none⟩ = false := h.1.fr
theorem Up.set {V W : World} {q : Nat} (h : Up V W) (hq : V.heap.size ≤ q) (u : Value) : Up V (W.setCell ⟨q, 0, none⟩ u) := Below.setCell (p := ⟨q, 0, none⟩) h hq u
theorem RS.up {W X : World} {v : Value} {g o : Nat} {l : List Fl} (h : RS 3 fcs W v g o l) (hb : Up W X) : RS 3 fcs X v g o l := h.later hb
/-- behind a region that makes a disk and its box: both new -/
def Rg (V W : World) (q : Nat) (s : Value) (p : Nat) (M : List Fl) : Prop := Up V W ∧ XD W q s p M ∧ V.heap.size ≤ q ∧ q < W.heap.size ∧ V.heap.size ≤ p ∧ (0 < M.length → p < W.heap.size ∧ q ≠ p)
theorem Rg.last {V v : World} {s : Value} {p : Nat} {M : List Fl} (hb : Up V v) (hr : RW 3 fcs v s p M) (hp : V.heap.size ≤ p) : Rg V (v.alloc (.cells #[s] 26)) v.heap.size s p M :=
  ⟨hb.alloc _, XD.new hr, hb.size, by simp, hp, fun h => ⟨by have := hr.lt h; simp; omega, by have := hr.lt h; omega⟩⟩
theorem Rg.early {V v : World} {q : Nat} {s : Value} {p : Nat} {M : List Fl} (hq : Bx V v q) (hb : Up V v) (hr : RW 3 fcs v s p M) (hqp : q < p) : Rg V (v.setCell ⟨q, 0, none⟩ s) q s p M := by
  have hsz : (v.setCell ⟨q, 0, none⟩ s).heap.size = v.heap.size := by simp [World.setCell]
  have hV := hq.2
  refine ⟨hb.set hV _, ⟨?_, hr.grown (grown_set v q 0 s) (fun _ h => by simp at h; omega)⟩, hV, by rw [hsz]; exact hq.1.lt, by omega, fun h => ⟨by rw [hsz]; exact hr.lt h, by omega⟩⟩
  unfold BD
  rw [heap_setCell_same v q 0 _ _ _ hq.1]
  rfl
theorem cut_rg {V : World} {M : List Fl} {R : Prop} {G : Option Addr → Nat → Option Addr → Nat → Nat → World → Nat → Prop} (r : Hid (∀ a2 c2 a4 c4 p4 W q, Rg V W q (.slice a4 M.length c4) p4 M → G a2 c2 a4 c4 p4 W q) → R)
    (k : ∀ a2 c2 a4 c4 p4 W q, Rg V W q (.slice a4 M.length c4) p4 M → G a2 c2 a4 c4 p4 W q) : R := r k
theorem cut_rg' {V : World} {M : List Fl} {R : Prop} {G : Option Addr → Nat → Nat → World → Nat → Prop} (r : Hid (∀ a4 c4 p4 W q, Rg V W q (.slice a4 M.length c4) p4 M → G a4 c4 p4 W q) → R)
    (k : ∀ a4 c4 p4 W q, Rg V W q (.slice a4 M.length c4) p4 M → G a4 c4 p4 W q) : R := r k
theorem act_len (L : List Fl) (c : Ac) : ((F.actR L c).getD []).length ≤ 100000 := by
  cases hd : F.diskB L with
  | false => rw [F.actR_no _ hd]; simp
  | true =>
    rw [F.actR_yes _ hd]
    cases hM : F.doL L c with
    | none => simp
    | some M => have := (F.doL_ok (F.diskB_iff.1 hd) hM).1; simp only [Option.getD_some]; omega

set_option maxRecDepth 100000 in
set_option maxHeartbeats 4000000 in
theorem doActLaw_any (v : Value) (g o : Nat) (L : List Fl) (c : Ac) (w : World) (hv : IsRowF w v g o L) (hn : c.n.size ≤ 9223372036854775807) (ht : c.t.size ≤ 9223372036854775807) (ho : c.o.size ≤ 9223372036854775807) :
    Calls Try.prog 7 #[.agg #[v], .agg #[.int .i64 c.k, .string c.n, .string c.t, .string c.o]] w fun e w' => e = .returned (.bool true) ∧ Below w.heap.size w w' := by
  have HSA : Hid (∀ (x : Int) (W : World), 0 ≤ x → x ≤ 1048576 → Calls Try.prog 33 #[.agg #[.int .i64 c.k, .string c.n, .string c.t, .string c.o], .int .i64 x] W fun e w' => ∃ A : Int, e = .returned (.int .i64 A) ∧ Below W.heap.size W w' ∧ A ≤ x ∧ (0 ≤ A → c.n.size ≤ 1048576 ∧ c.t.size ≤ 1048576 ∧ c.o.size ≤ 1048576)) := fun x W h0 h1 => szAct_any c x W h0 h1 hn ht ho
  have HTA : Hid (∀ W : World, Calls Try.prog 35 #[.agg #[.int .i64 c.k, .string c.n, .string c.t, .string c.o]] W fun e w' => e = .returned (.agg #[.int .i64 c.k, .string c.n, .string c.t, .string c.o]) ∧ Below W.heap.size W w') := fun W => toAct_any c W
  have hsv : ∃ a n cap, v = .slice a n cap := by obtain ⟨a, n, cap, h, _⟩ := hv; exact ⟨a, n, cap, h⟩
  obtain ⟨a, n, cap, rfl⟩ := hsv
  have hB : Below w.heap.size w ((w.alloc (.cells #[.slice a n cap] 51)).alloc (.cells #[.int .i64 c.k, .string c.n, .string c.t, .string c.o] 56)) := ((Below.refl _ _).alloc (Nat.le_refl _) _).alloc (by simp) _
  have HG : Hid (∀ W, Below ((w.alloc (.cells #[.slice a n cap] 51)).alloc (.cells #[.int .i64 c.k, .string c.n, .string c.t, .string c.o] 56)).heap.size ((w.alloc (.cells #[.slice a n cap] 51)).alloc (.cells #[.int .i64 c.k, .string c.n, .string c.t, .string c.o] 56)) W → W.cell? ⟨w.heap.size, 0, none⟩ = some (.slice a n cap) ∧ W.cell? ⟨w.heap.size + 1, 0, none⟩ = some (.int .i64 c.k) ∧ W.cell? ⟨w.heap.size + 1, 1, none⟩ = some (.string c.n) ∧ W.cell? ⟨w.heap.size + 1, 2, none⟩ = some (.string c.t) ∧ W.cell? ⟨w.heap.size + 1, 3, none⟩ = some (.string c.o)) := fun W hW => by
    have hsB : ((w.alloc (.cells #[.slice a n cap] 51)).alloc (.cells #[.int .i64 c.k, .string c.n, .string c.t, .string c.o] 56)).heap.size = w.heap.size + 1 + 1 := by simp
    have hg1 : ((w.alloc (.cells #[.slice a n cap] 51)).alloc (.cells #[.int .i64 c.k, .string c.n, .string c.t, .string c.o] 56)).heap[w.heap.size]? = some (.cells #[.slice a n cap] 51 (0, 0)) := alloc_snd _ _ _ rfl
    have hg2 : ((w.alloc (.cells #[.slice a n cap] 51)).alloc (.cells #[.int .i64 c.k, .string c.n, .string c.t, .string c.o] 56)).heap[w.heap.size + 1]? = some (.cells #[.int .i64 c.k, .string c.n, .string c.t, .string c.o] 56 (0, 0)) := alloc_fst _ _ (by simp)
    have h1 := (hW.block w.heap.size (by rw [hsB]; omega)).trans hg1
    have h2 := (hW.block (w.heap.size + 1) (by rw [hsB]; omega)).trans hg2
    exact ⟨by rw [cell_of_row _ _ 0 _ _ _ h1]; rfl, by rw [cell_of_row _ _ 0 _ _ _ h2]; rfl, by rw [cell_of_row _ _ 1 _ _ _ h2]; rfl, by rw [cell_of_row _ _ 2 _ _ _ h2]; rfl, by rw [cell_of_row _ _ 3 _ _ _ h2]; rfl⟩
  have HSZ := szDisk_row _ g o L 1048576 _ (hv.later hB) (by omega) (by omega)
  have HB : Hid (Below w.heap.size w ((w.alloc (.cells #[.slice a n cap] 51)).alloc (.cells #[.int .i64 c.k, .string c.n, .string c.t, .string c.o] 56))) := hB
  have HR : Hid (IsRowF w (.slice a n cap) g o L) := hv
  clear hv hB hn ht ho
  go_enter Try.func7, Try.ntmps7
  go_wp2_with fail
  refine HSZ.mono ?_
  rintro e w1 ⟨A, rfl, hb1, hA1, hA⟩
  by_cases hneg : A < 0
  · have b1 := HB.out.trans (hb1.mono HB.out.size)
    clear hA HSZ HR HB HG HSA HTA hb1
    go_wp2
    go_ret
    exact ⟨rfl, b1⟩
  obtain ⟨hrs, hsm, hlen⟩ := hA (by omega)
  obtain ⟨z0, z1, z2, z3, z4⟩ := HG.out _ hb1
  have H1 : Hid (Below ((w.alloc (.cells #[.slice a n cap] 51)).alloc (.cells #[.int .i64 c.k, .string c.n, .string c.t, .string c.o] 56)).heap.size ((w.alloc (.cells #[.slice a n cap] 51)).alloc (.cells #[.int .i64 c.k, .string c.n, .string c.t, .string c.o] 56)) w1) := hb1
  clear hb1 hA HSZ hsm
  go_wp2_with fail
  refine (HSA.out A w1 (by omega) (by omega)).mono ?_
  rintro e w0 ⟨A2, rfl, hb0, hA2, hA⟩
  have H0 : Hid (Below ((w.alloc (.cells #[.slice a n cap] 51)).alloc (.cells #[.int .i64 c.k, .string c.n, .string c.t, .string c.o] 56)).heap.size ((w.alloc (.cells #[.slice a n cap] 51)).alloc (.cells #[.int .i64 c.k, .string c.n, .string c.t, .string c.o] 56)) w0) := H1.out.trans (hb0.mono H1.out.size)
  by_cases hneg2 : A2 < 0
  · have b1 := HB.out.trans (H0.out.mono HB.out.size)
    clear hA HR HB HG HSA HTA hb0 H1 H0 hrs
    go_wp2
    go_ret
    exact ⟨rfl, b1⟩
  have hsa : SmallA c := hA (by omega)
  have HTO : Hid (∀ W, Below ((w.alloc (.cells #[.slice a n cap] 51)).alloc (.cells #[.int .i64 c.k, .string c.n, .string c.t, .string c.o] 56)).heap.size ((w.alloc (.cells #[.slice a n cap] 51)).alloc (.cells #[.int .i64 c.k, .string c.n, .string c.t, .string c.o] 56)) W → Calls Try.prog 30 #[.agg #[.slice a n cap]] W fun e w' => ∃ u, e = .returned u ∧ DkIn w' W.heap.size u L ∧ Below W.heap.size W w') := fun W hW => by
    obtain ⟨a', n', c', ev, _, hr⟩ := HR.out
    obtain ⟨a2, c2, ev2⟩ := hrs.shape
    have hn : n' = L.length := by rw [ev] at ev2; simp at ev2; exact ev2.2.1
    exact toDisk_any _ g o L W ((hr (by omega)).2.1.later (HB.out.trans (hW.mono HB.out.size)))
  have hML := act_len L c
  have HSP : Hid (∀ W s ga, RS 3 fcs W s ga 0 L → Calls Try.prog 34 #[.agg #[s], .agg #[.int .i64 c.k, .string c.n, .string c.t, .string c.o]] W fun e w' => ∃ u, e = .returned (.tuple #[u, .bool (F.actR L c).isSome]) ∧ DkIn w' W.heap.size u ((F.actR L c).getD []) ∧ Below W.heap.size W w') := fun W s ga h1 => sDoAct_any s ga 0 L c W h1 hsa
  have HIM : Hid (∀ W s ga, RS 3 fcs W s ga 0 L → Calls Try.prog 24 #[.agg #[s], .agg #[.int .i64 c.k, .string c.n, .string c.t, .string c.o]] W fun e w' => ∃ u, e = .returned (.tuple #[u, .bool (F.actR L c).isSome]) ∧ DkIn w' W.heap.size u ((F.actR L c).getD []) ∧ Below W.heap.size W w') := fun W s ga h1 => DoAct_any s ga 0 L c W h1 hsa
  generalize (F.actR L c).getD [] = M at *
  generalize (F.actR L c).isSome = R at *
  clear hrs hA HR hb0 H1 hsa HSA z0 z1 z2 z3 z4
  have hL2 : L.length ≤ 1048576 := hlen
  obtain ⟨z0, z1, z2, z3, z4⟩ := HG.out _ H0.out
  -- the specification's answer
  have HGV : Hid (∀ W, Up w0 W → W.cell? ⟨w.heap.size, 0, none⟩ = some (.slice a n cap) ∧ W.cell? ⟨w.heap.size + 1, 0, none⟩ = some (.int .i64 c.k) ∧ W.cell? ⟨w.heap.size + 1, 1, none⟩ = some (.string c.n) ∧ W.cell? ⟨w.heap.size + 1, 2, none⟩ = some (.string c.t) ∧ W.cell? ⟨w.heap.size + 1, 3, none⟩ = some (.string c.o)) := fun W hW => HG.out W ((H0.out).trans (Below.mono hW (H0.out).size))
  have HTV : Hid (∀ W, Up w0 W → Calls Try.prog 30 #[.agg #[.slice a n cap]] W fun e w' => ∃ a2 c2 p2, e = .returned (.agg #[.slice a2 L.length c2]) ∧ RS 3 fcs w' (.slice a2 L.length c2) p2 0 L ∧ Up W w') := fun W hW => (HTO.out W ((H0.out).trans (Below.mono hW (H0.out).size))).mono fun e w' ⟨u, he, hu, hb⟩ => by
    obtain ⟨a2, c2, p2, rfl, hr2, _, _⟩ := hu.open'
    exact ⟨a2, c2, p2, he, hr2.1, hb⟩
  have HAV : Hid (∀ W, Calls Try.prog 35 #[.agg #[.int .i64 c.k, .string c.n, .string c.t, .string c.o]] W fun e w' => e = .returned (.agg #[.int .i64 c.k, .string c.n, .string c.t, .string c.o]) ∧ Up W w') := fun W => HTA.out W
  have HSV : Hid (∀ W s ga, RS 3 fcs W s ga 0 L → Calls Try.prog 34 #[.agg #[s], .agg #[.int .i64 c.k, .string c.n, .string c.t, .string c.o]] W fun e w' => ∃ a4 c4 p4, e = .returned (.tuple #[.agg #[.slice a4 M.length c4], .bool R]) ∧ RW 3 fcs w' (.slice a4 M.length c4) p4 M ∧ W.heap.size ≤ p4 ∧ Up W w') := fun W s ga h1 => (HSP.out W s ga h1).mono fun e w' ⟨u, he, hu, hb⟩ => by
    obtain ⟨a2, c2, p2, rfl, hr2, hp2, _⟩ := hu.open'
    exact ⟨a2, c2, p2, he, hr2, hp2, hb⟩
  have U0 : Up w0 w0.drew := (Up.refl w0).drew
  have U0a : Up w0 (w0.alloc (.cells #[.slice none 0 0] 26)).drew := ((Up.refl w0).alloc _).drew
  have B0a : Bx w0 (w0.alloc (.cells #[.slice none 0 0] 26)).drew w0.heap.size := Bx.new (Up.refl w0)
  go_wp2
  apply cut_rg (V := w0) (M := M)
  case r =>
    intro key
    go_region_held3 (fun W => W.cell? ⟨w.heap.size, 0, none⟩ = some (.slice a n cap) ∧ W.cell? ⟨w.heap.size + 1, 0, none⟩ = some (.int .i64 c.k) ∧ W.cell? ⟨w.heap.size + 1, 1, none⟩ = some (.string c.n) ∧ W.cell? ⟨w.heap.size + 1, 2, none⟩ = some (.string c.t) ∧ W.cell? ⟨w.heap.size + 1, 3, none⟩ = some (.string c.o)) (first | (with_reducible exact HGV.out _ U4) | (with_reducible exact HGV.out _ (U4.alloc _)) | (with_reducible exact HGV.out _ U3) | (with_reducible exact HGV.out _ (U3.alloc _)) | (with_reducible exact HGV.out _ U2) | (with_reducible exact HGV.out _ (U2.alloc _)) | (with_reducible exact HGV.out _ U0) | (with_reducible exact HGV.out _ U0a) | (with_reducible exact HGV.out _ (U4.set hq.le _))) ((first | (go_at_call 30; (first | (with_reducible refine (HTV.out _ U0).mono ?_) | (with_reducible refine (HTV.out _ U0a).mono ?_)); rintro e v2 ⟨a2, c2, p2, rfl, hr2, hb2⟩; have U2 : Up w0 v2 := (by first | with_reducible exact U0.step hb2 | with_reducible exact U0a.step hb2); (first | (have hq : Bx w0 v2 w0.heap.size := (by with_reducible exact B0a.up hb2)) | skip)) | (go_at_call 35; (with_reducible refine (HAV.out _).mono ?_); rintro e v3 ⟨rfl, hb3⟩; have V3 : Up v2 v3 := (by first | with_reducible exact hb3 | with_reducible exact ((Up.refl v2).alloc _).step hb3); have U3 : Up w0 v3 := U2.step V3; have hr3 := hr2.up V3; (first | (have hq := hq.up V3) | (have hq : Bx w0 v3 v2.heap.size := (by with_reducible exact (Bx.new U2).up hb3)) | skip)) | (go_at_call 34; (first | (with_reducible refine (HSV.out _ _ p2 hr3).mono ?_) | (with_reducible refine (HSV.out _ _ p2 (hr3.alloc _)).mono ?_)); rintro e v4 ⟨a4, c4, p4, rfl, hr4, hp4, hb4⟩; have V4 : Up v3 v4 := (by first | with_reducible exact hb4 | with_reducible exact ((Up.refl v3).alloc _).step hb4); have U4 : Up w0 v4 := U3.step V4; have hp4' : v3.heap.size ≤ p4 := (by first | (have h9 := hp4; omega) | (have h9 := hp4; simp at h9; omega)); (first | (have hqp := Nat.lt_of_lt_of_le hq.lt hp4'; have hq := hq.up V4) | (have hq : Bx w0 v4 v3.heap.size := (by with_reducible exact (Bx.new U3).up hb4); have hqp : v3.heap.size < p4 := (by have h9 := hp4; simp at h9; omega)) | skip); (first | (have o0 := hq.cell; have o1 := hq.fr) | skip))))
    · have HF := Rg.last U4 hr4 (Nat.le_trans U3.size hp4')
      clear hb2 U2 hr2 hr3 V3 hb3 U3 hr4 hp4 hb4 V4 U4 hp4'
      generalize v4.alloc (.cells #[(.slice a4 M.length c4)] 26) = W4 at HF ⊢
      generalize v4.heap.size = q4 at HF ⊢
      exact key.out a2 c2 a4 c4 p4 W4 q4 HF
    all_goals
      have HF := Rg.early hq U4 hr4 hqp
      exact key.out a2 c2 a4 c4 p4 _ _ HF
  case k =>
    intro a2 c2 a4 c4 p4 W4 q4 HF4
    clear HGV HTV HAV HSV U0 U0a B0a z0 z1 z2 z3 z4
    have HX4 : Hid (Below ((w.alloc (.cells #[.slice a n cap] 51)).alloc (.cells #[.int .i64 c.k, .string c.n, .string c.t, .string c.o] 56)).heap.size ((w.alloc (.cells #[.slice a n cap] 51)).alloc (.cells #[.int .i64 c.k, .string c.n, .string c.t, .string c.o] 56)) W4 ∧ XD W4 q4 (.slice a4 M.length c4) p4 M ∧ (0 < M.length → p4 < W4.heap.size) ∧ q4 < W4.heap.size) := ⟨H0.out.trans (Below.mono HF4.1 H0.out.size), HF4.2.1, fun h => (HF4.2.2.2.2.2 h).1, HF4.2.2.2.1⟩
    clear HF4 H0
    obtain ⟨z0, z1, z2, z3, z4⟩ := HG.out _ HX4.out.1
    -- the argument, anew
    go_wp2_with fail
    refine (HTO.out _ HX4.out.1).mono ?_
    rintro e w5 ⟨u, rfl, hu, hb5⟩
    obtain ⟨a5, c5, p5, rfl, hr5, hp5, hl5⟩ := hu.open'
    have b5 := HX4.out.1.trans (hb5.mono HX4.out.1.size)
    have hs5 : W4.heap.size ≤ w5.heap.size := hb5.size
    have hA5 : Below w5.heap.size w5 (w5.alloc (.cells #[.slice a5 L.length c5] 26)) := (Below.refl _ _).alloc (Nat.le_refl _) _
    have HX5 : Hid (Below ((w.alloc (.cells #[.slice a n cap] 51)).alloc (.cells #[.int .i64 c.k, .string c.n, .string c.t, .string c.o] 56)).heap.size ((w.alloc (.cells #[.slice a n cap] 51)).alloc (.cells #[.int .i64 c.k, .string c.n, .string c.t, .string c.o] 56)) (w5.alloc (.cells #[.slice a5 L.length c5] 26)) ∧ XD (w5.alloc (.cells #[.slice a5 L.length c5] 26)) q4 (.slice a4 M.length c4) p4 M ∧ XD (w5.alloc (.cells #[.slice a5 L.length c5] 26)) w5.heap.size (.slice a5 L.length c5) p5 L) := ⟨b5.trans (hA5.mono b5.size), (HX4.out.2.1.later hb5).later hA5, XD.new hr5⟩
    have HP : Hid ((0 < M.length → p4 < W4.heap.size) ∧ (0 < L.length → p5 < w5.heap.size) ∧ q4 < W4.heap.size ∧ W4.heap.size ≤ w5.heap.size ∧ W4.heap.size ≤ p5 ∧ ((w.alloc (.cells #[.slice a n cap] 51)).alloc (.cells #[.int .i64 c.k, .string c.n, .string c.t, .string c.o] 56)).heap.size ≤ W4.heap.size) := ⟨HX4.out.2.2.1, hl5, HX4.out.2.2.2, hs5, hp5, HX4.out.1.size⟩
    have hV5 : w5.heap.size < (w5.alloc (.cells #[.slice a5 L.length c5] 26)).heap.size := by simp
    clear hu hb5 hr5 b5 hA5 HX4 hp5 hl5 hs5 z0 z1 z2 z3 z4
    go_wp2
    generalize w5.alloc (.cells #[.slice a5 L.length c5] 26) = V5 at *
    generalize w5.heap.size = q5 at *
    obtain ⟨z0, z1, z2, z3, z4⟩ := HG.out _ HX5.out.1
    have c6 := HX5.out.2.2.1.cell
    have HGV : Hid (∀ W, Up V5 W → W.cell? ⟨q5, 0, none⟩ = some (.slice a5 L.length c5) ∧ W.cell? ⟨w.heap.size + 1, 0, none⟩ = some (.int .i64 c.k) ∧ W.cell? ⟨w.heap.size + 1, 1, none⟩ = some (.string c.n) ∧ W.cell? ⟨w.heap.size + 1, 2, none⟩ = some (.string c.t) ∧ W.cell? ⟨w.heap.size + 1, 3, none⟩ = some (.string c.o)) := fun W hW => ⟨(HX5.out.2.2.1.later hW).cell, (HG.out W ((HX5.out.1).trans (Below.mono hW (HX5.out.1).size))).2⟩
    have HAV : Hid (∀ W, Calls Try.prog 35 #[.agg #[.int .i64 c.k, .string c.n, .string c.t, .string c.o]] W fun e w' => e = .returned (.agg #[.int .i64 c.k, .string c.n, .string c.t, .string c.o]) ∧ Up W w') := fun W => HTA.out W
    have HSV : Hid (∀ W s ga, RS 3 fcs W s ga 0 L → Calls Try.prog 24 #[.agg #[s], .agg #[.int .i64 c.k, .string c.n, .string c.t, .string c.o]] W fun e w' => ∃ a4 c4 p4, e = .returned (.tuple #[.agg #[.slice a4 M.length c4], .bool R]) ∧ RW 3 fcs w' (.slice a4 M.length c4) p4 M ∧ W.heap.size ≤ p4 ∧ Up W w') := fun W s ga h1 => (HIM.out W s ga h1).mono fun e w' ⟨u, he, hu, hb⟩ => by
      obtain ⟨a2, c2, p2, rfl, hr2, hp2, _⟩ := hu.open'
      exact ⟨a2, c2, p2, he, hr2, hp2, hb⟩
    have U0 : Up V5 V5.drew := (Up.refl V5).drew
    have U0a : Up V5 (V5.alloc (.cells #[.slice none 0 0] 26)).drew := ((Up.refl V5).alloc _).drew
    have B0a : Bx V5 (V5.alloc (.cells #[.slice none 0 0] 26)).drew V5.heap.size := Bx.new (Up.refl V5)
    have HRV : Hid (∀ W, Up V5 W → RS 3 fcs W (.slice a5 L.length c5) p5 0 L) := fun W hW => RS.up (HX5.out.2.2.2.1) hW
    apply cut_rg' (V := V5) (M := M)
    case r =>
      intro key
      go_region_held3 (fun W => W.cell? ⟨q5, 0, none⟩ = some (.slice a5 L.length c5) ∧ W.cell? ⟨w.heap.size + 1, 0, none⟩ = some (.int .i64 c.k) ∧ W.cell? ⟨w.heap.size + 1, 1, none⟩ = some (.string c.n) ∧ W.cell? ⟨w.heap.size + 1, 2, none⟩ = some (.string c.t) ∧ W.cell? ⟨w.heap.size + 1, 3, none⟩ = some (.string c.o)) (first | (with_reducible exact HGV.out _ U4) | (with_reducible exact HGV.out _ (U4.alloc _)) | (with_reducible exact HGV.out _ U3) | (with_reducible exact HGV.out _ (U3.alloc _)) | (with_reducible exact HGV.out _ U0) | (with_reducible exact HGV.out _ U0a) | (with_reducible exact HGV.out _ (U4.set hq.le _))) ((first | (go_at_call 35; (with_reducible refine (HAV.out _).mono ?_); rintro e v3 ⟨rfl, hb3⟩; have U3 : Up V5 v3 := (by first | with_reducible exact U0.step hb3 | with_reducible exact U0a.step hb3); (first | (have hq : Bx V5 v3 V5.heap.size := (by with_reducible exact B0a.up hb3)) | skip)) | (go_at_call 24; (first | (with_reducible refine (HSV.out _ _ p5 (HRV.out _ U3)).mono ?_) | (with_reducible refine (HSV.out _ _ p5 (HRV.out _ (U3.alloc _))).mono ?_)); rintro e v4 ⟨a4, c4, p4, rfl, hr4, hp4, hb4⟩; have V4 : Up v3 v4 := (by first | with_reducible exact hb4 | with_reducible exact ((Up.refl v3).alloc _).step hb4); have U4 : Up V5 v4 := U3.step V4; have hp4' : v3.heap.size ≤ p4 := (by first | (have h9 := hp4; omega) | (have h9 := hp4; simp at h9; omega)); (first | (have hqp := Nat.lt_of_lt_of_le hq.lt hp4'; have hq := hq.up V4) | (have hq : Bx V5 v4 v3.heap.size := (by with_reducible exact (Bx.new U3).up hb4); have hqp : v3.heap.size < p4 := (by have h9 := hp4; simp at h9; omega)) | skip); (first | (have o0 := hq.cell; have o1 := hq.fr) | skip))))
      · have HF := Rg.last U4 hr4 (Nat.le_trans U3.size hp4')
        clear hb3 U3 hr4 hp4 hb4 V4 U4 hp4'
        generalize v4.alloc (.cells #[(.slice a4 M.length c4)] 26) = W4 at HF ⊢
        generalize v4.heap.size = q4 at HF ⊢
        exact key.out a4 c4 p4 W4 q4 HF
      all_goals
        have HF := Rg.early hq U4 hr4 hqp
        exact key.out a4 c4 p4 _ _ HF
    case k =>
      intro a7 c7 p7 W7 q7 HF7
      clear HGV HAV HSV HRV U0 U0a B0a z0 z1 z2 z3 z4 c6
      have HS7 : Hid (LaS ((w.alloc (.cells #[.slice a n cap] 51)).alloc (.cells #[.int .i64 c.k, .string c.n, .string c.t, .string c.o] 56)) W7 q4 (.slice a4 M.length c4) p4 q7 (.slice a7 M.length c7) p7 M M ∧ XD W7 q5 (.slice a5 L.length c5) p5 L) := ⟨⟨HX5.out.1.trans (Below.mono HF7.1 HX5.out.1.size), HX5.out.2.1.later HF7.1, HF7.2.1⟩, HX5.out.2.2.later HF7.1⟩
      obtain ⟨N5, hN5⟩ : ∃ N5, rowF p5 L.length = N5 := ⟨_, rfl⟩
      obtain ⟨N7, hN7⟩ : ∃ N7, rowF p7 M.length = N7 := ⟨_, rfl⟩
      have HNE : Hid ((some q4 ≠ N5 ∧ (0 < M.length → some p4 ≠ N5) ∧ some q7 ≠ N5 ∧ (0 < M.length → some p7 ≠ N5) ∧ (∀ k, N5 = some k → ((w.alloc (.cells #[.slice a n cap] 51)).alloc (.cells #[.int .i64 c.k, .string c.n, .string c.t, .string c.o] 56)).heap.size ≤ k))
          ∧ (some q4 ≠ N7 ∧ (0 < M.length → some p4 ≠ N7) ∧ some q7 ≠ N7 ∧ (∀ k, N7 = some k → ((w.alloc (.cells #[.slice a n cap] 51)).alloc (.cells #[.int .i64 c.k, .string c.n, .string c.t, .string c.o] 56)).heap.size ≤ k))) := by
        obtain ⟨g1, g2, g3, g4, g5, g6⟩ := HP.out
        obtain ⟨_, _, f1, f2, f3, f4⟩ := HF7
        subst hN5 hN7
        exact ⟨⟨rowF_ne (fun _ => by omega), fun h => rowF_ne (fun _ => by have := g1 h; omega), rowF_ne (fun h => by have := g2 h; omega), fun h => rowF_ne (fun hh => by have := g2 hh; omega), rowF_le (by omega)⟩,
          ⟨rowF_ne (fun _ => by omega), fun h => rowF_ne (fun _ => by have := g1 h; omega), rowF_ne (fun h => (f4 h).2), rowF_le (by omega)⟩⟩
      clear HP HF7 HX5 hV5
      have HN : Hid (rowF p5 L.length = N5 ∧ rowF p7 M.length = N7) := ⟨hN5, hN7⟩
      clear hN5 hN7
      have ca := HS7.out.1.2.2.1.cell
      have cb := HS7.out.1.2.1.1.cell
      go_wp2_with fail
      refine (eqDisk_yes _ _ p7 0 p4 0 M _ HS7.out.1.2.2.2.1 HS7.out.1.2.1.2.1).mono ?_
      rintro e w8 ⟨rfl, hb8⟩
      have HS8 : Hid (LaS ((w.alloc (.cells #[.slice a n cap] 51)).alloc (.cells #[.int .i64 c.k, .string c.n, .string c.t, .string c.o] 56)) w8 q4 (.slice a4 M.length c4) p4 q7 (.slice a7 M.length c7) p7 M M ∧ XD w8 q5 (.slice a5 L.length c5) p5 L) := ⟨HS7.out.1.later hb8, HS7.out.2.later hb8⟩
      clear HS7 hb8 ca cb
      obtain ⟨z0, z1, z2, z3, z4⟩ := HG.out _ HS8.out.1.1
      have d1 := HS8.out.2.1.cell
      have HK : Hid (∀ W, Below w8.heap.size w8 W → W.cell? ⟨w.heap.size, 0, none⟩ = some (.slice a n cap) ∧ W.cell? ⟨q5, 0, none⟩ = some (.slice a5 L.length c5)) := fun W hW => ⟨(HG.out _ (HS8.out.1.1.trans (hW.mono HS8.out.1.1.size))).1, (HS8.out.2.1.later hW).cell⟩
      clear z1 z2 z3 z4
      go_wp2
      go_region_held3 (fun W => W.cell? ⟨w.heap.size, 0, none⟩ = some (.slice a n cap) ∧ W.cell? ⟨q5, 0, none⟩ = some (.slice a5 L.length c5)) (first | go_keep | exact HK.out _ hb10 | exact HK.out _ hb9) ((first | (go_at_call 30; refine (HTO.out _ HS8.out.1.1.drew).mono ?_; rintro e w9 ⟨u9, rfl, hu9, hb9'⟩; obtain ⟨a9, c9, p9, rfl, hr9, _, _⟩ := hu9.open'; have hb9 : Below w8.heap.size w8 w9 := (Below.refl w8.heap.size w8).drew.trans hb9') | (go_at_call 31; refine (eqDisk_yes _ _ p5 0 p9 0 L _ (HS8.out.2.later hb9).2.1 hr9.1).mono ?_; rintro e w10 ⟨rfl, hb10'⟩; have hb10 : Below w8.heap.size w8 w10 := hb9.trans (hb10'.mono hb9.size))))
      have HS10 : Hid (LaS ((w.alloc (.cells #[.slice a n cap] 51)).alloc (.cells #[.int .i64 c.k, .string c.n, .string c.t, .string c.o] 56)) w10 q4 (.slice a4 M.length c4) p4 q7 (.slice a7 M.length c7) p7 M M ∧ XD w10 q5 (.slice a5 L.length c5) p5 L) := ⟨HS8.out.1.later hb10, HS8.out.2.later hb10⟩
      clear HS8 hb10 hb10' hb9 hb9' hr9 hu9 HK z0 d1
      have cx := HS10.out.2.1.cell
      go_wp2_with fail
      refine (markDisk_any _ p5 L 1 1 _ rfl HS10.out.2.2 (by omega) (by omega)).mono ?_
      rintro e w14 ⟨rfl, _, hg13⟩
      rw [HN.out.1] at hg13
      have HS14 : Hid (LaS ((w.alloc (.cells #[.slice a n cap] 51)).alloc (.cells #[.int .i64 c.k, .string c.n, .string c.t, .string c.o] 56)) w14 q4 (.slice a4 M.length c4) p4 q7 (.slice a7 M.length c7) p7 M M) := by
        obtain ⟨n2, n3, n4, n5, n7⟩ := HNE.out.1
        exact HS10.out.1.grown hg13 n2 n3 n4 n5 n7
      clear HS10 hg13 cx
      obtain ⟨K1, hK1⟩ : ∃ K1 : Nat, 1 + 3 * L.length = K1 := ⟨_, rfl⟩
      rw [hK1]
      have qk : ¬ (K1 : Int) < 0 := by omega
      have ca := HS14.out.2.2.1.cell
      have cb := HS14.out.2.1.1.cell
      go_wp2_with fail
      refine (eqDisk_yes _ _ p7 0 p4 0 M _ HS14.out.2.2.2.1 HS14.out.2.1.2.1).mono ?_
      rintro e w15 ⟨rfl, hb15⟩
      have HS15 : Hid (LaS ((w.alloc (.cells #[.slice a n cap] 51)).alloc (.cells #[.int .i64 c.k, .string c.n, .string c.t, .string c.o] 56)) w15 q4 (.slice a4 M.length c4) p4 q7 (.slice a7 M.length c7) p7 M M) := HS14.out.later hb15
      clear HS14 hb15 ca cb
      have ca := HS15.out.2.2.1.cell
      go_wp2_with fail
      refine (markDisk_any _ p7 M 1 1 _ rfl HS15.out.2.2.2 (by omega) (by omega)).mono ?_
      rintro e w16 ⟨rfl, hr16, hg16⟩
      rw [HN.out.2] at hg16
      have HS16 : Hid (LaS ((w.alloc (.cells #[.slice a n cap] 51)).alloc (.cells #[.int .i64 c.k, .string c.n, .string c.t, .string c.o] 56)) w16 q4 (.slice a4 M.length c4) p4 q7 (.slice a7 M.length c7) p7 M (fmarks 1 M.length)) := by
        obtain ⟨n2, n3, n4, n7⟩ := HNE.out.2
        exact HS15.out.mark hg16 n2 n3 n4 n7 hr16
      obtain ⟨K3, hK3⟩ : ∃ K3 : Nat, 1 + 3 * M.length = K3 := ⟨_, rfl⟩
      rw [hK3]
      have qk3 : ¬ (K3 : Int) < 0 := by omega
      clear HS15 hg16 hr16 ca
      have ca := HS16.out.2.2.1.cell
      go_wp2_with fail
      refine (heldDisk_any _ p7 1 1 M.length _ rfl HS16.out.2.2.2.1 (by omega) (by omega)).mono ?_
      rintro e w17 ⟨rfl, hb17⟩
      rw [hK3]
      have HS17 : Hid (LaS ((w.alloc (.cells #[.slice a n cap] 51)).alloc (.cells #[.int .i64 c.k, .string c.n, .string c.t, .string c.o] 56)) w17 q4 (.slice a4 M.length c4) p4 q7 (.slice a7 M.length c7) p7 M (fmarks 1 M.length)) := HS16.out.later hb17
      clear HS16 hb17 ca
      obtain ⟨z0, z1, z2, z3, z4⟩ := HG.out _ HS17.out.1
      have HGV : Hid (∀ W, Up w17 W → W.cell? ⟨w.heap.size, 0, none⟩ = some (.slice a n cap) ∧ W.cell? ⟨w.heap.size + 1, 0, none⟩ = some (.int .i64 c.k) ∧ W.cell? ⟨w.heap.size + 1, 1, none⟩ = some (.string c.n) ∧ W.cell? ⟨w.heap.size + 1, 2, none⟩ = some (.string c.t) ∧ W.cell? ⟨w.heap.size + 1, 3, none⟩ = some (.string c.o)) := fun W hW => HG.out W ((HS17.out.1).trans (Below.mono hW (HS17.out.1).size))
      have HTV : Hid (∀ W, Up w17 W → Calls Try.prog 30 #[.agg #[.slice a n cap]] W fun e w' => ∃ a2 c2 p2, e = .returned (.agg #[.slice a2 L.length c2]) ∧ RS 3 fcs w' (.slice a2 L.length c2) p2 0 L ∧ Up W w') := fun W hW => (HTO.out W ((HS17.out.1).trans (Below.mono hW (HS17.out.1).size))).mono fun e w' ⟨u, he, hu, hb⟩ => by
        obtain ⟨a2, c2, p2, rfl, hr2, _, _⟩ := hu.open'
        exact ⟨a2, c2, p2, he, hr2.1, hb⟩
      have HAV : Hid (∀ W, Calls Try.prog 35 #[.agg #[.int .i64 c.k, .string c.n, .string c.t, .string c.o]] W fun e w' => e = .returned (.agg #[.int .i64 c.k, .string c.n, .string c.t, .string c.o]) ∧ Up W w') := fun W => HTA.out W
      have HSV : Hid (∀ W s ga, RS 3 fcs W s ga 0 L → Calls Try.prog 24 #[.agg #[s], .agg #[.int .i64 c.k, .string c.n, .string c.t, .string c.o]] W fun e w' => ∃ a4 c4 p4, e = .returned (.tuple #[.agg #[.slice a4 M.length c4], .bool R]) ∧ RW 3 fcs w' (.slice a4 M.length c4) p4 M ∧ W.heap.size ≤ p4 ∧ Up W w') := fun W s ga h1 => (HIM.out W s ga h1).mono fun e w' ⟨u, he, hu, hb⟩ => by
        obtain ⟨a2, c2, p2, rfl, hr2, hp2, _⟩ := hu.open'
        exact ⟨a2, c2, p2, he, hr2, hp2, hb⟩
      have U0 : Up w17 w17.drew := (Up.refl w17).drew
      have U0a : Up w17 (w17.alloc (.cells #[.slice none 0 0] 26)).drew := ((Up.refl w17).alloc _).drew
      have B0a : Bx w17 (w17.alloc (.cells #[.slice none 0 0] 26)).drew w17.heap.size := Bx.new (Up.refl w17)
      go_wp2
      apply cut_rg (V := w17) (M := M)
      case r =>
        intro key
        go_region_held3 (fun W => W.cell? ⟨w.heap.size, 0, none⟩ = some (.slice a n cap) ∧ W.cell? ⟨w.heap.size + 1, 0, none⟩ = some (.int .i64 c.k) ∧ W.cell? ⟨w.heap.size + 1, 1, none⟩ = some (.string c.n) ∧ W.cell? ⟨w.heap.size + 1, 2, none⟩ = some (.string c.t) ∧ W.cell? ⟨w.heap.size + 1, 3, none⟩ = some (.string c.o)) (first | (with_reducible exact HGV.out _ U4) | (with_reducible exact HGV.out _ (U4.alloc _)) | (with_reducible exact HGV.out _ U3) | (with_reducible exact HGV.out _ (U3.alloc _)) | (with_reducible exact HGV.out _ U2) | (with_reducible exact HGV.out _ (U2.alloc _)) | (with_reducible exact HGV.out _ U0) | (with_reducible exact HGV.out _ U0a) | (with_reducible exact HGV.out _ (U4.set hq.le _))) ((first | (go_at_call 30; (first | (with_reducible refine (HTV.out _ U0).mono ?_) | (with_reducible refine (HTV.out _ U0a).mono ?_)); rintro e v2 ⟨a2, c2, p2, rfl, hr2, hb2⟩; have U2 : Up w17 v2 := (by first | with_reducible exact U0.step hb2 | with_reducible exact U0a.step hb2); (first | (have hq : Bx w17 v2 w17.heap.size := (by with_reducible exact B0a.up hb2)) | skip)) | (go_at_call 35; (with_reducible refine (HAV.out _).mono ?_); rintro e v3 ⟨rfl, hb3⟩; have V3 : Up v2 v3 := (by first | with_reducible exact hb3 | with_reducible exact ((Up.refl v2).alloc _).step hb3); have U3 : Up w17 v3 := U2.step V3; have hr3 := hr2.up V3; (first | (have hq := hq.up V3) | (have hq : Bx w17 v3 v2.heap.size := (by with_reducible exact (Bx.new U2).up hb3)) | skip)) | (go_at_call 24; (first | (with_reducible refine (HSV.out _ _ p2 hr3).mono ?_) | (with_reducible refine (HSV.out _ _ p2 (hr3.alloc _)).mono ?_)); rintro e v4 ⟨a4, c4, p4, rfl, hr4, hp4, hb4⟩; have V4 : Up v3 v4 := (by first | with_reducible exact hb4 | with_reducible exact ((Up.refl v3).alloc _).step hb4); have U4 : Up w17 v4 := U3.step V4; have hp4' : v3.heap.size ≤ p4 := (by first | (have h9 := hp4; omega) | (have h9 := hp4; simp at h9; omega)); (first | (have hqp := Nat.lt_of_lt_of_le hq.lt hp4'; have hq := hq.up V4) | (have hq : Bx w17 v4 v3.heap.size := (by with_reducible exact (Bx.new U3).up hb4); have hqp : v3.heap.size < p4 := (by have h9 := hp4; simp at h9; omega)) | skip); (first | (have o0 := hq.cell; have o1 := hq.fr) | skip))))
        · have HF := Rg.last U4 hr4 (Nat.le_trans U3.size hp4')
          clear hb2 U2 hr2 hr3 V3 hb3 U3 hr4 hp4 hb4 V4 U4 hp4'
          generalize v4.alloc (.cells #[(.slice a4 M.length c4)] 26) = W4 at HF ⊢
          generalize v4.heap.size = q4 at HF ⊢
          exact key.out a2 c2 a4 c4 p4 W4 q4 HF
        all_goals
          have HF := Rg.early hq U4 hr4 hqp
          exact key.out a2 c2 a4 c4 p4 _ _ HF
      case k =>
        intro a18 c18 a20 c20 p20 W20 q20 HF20
        clear HGV HTV HAV HSV U0 U0a B0a z0 z1 z2 z3 z4
        have HS20 : Hid (LaS ((w.alloc (.cells #[.slice a n cap] 51)).alloc (.cells #[.int .i64 c.k, .string c.n, .string c.t, .string c.o] 56)) W20 q4 (.slice a4 M.length c4) p4 q7 (.slice a7 M.length c7) p7 M (fmarks 1 M.length) ∧ XD W20 q20 (.slice a20 M.length c20) p20 M) := ⟨HS17.out.later HF20.1, HF20.2.1⟩
        clear HS17 HF20
        have ca := HS20.out.2.1.cell
        have cb := HS20.out.1.2.1.1.cell
        go_wp2_with fail
        refine (eqDisk_yes _ _ p20 0 p4 0 M _ HS20.out.2.2.1 HS20.out.1.2.1.2.1).mono ?_
        rintro e w21 ⟨rfl, hb21⟩
        have HS21 : Hid (LaS ((w.alloc (.cells #[.slice a n cap] 51)).alloc (.cells #[.int .i64 c.k, .string c.n, .string c.t, .string c.o] 56)) w21 q4 (.slice a4 M.length c4) p4 q7 (.slice a7 M.length c7) p7 M (fmarks 1 M.length)) := HS20.out.1.later hb21
        clear HS20 hb21 ca cb
        have ca := HS21.out.2.2.1.cell
        go_wp2_with fail
        refine (heldDisk_any _ p7 1 1 M.length _ rfl HS21.out.2.2.2.1 (by omega) (by omega)).mono ?_
        rintro e w22 ⟨rfl, hb22⟩
        rw [hK3]
        have hbf := HS21.out.1.trans (hb22.mono HS21.out.1.size)
        have hbz := HB.out.trans (hbf.mono HB.out.size)
        clear HS21 hb22 ca hbf
        go_wp2
        go_ret
        exact ⟨rfl, hbz⟩

end Go.Proofs.Ytbmlphlknolieaa
