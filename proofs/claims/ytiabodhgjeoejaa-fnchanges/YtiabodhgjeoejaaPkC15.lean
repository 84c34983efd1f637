/-
  Texts laid together: Ce, Lr, Cf.
-/
import Derived.Test.YtiabodhgjeoejaaPkC3
import Derived.Test.YtiabodhgjeoejaaPkC14
import Derived.Test.YtiabodhgjeoejaaPkC4
import Derived.Test.YtiabodhgjeoejaaPkC11
import Derived.Test.YtiabodhgjeoejaaPkC5
/-
  A change's text: the program's and the specification's answers.
-/
namespace Go.Proofs.Ytiabodhgjeoejaa
open Go.RowKit Go.BigFrame Go.Sort
set_option linter.unusedVariables false
set_option linter.unusedSimpArgs false

theorem okB_size {p : UInt8 → Bool} {s : ByteArray} (h : okB p s = true) : 1 ≤ s.size ∧ s.size ≤ 12 := by
  unfold okB at h
  rw [Bool.and_eq_true] at h
  exact of_decide_eq_true h.1
theorem empty_size {s : ByteArray} (h : s.toList.isEmpty = true) : s.size = 0 := by
  rw [ByteArray.toList_eq, List.isEmpty_iff] at h
  have h1 : s.data.toList.length = s.size := Array.length_toList
  rw [h] at h1
  exact h1.symm
namespace UV
def vb (n : Nat) : ByteArray := ⟨(M.varL n).toArray⟩
/-- its text, when it is right -/
def txtU (x : Ug) : ByteArray := vb x.i.toNat ++ (vb x.n.size ++ x.n) ++ (vb x.v.size ++ x.v)
/-- .. and else nothing -/
def textU (x : Ug) : ByteArray := if okU x = true then txtU x else ⟨#[]⟩
theorem vOk_size {v : ByteArray} (h : vOk v = true) : v.size ≤ 12 := by
  unfold vOk at h
  rw [Bool.or_eq_true] at h
  rcases h with h | h
  · rw [empty_size h]; omega
  · exact (okB_size h).2
theorem okU_parts {x : Ug} (h : okU x = true) : (1 ≤ x.i ∧ x.i ≤ 99) ∧ okB nameB x.n = true ∧ vOk x.v = true := by
  unfold okU at h
  rw [Bool.and_eq_true, Bool.and_eq_true] at h
  exact ⟨of_decide_eq_true h.1, h.2⟩
end UV

set_option maxRecDepth 100000 in
set_option maxHeartbeats 1000000 in
theorem ChangeText_any (x : Ug) (w : World) (hn : x.n.size ≤ 1048576) (hv : x.v.size ≤ 1048576) : Calls Try.prog 14 #[.agg #[.int .i64 x.i, .string x.n, .string x.v]] w fun e w' => e = .returned (.tuple #[.string (UV.textU x), .bool (UV.okU x)]) ∧ Below w.heap.size w w' := by
  have HC : Hid (∀ W, Calls Try.prog 22 #[.agg #[.int .i64 x.i, .string x.n, .string x.v]] W fun e w' => e = .returned (.bool (UV.okU x)) ∧ Below W.heap.size W w') := fun W => ChangeOk_any x W hn hv
  have HW : Hid (BU (w.alloc (.cells #[.int .i64 x.i, .string x.n, .string x.v] 31)) w.heap.size x ∧ Below w.heap.size w (w.alloc (.cells #[.int .i64 x.i, .string x.n, .string x.v] 31))) := ⟨BU.new w x, (Below.refl _ _).alloc (Nat.le_refl _) _⟩
  unfold UV.textU
  cases hok : UV.okU x
  · rw [hok] at HC
    rw [if_neg (by simp)]
    clear hok hn hv
    obtain ⟨i, n, v⟩ := x
    simp only at HC HW ⊢
    go_enter Try.func14, Try.ntmps14
    go_wp2_with fail
    refine (HC.out _).mono ?_
    rintro e w1 ⟨rfl, hb1⟩
    have b1 := HW.out.2.trans (hb1.mono HW.out.2.size)
    clear HC HW hb1
    go_wp2
    go_ret2
    exact ⟨rfl, b1⟩
  · rw [hok] at HC
    rw [if_pos rfl]
    obtain ⟨⟨h1, h2⟩, h3, h4⟩ := UV.okU_parts hok
    have hns := (okB_size h3).2
    have hvs := UV.vOk_size h4
    obtain ⟨k, hk⟩ : ∃ k : Nat, x.i = (k : Int) := ⟨x.i.toNat, by omega⟩
    have HV1 : Hid (∀ W, Calls Try.prog 46 #[.int .i64 (k : Int)] W fun e w' => e = .returned (.tuple #[.string (UV.vb k), .bool true]) ∧ Below W.heap.size W w') := fun W => VarText_yes k W (by omega)
    have HN1 : Hid (∀ W, Calls Try.prog 47 #[.string x.n] W fun e w' => e = .returned (.tuple #[.string (UV.vb x.n.size ++ x.n), .bool true]) ∧ Below W.heap.size W w') := fun W => Short_yes x.n W (by omega)
    have HS1 : Hid (∀ W, Calls Try.prog 47 #[.string x.v] W fun e w' => e = .returned (.tuple #[.string (UV.vb x.v.size ++ x.v), .bool true]) ∧ Below W.heap.size W w') := fun W => Short_yes x.v W (by omega)
    have s1 : (UV.vb k).size ≤ 10 := varA_size k
    have s2 : (UV.vb x.n.size ++ x.n).size ≤ 22 := by have := varA_size x.n.size; rw [ByteArray.size_append]; unfold UV.vb; omega
    have s3 : (UV.vb x.v.size ++ x.v).size ≤ 22 := by have := varA_size x.v.size; rw [ByteArray.size_append]; unfold UV.vb; omega
    have hT : UV.txtU x = UV.vb k ++ (UV.vb x.n.size ++ x.n) ++ (UV.vb x.v.size ++ x.v) := by unfold UV.txtU; rw [hk]; rfl
    rw [hT]
    clear hT hok h1 h2 h3 h4 hns hvs hn hv
    generalize UV.vb k = A at *
    generalize UV.vb x.n.size ++ x.n = B at *
    generalize UV.vb x.v.size ++ x.v = C at *
    obtain ⟨i, n, v⟩ := x
    simp only at HC HW HN1 HS1 hk ⊢
    subst hk
    go_enter Try.func14, Try.ntmps14
    go_wp2_with fail
    refine (HC.out _).mono ?_
    rintro e w1 ⟨rfl, hb1⟩
    have HW1 : Hid (BU w1 w.heap.size ⟨k, n, v⟩ ∧ Below w.heap.size w w1) := ⟨HW.out.1.later hb1, HW.out.2.trans (hb1.mono HW.out.2.size)⟩
    clear HC HW hb1
    have z0 := HW1.out.1.c0
    simp only at z0
    go_wp2_with fail
    refine (HV1.out _).mono ?_
    rintro e w2 ⟨rfl, hb2⟩
    have HW2 : Hid (BU w2 w.heap.size ⟨k, n, v⟩ ∧ Below w.heap.size w w2) := ⟨HW1.out.1.later hb2, HW1.out.2.trans (hb2.mono HW1.out.2.size)⟩
    clear HV1 HW1 hb2 z0
    have z1 := HW2.out.1.c1
    simp only at z1
    go_wp2_with fail
    refine (HN1.out _).mono ?_
    rintro e w3 ⟨rfl, hb3⟩
    have HW3 : Hid (BU w3 w.heap.size ⟨k, n, v⟩ ∧ Below w.heap.size w w3) := ⟨HW2.out.1.later hb3, HW2.out.2.trans (hb3.mono HW2.out.2.size)⟩
    clear HN1 HW2 hb3 z1
    have z2 := HW3.out.1.c2
    simp only at z2
    go_wp2_with fail
    refine (HS1.out _).mono ?_
    rintro e w4 ⟨rfl, hb4⟩
    have b4 := HW3.out.2.trans (hb4.mono HW3.out.2.size)
    clear HS1 HW3 hb4 z2
    go_wp2
    go_ret2
    exact ⟨rfl, b4⟩

set_option maxRecDepth 100000 in
set_option maxHeartbeats 1000000 in
theorem sChangeText_any (x : Ug) (w : World) (hn : x.n.size ≤ 1048576) (hv : x.v.size ≤ 1048576) : Calls Try.prog 27 #[.agg #[.int .i64 x.i, .string x.n, .string x.v]] w fun e w' => e = .returned (.tuple #[.string (UV.textU x), .bool (UV.okU x)]) ∧ Below w.heap.size w w' := by
  have HC : Hid (∀ W, Calls Try.prog 23 #[.agg #[.int .i64 x.i, .string x.n, .string x.v]] W fun e w' => e = .returned (.bool (UV.okU x)) ∧ Below W.heap.size W w') := fun W => sChangeOk_any x W hn hv
  have HW : Hid (BU (w.alloc (.cells #[.int .i64 x.i, .string x.n, .string x.v] 31)) w.heap.size x ∧ Below w.heap.size w (w.alloc (.cells #[.int .i64 x.i, .string x.n, .string x.v] 31))) := ⟨BU.new w x, (Below.refl _ _).alloc (Nat.le_refl _) _⟩
  unfold UV.textU
  cases hok : UV.okU x
  · rw [hok] at HC
    rw [if_neg (by simp)]
    clear hok hn hv
    obtain ⟨i, n, v⟩ := x
    simp only at HC HW ⊢
    go_enter Try.func27, Try.ntmps27
    go_wp2_with fail
    refine (HC.out _).mono ?_
    rintro e w1 ⟨rfl, hb1⟩
    have b1 := HW.out.2.trans (hb1.mono HW.out.2.size)
    clear HC HW hb1
    go_wp2
    go_ret2
    exact ⟨rfl, b1⟩
  · rw [hok] at HC
    rw [if_pos rfl]
    obtain ⟨⟨h1, h2⟩, h3, h4⟩ := UV.okU_parts hok
    have hns := (okB_size h3).2
    have hvs := UV.vOk_size h4
    obtain ⟨k, hk⟩ : ∃ k : Nat, x.i = (k : Int) := ⟨x.i.toNat, by omega⟩
    have HV1 : Hid (∀ W, Calls Try.prog 64 #[.int .i64 (k : Int)] W fun e w' => e = .returned (.string (UV.vb k)) ∧ Below W.heap.size W w') := fun W => l01Var_any k W (by omega)
    have HN1 : Hid (∀ W, Calls Try.prog 64 #[.int .i64 (x.n.size : Int)] W fun e w' => e = .returned (.string (UV.vb x.n.size)) ∧ Below W.heap.size W w') := fun W => l01Var_any x.n.size W (by omega)
    have HS1 : Hid (∀ W, Calls Try.prog 64 #[.int .i64 (x.v.size : Int)] W fun e w' => e = .returned (.string (UV.vb x.v.size)) ∧ Below W.heap.size W w') := fun W => l01Var_any x.v.size W (by omega)
    have s1 : (UV.vb k).size ≤ 10 := varA_size k
    have s2 : (UV.vb x.n.size).size ≤ 10 := varA_size _
    have s3 : (UV.vb x.v.size).size ≤ 10 := varA_size _
    have hT : UV.txtU x = UV.vb k ++ UV.vb x.n.size ++ x.n ++ UV.vb x.v.size ++ x.v := by unfold UV.txtU; rw [hk]; simp only [Int.toNat_natCast, ByteArray.append_assoc]
    rw [hT]
    clear hT hok h1 h2 h3 h4 hn hv
    generalize UV.vb k = A at *
    generalize UV.vb x.n.size = B at *
    generalize UV.vb x.v.size = C at *
    obtain ⟨i, n, v⟩ := x
    simp only at HC HW HN1 HS1 hk hns hvs ⊢
    subst hk
    go_enter Try.func27, Try.ntmps27
    go_wp2_with fail
    refine (HC.out _).mono ?_
    rintro e w1 ⟨rfl, hb1⟩
    have HW1 : Hid (BU w1 w.heap.size ⟨k, n, v⟩ ∧ Below w.heap.size w w1) := ⟨HW.out.1.later hb1, HW.out.2.trans (hb1.mono HW.out.2.size)⟩
    clear HC HW hb1
    have z0 := HW1.out.1.c0
    have z1 := HW1.out.1.c1
    have z2 := HW1.out.1.c2
    simp only at z0 z1 z2
    go_wp2_with fail
    have kq0 := cell_regrown (w := w1) z0
    have kq1 := cell_regrown (w := w1) z1
    have kq2 := cell_regrown (w := w1) z2
    have cq0 := fun d os => Calls.regrown_of (w := w1) (d := d) (os := os) (HV1.out _)
    have cq1 := fun d os => Calls.regrown_of (w := w1) (d := d) (os := os) (HN1.out _)
    have cq2 := fun d os => Calls.regrown_of (w := w1) (d := d) (os := os) (HS1.out _)
    refine wp_region_quiet_below (by kernel_rfl) (by kernel_rfl) ?_
    repeat (go_big_quiet_step (first | (with_reducible exact cq0 _ _) | (with_reducible exact cq1 _ _) | (with_reducible exact cq2 _ _)))
    refine wpQuiet_nil ?_
    rintro _ ⟨⟨dq, osq⟩, rfl⟩
    have hb6 := HW1.out.2.trans ((below_regrown w1 dq osq).mono HW1.out.2.size)
    generalize grow (redrawn w1 dq) osq = w6 at *
    clear kq0 kq1 kq2 cq0 cq1 cq2 HW1
    go_wp2
    go_ret2
    exact ⟨rfl, hb6⟩

end Go.Proofs.Ytiabodhgjeoejaa
/-
  Leaves read of a text: the program's answers.
-/
namespace Go.Proofs.Ytiabodhgjeoejaa
open Go.RowKit Go.BigFrame Go.Sort
set_option linter.unusedVariables false
set_option linter.unusedSimpArgs false

namespace LV
theorem leafAt_size {s : ByteArray} {p q : Nat} {f : Le} (h : leafAt s p = some (f, q)) : f.n.size ≤ s.size ∧ f.v.size ≤ s.size := by
  unfold leafAt at h
  cases h1 : shortAt s p with
  | none => rw [h1] at h; simp at h
  | some x =>
    obtain ⟨n, b⟩ := x
    rw [h1] at h
    simp only at h
    cases h2 : shortAt s b with
    | none => rw [h2] at h; simp at h
    | some y =>
      obtain ⟨v, r⟩ := y
      rw [h2] at h
      simp only [Option.some.injEq, Prod.mk.injEq] at h
      rw [← h.1]
      exact ⟨shortAt_size h1, shortAt_size h2⟩
theorem leavesF_size {s : ByteArray} : ∀ {k p q : Nat} {l : List Le}, leavesF s k p = some (l, q) → ∀ f ∈ l, f.n.size ≤ s.size ∧ f.v.size ≤ s.size
  | 0, p, q, l, h, f, hf => by
    simp only [leavesF, Option.some.injEq, Prod.mk.injEq] at h
    rw [← h.1] at hf
    cases hf
  | k + 1, p, q, l, h, f, hf => by
    rw [leavesF] at h
    cases h1 : leafAt s p with
    | none => rw [h1] at h; simp at h
    | some x =>
      obtain ⟨g, b⟩ := x
      rw [h1] at h
      simp only at h
      cases h2 : leavesF s k b with
      | none => rw [h2] at h; simp at h
      | some y =>
        obtain ⟨m, r⟩ := y
        rw [h2] at h
        simp only [Option.some.injEq, Prod.mk.injEq] at h
        rw [← h.1] at hf
        rcases List.mem_cons.1 hf with rfl | hf
        · exact leafAt_size h1
        · exact leavesF_size h2 f hf
/-- what stands at a place as leaves, whether right or not -/
def rawL (s : ByteArray) (p : Nat) : Option (List Le × Nat) :=
  match M.readVar s.data.toList p with
  | none => none
  | some (n, q) => if 24 < n then none else leavesF s n q
theorem rawL_none {s : ByteArray} {p : Nat} (h : M.readVar s.data.toList p = none) : rawL s p = none := by unfold rawL; rw [h]
theorem rawL_great {s : ByteArray} {p n q : Nat} (h : M.readVar s.data.toList p = some (n, q)) (hn : 24 < n) : rawL s p = none := by
  unfold rawL
  rw [h]
  exact if_pos hn
theorem rawL_at {s : ByteArray} {p n q : Nat} (h : M.readVar s.data.toList p = some (n, q)) (hn : ¬ 24 < n) : rawL s p = leavesF s n q := by
  unfold rawL
  rw [h]
  exact if_neg hn
/-- the right leaves that a text tells -/
noncomputable def rdB (s : ByteArray) : Bool :=
  match rawL s 0 with
  | none => false
  | some (l, e) => decide (e = s.size) && leavesB l
noncomputable def rdL (s : ByteArray) : List Le :=
  match rawL s 0 with
  | none => []
  | some (l, e) => if decide (e = s.size) && leavesB l then l else []
end LV

/-- what readLeaf answers -/
def RlP (s : ByteArray) (p : Nat) (e : Ending) : Prop := match LV.leafAt s p with
  | none => ∃ a b, e = .returned (.tuple #[.agg #[.string a, .string b], .int .i64 0, .bool false])
  | some (f, q) => e = .returned (.tuple #[.agg #[.string f.n, .string f.v], .int .i64 (q : Int), .bool true])

section
variable {fn : Func} {Rp : Ending → World → Prop} {a : Act} {w : World}
/-- a record answered out of its block, and two things beside it -/
theorem ret_rec3 (c s t g T : Nat) (cs : List Value) (b d : Value) (td : TypeDesc) (hres : fn.results = #[.cell c T, .tmp s, .tmp t]) (hd : a.defers = []) (hp : a.tmps.getD c undef = .pointer (some ⟨g, 0, none⟩)) (hb : a.tmps.getD s undef = b) (hdd : a.tmps.getD t undef = d)
    (hu : Try.prog.underlying T = some td) (hrow : td.isRow = true) (hi : (Try.prog.info? T).map (·.size) = some cs.length) (hA : w.rangeAt g 0 cs) (h : Rp (.returned (.tuple #[.agg cs.toArray, b, d])) w) : bodyPost Try.prog fn Rp .ret a w := by
  have hr := run_loadVar_mid (P := Try.prog) w g 0 T cs td hA hu hrow hi
  refine bodyPost_ret (v := .tuple #[.agg cs.toArray, b, d]) ?_ hd h
  have hp' : a.tmps[c]?.getD undef = .pointer (some ⟨g, 0, none⟩) := by simpa using hp
  have hb' : a.tmps[s]?.getD undef = b := by simpa using hb
  have hd' : a.tmps[t]?.getD undef = d := by simpa using hdd
  simp [results, hres, asAddr, hr, hp', hb', hd']
end

/-- the box of a leaf -/
def BL (W : World) (p : Nat) (a b : ByteArray) : Prop := W.heap[p]? = some (.cells #[.string a, .string b] 73 (0, 0))
theorem BL.new (w : World) (a b : ByteArray) : BL (w.alloc (.cells #[.string a, .string b] 73)) w.heap.size a b := Go.heap_alloc_new w _
theorem BL.later {W W' : World} {p : Nat} {a b : ByteArray} (h : BL W p a b) (hb : Below W.heap.size W W') : BL W' p a b := (hb.block p (Array.getElem?_eq_some_iff.1 h).1).trans h
theorem BL.c0 {W : World} {p : Nat} {a b : ByteArray} (h : BL W p a b) : W.cell? ⟨p, 0, none⟩ = some (.string a) := by rw [cell_of_row W p 0 _ _ _ h]; rfl
theorem BL.c1 {W : World} {p : Nat} {a b : ByteArray} (h : BL W p a b) : W.cell? ⟨p, 1, none⟩ = some (.string b) := by rw [cell_of_row W p 1 _ _ _ h]; rfl
theorem BL.f0 {W : World} {p : Nat} {a b : ByteArray} (h : BL W p a b) : W.frozen? ⟨p, 0, none⟩ = false := by simp [World.frozen?, show W.heap[p]? = _ from h]
theorem BL.f1 {W : World} {p : Nat} {a b : ByteArray} (h : BL W p a b) : W.frozen? ⟨p, 1, none⟩ = false := by simp [World.frozen?, show W.heap[p]? = _ from h]
theorem BL.range {W : World} {p : Nat} {a b : ByteArray} (h : BL W p a b) : W.rangeAt p 0 [.string a, .string b] := range2 h.c0 h.c1
theorem BL.there {W : World} {p : Nat} {a b : ByteArray} (h : BL W p a b) : W.there p 0 2 := fun j hj => by
  match j, hj with
  | 0, _ => exact ⟨by rw [h.c0]; rfl, h.f0⟩
  | 1, _ => exact ⟨by rw [h.c1]; rfl, h.f1⟩
/-- .. and what is written into it whole -/
theorem BL.put {W : World} {p : Nat} {a b : ByteArray} (h : BL W p a b) (x y : ByteArray) : (W.setCells p 0 [.string x, .string y]).rangeAt p 0 [.string x, .string y] := World.rangeAt_setCells_same _ _ _ _ h.there
theorem BL.set0 {W : World} {p : Nat} {a b : ByteArray} (h : BL W p a b) (x : ByteArray) : BL (W.setCell ⟨p, 0, none⟩ (.string x)) p x b := heap_setCell_same W p 0 _ _ _ h
theorem BL.set1 {W : World} {p : Nat} {a b : ByteArray} (h : BL W p a b) (x : ByteArray) : BL (W.setCell ⟨p, 1, none⟩ (.string x)) p a x := heap_setCell_same W p 1 _ _ _ h

set_option maxRecDepth 100000 in
set_option maxHeartbeats 1000000 in
theorem readLeaf_at (s : ByteArray) (x : Int) (p : Nat) (w : World) (hx : x = (p : Int)) (hs : s.size ≤ 1048576) (hp : p ≤ s.size) :
    Calls Try.prog 49 #[.string s, .int .i64 x] w fun e w' => RlP s p e ∧ Below w.heap.size w w' := by
  have h1 := fun W => ReadShort_at s x p W hx hs hp
  have HB0 : Hid (Below w.heap.size w (w.alloc (.cells #[.string ⟨#[]⟩, .string ⟨#[]⟩] 73)) ∧ BL (w.alloc (.cells #[.string ⟨#[]⟩, .string ⟨#[]⟩] 73)) w.heap.size ⟨#[]⟩ ⟨#[]⟩) := ⟨(Below.refl _ _).alloc (Nat.le_refl _) _, BL.new _ _ _⟩
  cases hq : LV.shortAt s p with
  | none =>
    have hl : LV.leafAt s p = none := by unfold LV.leafAt; rw [hq]
    have HL : Hid (RlP s p (.returned (.tuple #[.agg #[.string ⟨#[]⟩, .string ⟨#[]⟩], .int .i64 0, .bool false]))) := by unfold RlP; rw [hl]; exact ⟨_, _, rfl⟩
    simp only [hq] at h1
    clear hl hx
    go_enter Try.func49, Try.ntmps49
    go_wp2_with fail
    refine (h1 _).mono ?_
    rintro e w1 ⟨rfl, hb1⟩
    have hbl := HB0.out.2.later hb1
    have b1 := HB0.out.1.trans (hb1.mono HB0.out.1.size)
    have c0 := hbl.c0
    have c1 := hbl.c1
    have f0 := hbl.f0
    have f1 := hbl.f1
    have HF : Hid ((w1.setCells w.heap.size 0 [.string ⟨#[]⟩, .string ⟨#[]⟩]).rangeAt w.heap.size 0 [.string ⟨#[]⟩, .string ⟨#[]⟩] ∧ Below w.heap.size w (w1.setCells w.heap.size 0 [.string ⟨#[]⟩, .string ⟨#[]⟩])) := ⟨hbl.put _ _, below_setCells (Nat.le_refl _) _ _ _ b1⟩
    clear hb1 h1 hbl
    go_wp2
    exact ret_rec3 4 5 6 w.heap.size 73 [.string ⟨#[]⟩, .string ⟨#[]⟩] _ _ _ rfl rfl rfl rfl rfl Try.underlying73 rfl sizeLeaf HF.out.1 ⟨HL.out, HF.out.2⟩
  | some y =>
    obtain ⟨a, q⟩ := y
    obtain ⟨hpq, hqs, _⟩ := LV.shortAt_some hp hq
    have h2 := fun W => ReadShort_at s q q W rfl hs hqs
    simp only [hq] at h1
    cases hr : LV.shortAt s q with
    | none =>
      have hl : LV.leafAt s p = none := by unfold LV.leafAt; rw [hq]; simp only; rw [hr]
      have HL : Hid (RlP s p (.returned (.tuple #[.agg #[.string a, .string ⟨#[]⟩], .int .i64 0, .bool false]))) := by unfold RlP; rw [hl]; exact ⟨_, _, rfl⟩
      simp only [hr] at h2
      clear hl hx
      go_enter Try.func49, Try.ntmps49
      go_wp2_with fail
      refine (h1 _).mono ?_
      rintro e w1 ⟨rfl, hb1⟩
      have HB1 : Hid (Below w.heap.size w w1 ∧ BL w1 w.heap.size ⟨#[]⟩ ⟨#[]⟩) := ⟨HB0.out.1.trans (hb1.mono HB0.out.1.size), HB0.out.2.later hb1⟩
      clear hb1 h1 HB0
      go_wp2_with fail
      refine (h2 _).mono ?_
      rintro e w2 ⟨rfl, hb2⟩
      have hbl := HB1.out.2.later hb2
      have b1 := HB1.out.1.trans (hb2.mono HB1.out.1.size)
      have c0 := hbl.c0
      have c1 := hbl.c1
      have f0 := hbl.f0
      have f1 := hbl.f1
      have HF : Hid ((w2.setCells w.heap.size 0 [.string a, .string ⟨#[]⟩]).rangeAt w.heap.size 0 [.string a, .string ⟨#[]⟩] ∧ Below w.heap.size w (w2.setCells w.heap.size 0 [.string a, .string ⟨#[]⟩])) := ⟨hbl.put _ _, below_setCells (Nat.le_refl _) _ _ _ b1⟩
      clear hb2 h2 HB1 hbl
      go_wp2
      exact ret_rec3 4 5 6 w.heap.size 73 [.string a, .string ⟨#[]⟩] _ _ _ rfl rfl rfl rfl rfl Try.underlying73 rfl sizeLeaf HF.out.1 ⟨HL.out, HF.out.2⟩
    | some z =>
      obtain ⟨b, r⟩ := z
      have hl : LV.leafAt s p = some (⟨a, b⟩, r) := by unfold LV.leafAt; rw [hq]; simp only; rw [hr]
      have HL : Hid (RlP s p (.returned (.tuple #[.agg #[.string a, .string b], .int .i64 (r : Int), .bool true]))) := by unfold RlP; rw [hl]; rfl
      simp only [hr] at h2
      clear hl hx
      go_enter Try.func49, Try.ntmps49
      go_wp2_with fail
      refine (h1 _).mono ?_
      rintro e w1 ⟨rfl, hb1⟩
      have HB1 : Hid (Below w.heap.size w w1 ∧ BL w1 w.heap.size ⟨#[]⟩ ⟨#[]⟩) := ⟨HB0.out.1.trans (hb1.mono HB0.out.1.size), HB0.out.2.later hb1⟩
      clear hb1 h1 HB0
      go_wp2_with fail
      refine (h2 _).mono ?_
      rintro e w2 ⟨rfl, hb2⟩
      have hbl := HB1.out.2.later hb2
      have b1 := HB1.out.1.trans (hb2.mono HB1.out.1.size)
      have c0 := hbl.c0
      have c1 := hbl.c1
      have f0 := hbl.f0
      have f1 := hbl.f1
      have HF : Hid ((w2.setCells w.heap.size 0 [.string a, .string b]).rangeAt w.heap.size 0 [.string a, .string b] ∧ Below w.heap.size w (w2.setCells w.heap.size 0 [.string a, .string b])) := ⟨hbl.put _ _, below_setCells (Nat.le_refl _) _ _ _ b1⟩
      clear hb2 h2 HB1 hbl
      go_wp2
      exact ret_rec3 4 5 6 w.heap.size 73 [.string a, .string b] _ _ _ rfl rfl rfl rfl rfl Try.underlying73 rfl sizeLeaf HF.out.1 ⟨HL.out, HF.out.2⟩

/-- what readLeaves answers -/
def RvP (s : ByteArray) (p : Nat) (w : World) (e : Ending) (w' : World) : Prop := match LV.rawL s p with
  | none => e = .returned (.tuple #[.slice none 0 0, .int .i64 0, .bool false])
  | some (l, q) => ∃ g, e = .returned (.tuple #[.slice (some ⟨g, 0, none⟩) l.length l.length, .int .i64 (q : Int), .bool (LV.leavesB l)]) ∧ w.heap.size ≤ g ∧ RW 2 lcs w' (.slice (some ⟨g, 0, none⟩) l.length l.length) g l

/-- the first m leaves of the row that is made are read, and the place is behind them -/
def RvR (s : ByteArray) (n p : Nat) (w : World) (x i : Value) (wr : World) : Prop := ∃ (m q : Nat) (l : List Le), m ≤ n ∧ i = .int .i64 m ∧ x = .int .i64 (q : Int) ∧ q ≤ s.size ∧
  Hid (LV.leavesF s m p = some (l, q) ∧ (∀ j (h : j < l.length), wr.rangeAt w.heap.size (j * 2) (lcs l[j])) ∧ (∀ j, j < n → wr.there w.heap.size (j * 2) 2) ∧ Below w.heap.size w wr ∧ w.heap.size < wr.heap.size)

theorem leavesF_more {s : ByteArray} {m p q r : Nat} {l : List Le} {f : Le} (h : LV.leavesF s m p = some (l, q)) (hf : LV.leafAt s q = some (f, r)) : LV.leavesF s (m + 1) p = some (l ++ [f], r) := by
  rw [LV.leavesF_snoc, h]
  simp only
  rw [hf]
theorem leavesF_ends {s : ByteArray} {m p q : Nat} {l : List Le} (h : LV.leavesF s m p = some (l, q)) (hf : LV.leafAt s q = none) : LV.leavesF s (m + 1) p = none := by
  rw [LV.leavesF_snoc, h]
  simp only
  rw [hf]

end Go.Proofs.Ytiabodhgjeoejaa
/-
  A change read from its text: plain facts, the program's answer.
-/
namespace Go.Proofs.Ytiabodhgjeoejaa
open Go.RowKit Go.BigFrame Go.Sort
set_option linter.unusedVariables false
set_option linter.unusedSimpArgs false

namespace UV
def zU : Ug := ⟨0, ⟨#[]⟩, ⟨#[]⟩⟩
/-- what stands in a text as a change, whether right or not, and where it ends -/
def rawU (t : ByteArray) : Option (Ug × Nat) := match M.readVar t.data.toList 0 with
  | none => none
  | some (n, q) => match LV.leafAt t q with
    | none => none
    | some (f, r) => some (⟨(n : Int), f.n, f.v⟩, r)
def rdOk (t : ByteArray) : Bool := match rawU t with
  | none => false
  | some (x, r) => decide (r = t.size) && okU x
/-- what is read of a text: a change, or the zero one -/
def rdA (t : ByteArray) : Ug := match rawU t with
  | none => zU
  | some (x, r) => if (decide (r = t.size) && okU x) = true then x else zU
theorem raw_none1 {t : ByteArray} (h : M.readVar t.data.toList 0 = none) : rawU t = none := by unfold rawU; rw [h]
theorem raw_none2 {t : ByteArray} {n q : Nat} (h : M.readVar t.data.toList 0 = some (n, q)) (h2 : LV.leafAt t q = none) : rawU t = none := by unfold rawU; rw [h]; simp only; rw [h2]
theorem raw_some {t : ByteArray} {n q r : Nat} {f : Le} (h : M.readVar t.data.toList 0 = some (n, q)) (h2 : LV.leafAt t q = some (f, r)) : rawU t = some (⟨(n : Int), f.n, f.v⟩, r) := by unfold rawU; rw [h]; simp only; rw [h2]
theorem rd_none {t : ByteArray} (h : rawU t = none) : rdOk t = false ∧ rdA t = zU := by unfold rdOk rdA; rw [h]; exact ⟨rfl, rfl⟩
theorem rd_some {t : ByteArray} {x : Ug} {r : Nat} (h : rawU t = some (x, r)) : rdOk t = (decide (r = t.size) && okU x) ∧ rdA t = if (decide (r = t.size) && okU x) = true then x else zU := by unfold rdOk rdA; rw [h]; exact ⟨rfl, rfl⟩
theorem leafAt_parts {s : ByteArray} {p q : Nat} {f : Le} (h : LV.leafAt s p = some (f, q)) : ∃ b, LV.shortAt s p = some (f.n, b) ∧ LV.shortAt s b = some (f.v, q) := by
  unfold LV.leafAt at h
  cases h1 : LV.shortAt s p with
  | none => rw [h1] at h; simp at h
  | some x =>
    obtain ⟨n, b⟩ := x
    rw [h1] at h
    simp only at h
    cases h2 : LV.shortAt s b with
    | none => rw [h2] at h; simp at h
    | some y =>
      obtain ⟨v, r⟩ := y
      rw [h2] at h
      simp only [Option.some.injEq, Prod.mk.injEq] at h
      obtain ⟨rfl, rfl⟩ := h
      exact ⟨b, rfl, h2⟩
theorem raw_text {t : ByteArray} {n q r : Nat} {f : Le} (h : M.readVar t.data.toList 0 = some (n, q)) (h2 : LV.leafAt t q = some (f, r)) : r ≤ t.size ∧ LV.cutL t.data.toList 0 r = (txtU ⟨(n : Int), f.n, f.v⟩).data.toList := by
  obtain ⟨b, h3, h4⟩ := leafAt_parts h2
  have hc := LV.read_canon (Nat.zero_le _) h
  have hq := (read_bound t 0 n q h).1
  obtain ⟨l1, l2, e1⟩ := LV.shortAt_some hq h3
  obtain ⟨l3, l4, e2⟩ := LV.shortAt_some l2 h4
  refine ⟨l4, ?_⟩
  rw [← LV.cutL_join _ 0 q r (Nat.zero_le _) (by omega), ← LV.cutL_join _ q b r (by omega) (by omega), hc, e1, e2]
  simp [txtU, vb, ByteArray.data_append]
theorem cutL_whole (t : ByteArray) : LV.cutL t.data.toList 0 t.size = t.data.toList := by
  rw [← LV.extract_cut]
  simp
theorem raw_whole {t : ByteArray} {n q r : Nat} {f : Le} (h : M.readVar t.data.toList 0 = some (n, q)) (h2 : LV.leafAt t q = some (f, r)) : txtU ⟨(n : Int), f.n, f.v⟩ = t ↔ r = t.size := by
  obtain ⟨hr, hc⟩ := raw_text h h2
  constructor
  · intro e
    have hl := LV.cutL_len t.data.toList 0 r (Nat.zero_le _) (by rw [LV.toList_len]; exact hr)
    rw [hc, e, LV.toList_len] at hl
    omega
  · intro e
    rw [e, cutL_whole] at hc
    exact LV.bytes_eq hc.symm
end UV

set_option maxRecDepth 100000 in
set_option maxHeartbeats 1000000 in
theorem ReadChange_any (t : ByteArray) (w : World) (ht : t.size ≤ 1048576) : Calls Try.prog 15 #[.string t] w fun e w' => e = .returned (.tuple #[.agg #[.int .i64 (UV.rdA t).i, .string (UV.rdA t).n, .string (UV.rdA t).v], .bool (UV.rdOk t)]) ∧ Below w.heap.size w w' := by
  have HZ : Hid (BU (w.alloc (.cells #[.int .i64 0, .string ⟨#[]⟩, .string ⟨#[]⟩] 31)) w.heap.size UV.zU ∧ Below w.heap.size w (w.alloc (.cells #[.int .i64 0, .string ⟨#[]⟩, .string ⟨#[]⟩] 31))) := ⟨BU.new w UV.zU, (Below.refl _ _).alloc (Nat.le_refl _) _⟩
  cases hr : M.readVar t.data.toList 0 with
  | none =>
    obtain ⟨e1, e2⟩ := UV.rd_none (UV.raw_none1 hr)
    rw [e1, e2]
    have HR : Hid (∀ W, Calls Try.prog 48 #[.string t, .int .i64 0] W fun e w' => e = .returned (.tuple #[.int .i64 0, .int .i64 0, .bool false]) ∧ Below W.heap.size W w') := fun W => (ReadVar_none t 0 W ht (.inr ⟨by omega, by simpa using hr⟩)).mono fun e w' ⟨he, hw⟩ => ⟨he, hw ▸ Below.refl _ _⟩
    clear e1 e2 hr
    go_enter Try.func15, Try.ntmps15
    go_wp2_with fail
    refine (HR.out _).mono ?_
    rintro e w1 ⟨rfl, hb1⟩
    have HZ1 : Hid (BU w1 w.heap.size UV.zU ∧ Below w.heap.size w w1) := ⟨HZ.out.1.later hb1, HZ.out.2.trans (hb1.mono HZ.out.2.size)⟩
    clear HR HZ hb1
    have z0 := HZ1.out.1.c0
    have z1 := HZ1.out.1.c1
    have z2 := HZ1.out.1.c2
    have f0 := HZ1.out.1.fz 0
    have f1 := HZ1.out.1.fz 1
    have f2 := HZ1.out.1.fz 2
    have HE : Hid (BU (w1.setCells w.heap.size 0 (ucs UV.zU)) w.heap.size UV.zU ∧ Below w.heap.size w (w1.setCells w.heap.size 0 (ucs UV.zU))) := ⟨HZ1.out.1.put _, below_setCells (Nat.le_refl _) _ _ _ HZ1.out.2⟩
    clear HZ1
    go_wp2
    exact ret_ug2 2 3 w.heap.size UV.zU _ rfl rfl rfl rfl HE.out.1 ⟨rfl, HE.out.2⟩
  | some y =>
    obtain ⟨n, q⟩ := y
    have hq := (read_bound t 0 n q hr).1
    have hN := (read_bound t 0 n q hr).2
    have HR : Hid (∀ W, Calls Try.prog 48 #[.string t, .int .i64 0] W fun e w' => e = .returned (.tuple #[.int .i64 (n : Int), .int .i64 (q : Int), .bool true]) ∧ Below W.heap.size W w') := fun W => (ReadVar_some t 0 n q W ht (by omega) (by simpa using hr)).mono fun e w' ⟨he, hw⟩ => ⟨he, hw ▸ Below.refl _ _⟩
    have HL : Hid (∀ W, Calls Try.prog 49 #[.string t, .int .i64 (q : Int)] W fun e w' => RlP t q e ∧ Below W.heap.size W w') := fun W => readLeaf_at t q q W rfl ht hq
    unfold RlP at HL
    cases hl : LV.leafAt t q with
    | none =>
      simp only [hl] at HL
      obtain ⟨e1, e2⟩ := UV.rd_none (UV.raw_none2 hr hl)
      rw [e1, e2]
      clear e1 e2 hr hl
      go_enter Try.func15, Try.ntmps15
      go_wp2_with fail
      refine (HR.out _).mono ?_
      rintro e w1 ⟨rfl, hb1⟩
      have HZ1 : Hid (BU w1 w.heap.size UV.zU ∧ Below w.heap.size w w1) := ⟨HZ.out.1.later hb1, HZ.out.2.trans (hb1.mono HZ.out.2.size)⟩
      clear HR HZ hb1
      go_wp2_with fail
      refine (HL.out _).mono ?_
      rintro e w2 ⟨⟨a, b, rfl⟩, hb2⟩
      have HZ2 : Hid (BU w2 w.heap.size UV.zU ∧ Below w.heap.size w w2) := ⟨HZ1.out.1.later hb2, HZ1.out.2.trans (hb2.mono HZ1.out.2.size)⟩
      clear HL HZ1 hb2
      have hb3 : Below w2.heap.size w2 ((w2.alloc (.cells #[.string a, .string b] 73)).alloc (.cells #[.int .i64 (n : Int), .string a, .string b] 31)) := ((Below.refl _ _).alloc (Nat.le_refl _) _).alloc (by simp) _
      have HZ3 : Hid (BU ((w2.alloc (.cells #[.string a, .string b] 73)).alloc (.cells #[.int .i64 (n : Int), .string a, .string b] 31)) w.heap.size UV.zU ∧ Below w.heap.size w ((w2.alloc (.cells #[.string a, .string b] 73)).alloc (.cells #[.int .i64 (n : Int), .string a, .string b] 31))) := ⟨HZ2.out.1.later hb3, HZ2.out.2.trans (hb3.mono HZ2.out.2.size)⟩
      clear HZ2 hb3
      have z0 := HZ3.out.1.c0
      have z1 := HZ3.out.1.c1
      have z2 := HZ3.out.1.c2
      have f0 := HZ3.out.1.fz 0
      have f1 := HZ3.out.1.fz 1
      have f2 := HZ3.out.1.fz 2
      have HE : Hid (BU (((w2.alloc (.cells #[.string a, .string b] 73)).alloc (.cells #[.int .i64 (n : Int), .string a, .string b] 31)).setCells w.heap.size 0 (ucs UV.zU)) w.heap.size UV.zU ∧ Below w.heap.size w (((w2.alloc (.cells #[.string a, .string b] 73)).alloc (.cells #[.int .i64 (n : Int), .string a, .string b] 31)).setCells w.heap.size 0 (ucs UV.zU))) := ⟨HZ3.out.1.put _, below_setCells (Nat.le_refl _) _ _ _ HZ3.out.2⟩
      clear HZ3
      go_wp2
      exact ret_ug2 2 3 w.heap.size UV.zU _ rfl rfl rfl rfl HE.out.1 ⟨rfl, HE.out.2⟩
    | some z =>
      obtain ⟨f, r⟩ := z
      simp only [hl] at HL
      obtain ⟨e1, e2⟩ := UV.rd_some (UV.raw_some hr hl)
      rw [e1, e2]
      have hsz := LV.leafAt_size hl
      have HC : Hid (∀ W, Calls Try.prog 22 #[.agg #[.int .i64 (n : Int), .string f.n, .string f.v]] W fun e w' => e = .returned (.bool (UV.okU ⟨(n : Int), f.n, f.v⟩)) ∧ Below W.heap.size W w') := fun W => ChangeOk_any ⟨(n : Int), f.n, f.v⟩ W (show f.n.size ≤ 1048576 by omega) (show f.v.size ≤ 1048576 by omega)
      generalize UV.okU ⟨(n : Int), f.n, f.v⟩ = B at *
      obtain ⟨a, b⟩ := f
      simp only at HL HC ⊢
      clear e1 e2 hr hl hsz
      obtain ⟨R, hR⟩ : ∃ R, (decide (r = t.size) && B) = R := ⟨_, rfl⟩
      rw [hR]
      obtain ⟨X, hX⟩ : ∃ X, (if R = true then (⟨(n : Int), a, b⟩ : Ug) else UV.zU) = X := ⟨_, rfl⟩
      rw [hX]
      have HX : Hid ((if R = true then (⟨(n : Int), a, b⟩ : Ug) else UV.zU) = X) := hX
      clear hX
      have qr : ((r : Int) != (t.size : Int)) = !decide (r = t.size) := by
        by_cases h : r = t.size
        · subst h; simp
        · rw [decide_eq_false h]; simp; omega
      have HF : Hid (∀ W3, Below w.heap.size w W3 → BU W3 w.heap.size UV.zU → BU (W3.setCells w.heap.size 0 (ucs UV.zU)) w.heap.size UV.zU ∧ Below w.heap.size w (W3.setCells w.heap.size 0 (ucs UV.zU))) := fun W3 h1 h2 => ⟨h2.put _, below_setCells (Nat.le_refl _) _ _ _ h1⟩
      have HY : Hid (∀ W3, Below w.heap.size w W3 → BU W3 w.heap.size UV.zU → BU (W3.setCells w.heap.size 0 (ucs ⟨(n : Int), a, b⟩)) w.heap.size ⟨(n : Int), a, b⟩ ∧ Below w.heap.size w (W3.setCells w.heap.size 0 (ucs ⟨(n : Int), a, b⟩))) := fun W3 h1 h2 => ⟨h2.put _, below_setCells (Nat.le_refl _) _ _ _ h1⟩
      go_enter Try.func15, Try.ntmps15
      go_wp2_with fail
      refine (HR.out _).mono ?_
      rintro e w1 ⟨rfl, hb1⟩
      have HZ1 : Hid (BU w1 w.heap.size UV.zU ∧ Below w.heap.size w w1) := ⟨HZ.out.1.later hb1, HZ.out.2.trans (hb1.mono HZ.out.2.size)⟩
      clear HR HZ hb1
      go_wp2_with fail
      refine (HL.out _).mono ?_
      rintro e w2 ⟨rfl, hb2⟩
      have HZ2 : Hid (BU w2 w.heap.size UV.zU ∧ Below w.heap.size w w2) := ⟨HZ1.out.1.later hb2, HZ1.out.2.trans (hb2.mono HZ1.out.2.size)⟩
      clear HL HZ1 hb2
      have hb3 : Below w2.heap.size w2 ((w2.alloc (.cells #[.string a, .string b] 73)).alloc (.cells #[.int .i64 (n : Int), .string a, .string b] 31)) := ((Below.refl _ _).alloc (Nat.le_refl _) _).alloc (by simp) _
      have HU : Hid (BU ((w2.alloc (.cells #[.string a, .string b] 73)).alloc (.cells #[.int .i64 (n : Int), .string a, .string b] 31)) (w2.heap.size + 1) ⟨(n : Int), a, b⟩) := alloc_fst _ _ (by simp)
      have HZ3 : Hid (BU ((w2.alloc (.cells #[.string a, .string b] 73)).alloc (.cells #[.int .i64 (n : Int), .string a, .string b] 31)) w.heap.size UV.zU ∧ Below w.heap.size w ((w2.alloc (.cells #[.string a, .string b] 73)).alloc (.cells #[.int .i64 (n : Int), .string a, .string b] 31))) := ⟨HZ2.out.1.later hb3, HZ2.out.2.trans (hb3.mono HZ2.out.2.size)⟩
      clear HZ2 hb3
      cases hd : decide (r = t.size)
      · rw [hd] at qr hR
        have hRR : R = false := by rw [← hR]; rfl
        subst hRR
        have HX0 : Hid (UV.zU = X) := by rw [← HX.out]; rfl
        clear HX
        have z0 := HZ3.out.1.c0
        have z1 := HZ3.out.1.c1
        have z2 := HZ3.out.1.c2
        have f0 := HZ3.out.1.fz 0
        have f1 := HZ3.out.1.fz 1
        have f2 := HZ3.out.1.fz 2
        have HE := hide (HF.out _ HZ3.out.2 HZ3.out.1)
        clear HZ3 HF HY HC HU hd hR
        simp only [Bool.not_false] at qr
        go_wp2
        exact ret_ug2 2 3 w.heap.size UV.zU _ rfl rfl rfl rfl HE.out.1 ⟨by rw [← HX0.out]; rfl, HE.out.2⟩
      · rw [hd] at qr hR
        have hRR : R = B := by rw [← hR]; rfl
        subst hRR
        simp only [Bool.not_true] at qr
        clear hR hd
        go_wp2_with fail
        refine (HC.out _).mono ?_
        rintro e w4 ⟨rfl, hb4⟩
        have HZ4 : Hid (BU w4 w.heap.size UV.zU ∧ Below w.heap.size w w4 ∧ BU w4 (w2.heap.size + 1) ⟨(n : Int), a, b⟩) := ⟨HZ3.out.1.later hb4, HZ3.out.2.trans (hb4.mono HZ3.out.2.size), HU.out.later hb4⟩
        clear HZ3 HC HU hb4
        have z0 := HZ4.out.1.c0
        have z1 := HZ4.out.1.c1
        have z2 := HZ4.out.1.c2
        have f0 := HZ4.out.1.fz 0
        have f1 := HZ4.out.1.fz 1
        have f2 := HZ4.out.1.fz 2
        have y0 := HZ4.out.2.2.c0
        have y1 := HZ4.out.2.2.c1
        have y2 := HZ4.out.2.2.c2
        simp only at y0 y1 y2
        cases R
        · have HX0 : Hid (UV.zU = X) := by rw [← HX.out]; rfl
          have HE := hide (HF.out _ HZ4.out.2.1 HZ4.out.1)
          clear HZ4 HF HY HX
          go_wp2
          exact ret_ug2 2 3 w.heap.size UV.zU _ rfl rfl rfl rfl HE.out.1 ⟨by rw [← HX0.out]; rfl, HE.out.2⟩
        · have HX0 : Hid ((⟨(n : Int), a, b⟩ : Ug) = X) := by rw [← HX.out]; rfl
          have HE := hide (HY.out _ HZ4.out.2.1 HZ4.out.1)
          clear HZ4 HF HY HX
          go_wp2
          exact ret_ug2 2 3 w.heap.size ⟨(n : Int), a, b⟩ _ rfl rfl rfl rfl HE.out.1 ⟨by rw [← HX0.out]; rfl, HE.out.2⟩

end Go.Proofs.Ytiabodhgjeoejaa
