/-
  Texts laid together: Pa, Lr, Cpl.
-/
import Derived.Test.YtklpanjedolkdaaGreatDoorPkELS30
import Derived.Test.YtklpanjedolkdaaGreatDoorPkELS25
import Derived.Test.YtklpanjedolkdaaGreatDoorPkELS11
import Derived.Test.YtklpanjedolkdaaGreatDoorPkELS4
import Derived.Test.YtklpanjedolkdaaGreatDoorPkELS3
import Derived.Deep.RegionHeld3
/-
  Proofs: how wide their sides are, and when these are right: the program's answers.
-/
namespace Go.Proofs.YtklpanjedolkdaaGreatDoor
open Go.RowKit Go.BigFrame Go.Sort
set_option linter.unusedVariables false
set_option linter.unusedSimpArgs false

def allW (S : List ByteArray) (x : Int) : Bool := S.all (fun s => decide ((s.size : Int) = x))
theorem allW_bad {S : List ByteArray} {x : Int} {m : Nat} (hm : m < S.length) (h : ¬ ((S[m].size : Int) = x)) : allW S x = false := by
  unfold allW
  rw [List.all_eq_false]
  exact ⟨S[m], List.getElem_mem _, by simpa using h⟩
theorem allW_good {S : List ByteArray} {x : Int} (h : ∀ j (hj : j < S.length), (S[j].size : Int) = x) : allW S x = true := by
  unfold allW
  rw [List.all_eq_true]
  intro s hs
  obtain ⟨j, hj, rfl⟩ := List.getElem_of_mem hs
  simpa using h j hj
theorem wideB_all (S : List ByteArray) (x : Int) : wideB S x = (allW S x && decide (1 ≤ x ∧ x ≤ 32)) := rfl

/-- are they right sides? -/
def sidB (S : List ByteArray) (x : Int) : Bool := decide (S.length ≤ 8) && wideB S x
end Go.Proofs.YtklpanjedolkdaaGreatDoor
/-
  Leaves read of a text: the program's answers.
-/
namespace Go.Proofs.YtklpanjedolkdaaGreatDoor
open Go.RowKit Go.BigFrame Go.Sort
set_option linter.unusedVariables false
set_option linter.unusedSimpArgs false

namespace LV
theorem leafAt_size {s : ByteArray} {p q : Nat} {f : Le} (h : leafAt s p = some (f, q)) : f.n.size ≤ s.size ∧ f.v.size ≤ s.size := by
  unfold leafAt at h
  cases h1 : shortAt s p with
  | none => rw [h1] at h; simp at h
  | some x =>
    obtain ⟨n, b⟩ := x
    rw [h1] at h
    simp only at h
    cases h2 : shortAt s b with
    | none => rw [h2] at h; simp at h
    | some y =>
      obtain ⟨v, r⟩ := y
      rw [h2] at h
      simp only [Option.some.injEq, Prod.mk.injEq] at h
      rw [← h.1]
      exact ⟨shortAt_size h1, shortAt_size h2⟩
theorem leavesF_size {s : ByteArray} : ∀ {k p q : Nat} {l : List Le}, leavesF s k p = some (l, q) → ∀ f ∈ l, f.n.size ≤ s.size ∧ f.v.size ≤ s.size
  | 0, p, q, l, h, f, hf => by
    simp only [leavesF, Option.some.injEq, Prod.mk.injEq] at h
    rw [← h.1] at hf
    cases hf
  | k + 1, p, q, l, h, f, hf => by
    rw [leavesF] at h
    cases h1 : leafAt s p with
    | none => rw [h1] at h; simp at h
    | some x =>
      obtain ⟨g, b⟩ := x
      rw [h1] at h
      simp only at h
      cases h2 : leavesF s k b with
      | none => rw [h2] at h; simp at h
      | some y =>
        obtain ⟨m, r⟩ := y
        rw [h2] at h
        simp only [Option.some.injEq, Prod.mk.injEq] at h
        rw [← h.1] at hf
        rcases List.mem_cons.1 hf with rfl | hf
        · exact leafAt_size h1
        · exact leavesF_size h2 f hf
/-- what stands at a place as leaves, whether right or not -/
def rawL (s : ByteArray) (p : Nat) : Option (List Le × Nat) :=
  match M.readVar s.data.toList p with
  | none => none
  | some (n, q) => if 24 < n then none else leavesF s n q
theorem rawL_none {s : ByteArray} {p : Nat} (h : M.readVar s.data.toList p = none) : rawL s p = none := by unfold rawL; rw [h]
theorem rawL_great {s : ByteArray} {p n q : Nat} (h : M.readVar s.data.toList p = some (n, q)) (hn : 24 < n) : rawL s p = none := by
  unfold rawL
  rw [h]
  exact if_pos hn
theorem rawL_at {s : ByteArray} {p n q : Nat} (h : M.readVar s.data.toList p = some (n, q)) (hn : ¬ 24 < n) : rawL s p = leavesF s n q := by
  unfold rawL
  rw [h]
  exact if_neg hn
/-- the right leaves that a text tells -/
noncomputable def rdB (s : ByteArray) : Bool :=
  match rawL s 0 with
  | none => false
  | some (l, e) => decide (e = s.size) && leavesB l
noncomputable def rdL (s : ByteArray) : List Le :=
  match rawL s 0 with
  | none => []
  | some (l, e) => if decide (e = s.size) && leavesB l then l else []
end LV

/-- what readLeaf answers -/
def RlP (s : ByteArray) (p : Nat) (e : Ending) : Prop := match LV.leafAt s p with
  | none => ∃ a b, e = .returned (.tuple #[.agg #[.string a, .string b], .int .i64 0, .bool false])
  | some (f, q) => e = .returned (.tuple #[.agg #[.string f.n, .string f.v], .int .i64 (q : Int), .bool true])

section
variable {fn : Func} {Rp : Ending → World → Prop} {a : Act} {w : World}
/-- a record answered out of its block, and two things beside it -/
theorem ret_rec3 (c s t g T : Nat) (cs : List Value) (b d : Value) (td : TypeDesc) (hres : fn.results = #[.cell c T, .tmp s, .tmp t]) (hd : a.defers = []) (hp : a.tmps.getD c undef = .pointer (some ⟨g, 0, none⟩)) (hb : a.tmps.getD s undef = b) (hdd : a.tmps.getD t undef = d)
    (hu : Tryz.prog.underlying T = some td) (hrow : td.isRow = true) (hi : (Tryz.prog.info? T).map (·.size) = some cs.length) (hA : w.rangeAt g 0 cs) (h : Rp (.returned (.tuple #[.agg cs.toArray, b, d])) w) : bodyPost Tryz.prog fn Rp .ret a w := by
  have hr := run_loadVar_mid (P := Tryz.prog) w g 0 T cs td hA hu hrow hi
  refine bodyPost_ret (v := .tuple #[.agg cs.toArray, b, d]) ?_ hd h
  have hp' : a.tmps[c]?.getD undef = .pointer (some ⟨g, 0, none⟩) := by simpa using hp
  have hb' : a.tmps[s]?.getD undef = b := by simpa using hb
  have hd' : a.tmps[t]?.getD undef = d := by simpa using hdd
  simp [results, hres, asAddr, hr, hp', hb', hd']
end

/-- the box of a leaf -/
def BL (W : World) (p : Nat) (a b : ByteArray) : Prop := W.heap[p]? = some (.cells #[.string a, .string b] 109 (0, 0))
theorem BL.new (w : World) (a b : ByteArray) : BL (w.alloc (.cells #[.string a, .string b] 109)) w.heap.size a b := Go.heap_alloc_new w _
theorem BL.later {W W' : World} {p : Nat} {a b : ByteArray} (h : BL W p a b) (hb : Below W.heap.size W W') : BL W' p a b := (hb.block p (Array.getElem?_eq_some_iff.1 h).1).trans h
theorem BL.c0 {W : World} {p : Nat} {a b : ByteArray} (h : BL W p a b) : W.cell? ⟨p, 0, none⟩ = some (.string a) := by rw [cell_of_row W p 0 _ _ _ h]; rfl
theorem BL.c1 {W : World} {p : Nat} {a b : ByteArray} (h : BL W p a b) : W.cell? ⟨p, 1, none⟩ = some (.string b) := by rw [cell_of_row W p 1 _ _ _ h]; rfl
theorem BL.f0 {W : World} {p : Nat} {a b : ByteArray} (h : BL W p a b) : W.frozen? ⟨p, 0, none⟩ = false := by simp [World.frozen?, show W.heap[p]? = _ from h]
theorem BL.f1 {W : World} {p : Nat} {a b : ByteArray} (h : BL W p a b) : W.frozen? ⟨p, 1, none⟩ = false := by simp [World.frozen?, show W.heap[p]? = _ from h]
theorem BL.range {W : World} {p : Nat} {a b : ByteArray} (h : BL W p a b) : W.rangeAt p 0 [.string a, .string b] := range2 h.c0 h.c1
theorem BL.there {W : World} {p : Nat} {a b : ByteArray} (h : BL W p a b) : W.there p 0 2 := fun j hj => by
  match j, hj with
  | 0, _ => exact ⟨by rw [h.c0]; rfl, h.f0⟩
  | 1, _ => exact ⟨by rw [h.c1]; rfl, h.f1⟩
/-- .. and what is written into it whole -/
theorem BL.put {W : World} {p : Nat} {a b : ByteArray} (h : BL W p a b) (x y : ByteArray) : (W.setCells p 0 [.string x, .string y]).rangeAt p 0 [.string x, .string y] := World.rangeAt_setCells_same _ _ _ _ h.there
theorem BL.set0 {W : World} {p : Nat} {a b : ByteArray} (h : BL W p a b) (x : ByteArray) : BL (W.setCell ⟨p, 0, none⟩ (.string x)) p x b := heap_setCell_same W p 0 _ _ _ h
theorem BL.set1 {W : World} {p : Nat} {a b : ByteArray} (h : BL W p a b) (x : ByteArray) : BL (W.setCell ⟨p, 1, none⟩ (.string x)) p a x := heap_setCell_same W p 1 _ _ _ h

set_option maxRecDepth 100000 in
set_option maxHeartbeats 1000000 in
theorem readLeaf_at (s : ByteArray) (x : Int) (p : Nat) (w : World) (hx : x = (p : Int)) (hs : s.size ≤ 1048576) (hp : p ≤ s.size) :
    Calls Tryz.prog 171 #[.string s, .int .i64 x] w fun e w' => RlP s p e ∧ Below w.heap.size w w' := by
  have h1 := fun W => ReadShort_at s x p W hx hs hp
  have HB0 : Hid (Below w.heap.size w (w.alloc (.cells #[.string ⟨#[]⟩, .string ⟨#[]⟩] 109)) ∧ BL (w.alloc (.cells #[.string ⟨#[]⟩, .string ⟨#[]⟩] 109)) w.heap.size ⟨#[]⟩ ⟨#[]⟩) := ⟨(Below.refl _ _).alloc (Nat.le_refl _) _, BL.new _ _ _⟩
  cases hq : LV.shortAt s p with
  | none =>
    have hl : LV.leafAt s p = none := by unfold LV.leafAt; rw [hq]
    have HL : Hid (RlP s p (.returned (.tuple #[.agg #[.string ⟨#[]⟩, .string ⟨#[]⟩], .int .i64 0, .bool false]))) := by unfold RlP; rw [hl]; exact ⟨_, _, rfl⟩
    simp only [hq] at h1
    clear hl hx
    go_enter Tryz.func171, Tryz.ntmps171
    go_wp2_with fail
    refine (h1 _).mono ?_
    rintro e w1 ⟨rfl, hb1⟩
    have hbl := HB0.out.2.later hb1
    have b1 := HB0.out.1.trans (hb1.mono HB0.out.1.size)
    have c0 := hbl.c0
    have c1 := hbl.c1
    have f0 := hbl.f0
    have f1 := hbl.f1
    have HF : Hid ((w1.setCells w.heap.size 0 [.string ⟨#[]⟩, .string ⟨#[]⟩]).rangeAt w.heap.size 0 [.string ⟨#[]⟩, .string ⟨#[]⟩] ∧ Below w.heap.size w (w1.setCells w.heap.size 0 [.string ⟨#[]⟩, .string ⟨#[]⟩])) := ⟨hbl.put _ _, below_setCells (Nat.le_refl _) _ _ _ b1⟩
    clear hb1 h1 hbl
    go_wp2
    exact ret_rec3 4 5 6 w.heap.size 109 [.string ⟨#[]⟩, .string ⟨#[]⟩] _ _ _ rfl rfl rfl rfl rfl Tryz.underlying109 rfl sizeLeaf HF.out.1 ⟨HL.out, HF.out.2⟩
  | some y =>
    obtain ⟨a, q⟩ := y
    obtain ⟨hpq, hqs, _⟩ := LV.shortAt_some hp hq
    have h2 := fun W => ReadShort_at s q q W rfl hs hqs
    simp only [hq] at h1
    cases hr : LV.shortAt s q with
    | none =>
      have hl : LV.leafAt s p = none := by unfold LV.leafAt; rw [hq]; simp only; rw [hr]
      have HL : Hid (RlP s p (.returned (.tuple #[.agg #[.string a, .string ⟨#[]⟩], .int .i64 0, .bool false]))) := by unfold RlP; rw [hl]; exact ⟨_, _, rfl⟩
      simp only [hr] at h2
      clear hl hx
      go_enter Tryz.func171, Tryz.ntmps171
      go_wp2_with fail
      refine (h1 _).mono ?_
      rintro e w1 ⟨rfl, hb1⟩
      have HB1 : Hid (Below w.heap.size w w1 ∧ BL w1 w.heap.size ⟨#[]⟩ ⟨#[]⟩) := ⟨HB0.out.1.trans (hb1.mono HB0.out.1.size), HB0.out.2.later hb1⟩
      clear hb1 h1 HB0
      go_wp2_with fail
      refine (h2 _).mono ?_
      rintro e w2 ⟨rfl, hb2⟩
      have hbl := HB1.out.2.later hb2
      have b1 := HB1.out.1.trans (hb2.mono HB1.out.1.size)
      have c0 := hbl.c0
      have c1 := hbl.c1
      have f0 := hbl.f0
      have f1 := hbl.f1
      have HF : Hid ((w2.setCells w.heap.size 0 [.string a, .string ⟨#[]⟩]).rangeAt w.heap.size 0 [.string a, .string ⟨#[]⟩] ∧ Below w.heap.size w (w2.setCells w.heap.size 0 [.string a, .string ⟨#[]⟩])) := ⟨hbl.put _ _, below_setCells (Nat.le_refl _) _ _ _ b1⟩
      clear hb2 h2 HB1 hbl
      go_wp2
      exact ret_rec3 4 5 6 w.heap.size 109 [.string a, .string ⟨#[]⟩] _ _ _ rfl rfl rfl rfl rfl Tryz.underlying109 rfl sizeLeaf HF.out.1 ⟨HL.out, HF.out.2⟩
    | some z =>
      obtain ⟨b, r⟩ := z
      have hl : LV.leafAt s p = some (⟨a, b⟩, r) := by unfold LV.leafAt; rw [hq]; simp only; rw [hr]
      have HL : Hid (RlP s p (.returned (.tuple #[.agg #[.string a, .string b], .int .i64 (r : Int), .bool true]))) := by unfold RlP; rw [hl]; rfl
      simp only [hr] at h2
      clear hl hx
      go_enter Tryz.func171, Tryz.ntmps171
      go_wp2_with fail
      refine (h1 _).mono ?_
      rintro e w1 ⟨rfl, hb1⟩
      have HB1 : Hid (Below w.heap.size w w1 ∧ BL w1 w.heap.size ⟨#[]⟩ ⟨#[]⟩) := ⟨HB0.out.1.trans (hb1.mono HB0.out.1.size), HB0.out.2.later hb1⟩
      clear hb1 h1 HB0
      go_wp2_with fail
      refine (h2 _).mono ?_
      rintro e w2 ⟨rfl, hb2⟩
      have hbl := HB1.out.2.later hb2
      have b1 := HB1.out.1.trans (hb2.mono HB1.out.1.size)
      have c0 := hbl.c0
      have c1 := hbl.c1
      have f0 := hbl.f0
      have f1 := hbl.f1
      have HF : Hid ((w2.setCells w.heap.size 0 [.string a, .string b]).rangeAt w.heap.size 0 [.string a, .string b] ∧ Below w.heap.size w (w2.setCells w.heap.size 0 [.string a, .string b])) := ⟨hbl.put _ _, below_setCells (Nat.le_refl _) _ _ _ b1⟩
      clear hb2 h2 HB1 hbl
      go_wp2
      exact ret_rec3 4 5 6 w.heap.size 109 [.string a, .string b] _ _ _ rfl rfl rfl rfl rfl Tryz.underlying109 rfl sizeLeaf HF.out.1 ⟨HL.out, HF.out.2⟩

/-- what readLeaves answers -/
def RvP (s : ByteArray) (p : Nat) (w : World) (e : Ending) (w' : World) : Prop := match LV.rawL s p with
  | none => e = .returned (.tuple #[.slice none 0 0, .int .i64 0, .bool false])
  | some (l, q) => ∃ g, e = .returned (.tuple #[.slice (some ⟨g, 0, none⟩) l.length l.length, .int .i64 (q : Int), .bool (LV.leavesB l)]) ∧ w.heap.size ≤ g ∧ RW 2 lcs w' (.slice (some ⟨g, 0, none⟩) l.length l.length) g l

/-- the first m leaves of the row that is made are read, and the place is behind them -/
def RvR (s : ByteArray) (n p : Nat) (w : World) (x i : Value) (wr : World) : Prop := ∃ (m q : Nat) (l : List Le), m ≤ n ∧ i = .int .i64 m ∧ x = .int .i64 (q : Int) ∧ q ≤ s.size ∧
  Hid (LV.leavesF s m p = some (l, q) ∧ (∀ j (h : j < l.length), wr.rangeAt w.heap.size (j * 2) (lcs l[j])) ∧ (∀ j, j < n → wr.there w.heap.size (j * 2) 2) ∧ Below w.heap.size w wr ∧ w.heap.size < wr.heap.size)

theorem leavesF_more {s : ByteArray} {m p q r : Nat} {l : List Le} {f : Le} (h : LV.leavesF s m p = some (l, q)) (hf : LV.leafAt s q = some (f, r)) : LV.leavesF s (m + 1) p = some (l ++ [f], r) := by
  rw [LV.leavesF_snoc, h]
  simp only
  rw [hf]
theorem leavesF_ends {s : ByteArray} {m p q : Nat} {l : List Le} (h : LV.leavesF s m p = some (l, q)) (hf : LV.leafAt s q = none) : LV.leavesF s (m + 1) p = none := by
  rw [LV.leavesF_snoc, h]
  simp only
  rw [hf]

end Go.Proofs.YtklpanjedolkdaaGreatDoor
/-
  A leaf copied: the program's answer.
-/
namespace Go.Proofs.YtklpanjedolkdaaGreatDoor
open Go.RowKit Go.BigFrame Go.Sort
set_option linter.unusedVariables false
set_option linter.unusedSimpArgs false

set_option maxRecDepth 100000 in
set_option maxHeartbeats 1000000 in
theorem copiedL_any (f : Le) (w : World) (hn : f.n.size ≤ 1048576) (hv : f.v.size ≤ 1048576) : Calls Tryz.prog 158 #[.agg #[.string f.n, .string f.v]] w fun e w' => e = .returned (.agg #[.string f.n, .string f.v]) ∧ Below w.heap.size w w' := by
  obtain ⟨x, t⟩ := f
  simp only at hn hv ⊢
  have hb0 : Below w.heap.size w ((w.alloc (.cells #[.string x, .string t] 109)).alloc (.cells #[.string ⟨#[]⟩, .string ⟨#[]⟩] 109)) := ((Below.refl _ _).alloc (Nat.le_refl _) _).alloc (by simp) _
  have hG1 : BL ((w.alloc (.cells #[.string x, .string t] 109)).alloc (.cells #[.string ⟨#[]⟩, .string ⟨#[]⟩] 109)) w.heap.size x t := alloc_snd _ _ _ rfl
  have hG2 : BL ((w.alloc (.cells #[.string x, .string t] 109)).alloc (.cells #[.string ⟨#[]⟩, .string ⟨#[]⟩] 109)) (w.heap.size + 1) ⟨#[]⟩ ⟨#[]⟩ := alloc_fst _ _ (by simp)
  have hs0 : ((w.alloc (.cells #[.string x, .string t] 109)).alloc (.cells #[.string ⟨#[]⟩, .string ⟨#[]⟩] 109)).heap.size = w.heap.size + 2 := by simp
  have HK : Hid (∀ W, Below ((w.alloc (.cells #[.string x, .string t] 109)).alloc (.cells #[.string ⟨#[]⟩, .string ⟨#[]⟩] 109)).heap.size ((w.alloc (.cells #[.string x, .string t] 109)).alloc (.cells #[.string ⟨#[]⟩, .string ⟨#[]⟩] 109)) W → W.cell? ⟨w.heap.size, 0, none⟩ = some (.string x) ∧ W.cell? ⟨w.heap.size, 1, none⟩ = some (.string t)) := fun W hW => ⟨(hG1.later hW).c0, (hG1.later hW).c1⟩
  have HK2 : Hid (∀ W, Below ((w.alloc (.cells #[.string x, .string t] 109)).alloc (.cells #[.string ⟨#[]⟩, .string ⟨#[]⟩] 109)).heap.size ((w.alloc (.cells #[.string x, .string t] 109)).alloc (.cells #[.string ⟨#[]⟩, .string ⟨#[]⟩] 109)) W → BL W (w.heap.size + 1) ⟨#[]⟩ ⟨#[]⟩) := fun W hW => hG2.later hW
  have HB0 : Hid (Below w.heap.size w ((w.alloc (.cells #[.string x, .string t] 109)).alloc (.cells #[.string ⟨#[]⟩, .string ⟨#[]⟩] 109)) ∧ w.heap.size ≤ ((w.alloc (.cells #[.string x, .string t] 109)).alloc (.cells #[.string ⟨#[]⟩, .string ⟨#[]⟩] 109)).heap.size) := ⟨hb0, by rw [hs0]; omega⟩
  have hb : Below ((w.alloc (.cells #[.string x, .string t] 109)).alloc (.cells #[.string ⟨#[]⟩, .string ⟨#[]⟩] 109)).heap.size ((w.alloc (.cells #[.string x, .string t] 109)).alloc (.cells #[.string ⟨#[]⟩, .string ⟨#[]⟩] 109)) ((w.alloc (.cells #[.string x, .string t] 109)).alloc (.cells #[.string ⟨#[]⟩, .string ⟨#[]⟩] 109)).drew := (Below.refl _ _).drew
  clear hb0 hG1 hG2 hs0
  go_enter Tryz.func158, Tryz.ntmps158
  go_wp2
  go_region_held3 (fun W => W.cell? ⟨w.heap.size, 0, none⟩ = some (.string x) ∧ W.cell? ⟨w.heap.size, 1, none⟩ = some (.string t)) (first | go_keep | exact HK.out _ hb) ((go_at_call 137; refine (Clone_any _ _ (by first | exact hn | exact hv)).mono ?_; rintro e w1 ⟨rfl, hb1'⟩; have hb := hb.trans (hb1'.mono hb.size); have t0 := (HK2.out _ hb).c0; have t1 := (HK2.out _ hb).c1; have g0 := (HK2.out _ hb).f0; have g1 := (HK2.out _ hb).f1))
  have HF : Hid ((w1.setCells (w.heap.size + 1) 0 [.string x, .string t]).rangeAt (w.heap.size + 1) 0 [.string x, .string t] ∧ Below w.heap.size w (w1.setCells (w.heap.size + 1) 0 [.string x, .string t])) :=
    ⟨(HK2.out _ hb).put x t, below_setCells (by omega) _ _ _ (HB0.out.1.trans (hb.mono HB0.out.2))⟩
  go_wp2
  exact ret_rec 2 (w.heap.size + 1) 109 [.string x, .string t] _ rfl rfl rfl Tryz.underlying109 rfl sizeLeaf HF.out.1 ⟨rfl, HF.out.2⟩

end Go.Proofs.YtklpanjedolkdaaGreatDoor
