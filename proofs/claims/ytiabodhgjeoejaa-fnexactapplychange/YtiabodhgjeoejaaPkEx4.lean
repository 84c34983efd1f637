/-
  Texts laid together: Ca, Cc.
-/
import Derived.Test.YtiabodhgjeoejaaPkEx3
import Derived.Laws.RangeAny
import Derived.Lib.OthersKept
import Derived.Lib.QuietBelow
/-
  Changes as plain words: when one is right, its text; rows of changes as they lie in memory.
-/
namespace Go.Proofs.Ytiabodhgjeoejaa
open Go.RowKit Go.BigFrame Go.Sort
set_option linter.unusedVariables false
set_option linter.unusedSimpArgs false

structure Ug where
  i : Int
  n : ByteArray
  v : ByteArray

def ucs (x : Ug) : List Value := [.int .i64 x.i, .string x.n, .string x.v]
theorem ucs_len (x : Ug) : (ucs x).length = 3 := rfl
theorem RS.chg {w : World} {v : Value} {g o : Nat} {l : List Ug} (h : RS 3 ucs w v g o l) (j : Nat) (hj : j < l.length) :
    w.cell? ⟨g, o + j * 3, none⟩ = some (.int .i64 l[j].i) ∧ w.cell? ⟨g, o + j * 3 + 1, none⟩ = some (.string l[j].n) ∧ w.cell? ⟨g, o + j * 3 + 2, none⟩ = some (.string l[j].v) := by
  obtain ⟨a, c, _, _, _, hc⟩ := h
  exact ⟨hc j hj 0 _ rfl, hc j hj 1 _ rfl, hc j hj 2 _ rfl⟩

theorem below_drnU {B : Nat} {a w : World} (h : Below B a w) (n : Nat) : Below B a (w.drewN n) := h.trans ⟨rfl, rfl, rfl, Nat.le_refl _, fun _ _ => rfl⟩
/-- a change in its box -/
def BU (W : World) (p : Nat) (x : Ug) : Prop := W.heap[p]? = some (.cells #[.int .i64 x.i, .string x.n, .string x.v] 31 (0, 0))
theorem BU.new (w : World) (x : Ug) : BU (w.alloc (.cells #[.int .i64 x.i, .string x.n, .string x.v] 31)) w.heap.size x := Go.heap_alloc_new w _
theorem BU.lt {W : World} {p : Nat} {x : Ug} (h : BU W p x) : p < W.heap.size := (Array.getElem?_eq_some_iff.1 h).1
theorem BU.later {W W' : World} {p : Nat} {x : Ug} (h : BU W p x) (hb : Below W.heap.size W W') : BU W' p x := (hb.block p h.lt).trans h
theorem BU.grown {W W' : World} {p : Nat} {x : Ug} {row : Option Nat} (h : BU W p x) (hg : W.grownBy W' row) (hne : some p ≠ row) : BU W' p x := (hg.block p h.lt hne).trans h
theorem BU.range {W : World} {p : Nat} {x : Ug} (h : BU W p x) : W.rangeAt p 0 (ucs x) := fun j v hv => by
  rw [cell_of_row W p (0 + j) _ _ _ h, Nat.zero_add]
  simpa [ucs] using hv
theorem BU.c0 {W : World} {p : Nat} {x : Ug} (h : BU W p x) : W.cell? ⟨p, 0, none⟩ = some (.int .i64 x.i) := h.range 0 _ rfl
theorem BU.c1 {W : World} {p : Nat} {x : Ug} (h : BU W p x) : W.cell? ⟨p, 1, none⟩ = some (.string x.n) := h.range 1 _ rfl
theorem BU.c2 {W : World} {p : Nat} {x : Ug} (h : BU W p x) : W.cell? ⟨p, 2, none⟩ = some (.string x.v) := h.range 2 _ rfl
theorem BU.fz {W : World} {p : Nat} {x : Ug} (h : BU W p x) (j : Nat) : W.frozen? ⟨p, j, none⟩ = false := by simp [World.frozen?, show W.heap[p]? = _ from h]
theorem BU.there {W : World} {p : Nat} {x : Ug} (h : BU W p x) : W.there p 0 3 := fun j hj => by
  match j, hj with
  | 0, _ => exact ⟨by rw [h.c0]; rfl, h.fz _⟩
  | 1, _ => exact ⟨by rw [h.c1]; rfl, h.fz _⟩
  | 2, _ => exact ⟨by rw [h.c2]; rfl, h.fz _⟩
theorem BU.put {W : World} {p : Nat} {x : Ug} (h : BU W p x) (y : Ug) : BU (W.setCells p 0 (ucs y)) p y :=
  heap_setCell_same _ p 2 _ _ _ (heap_setCell_same _ p 1 _ _ _ (heap_setCell_same W p 0 _ _ _ h))
theorem BU.set0 {W : World} {p : Nat} {x : Ug} (h : BU W p x) (y : Int) : BU (W.setCell ⟨p, 0, none⟩ (.int .i64 y)) p ⟨y, x.n, x.v⟩ := heap_setCell_same W p 0 _ _ _ h
theorem BU.set1 {W : World} {p : Nat} {x : Ug} (h : BU W p x) (y : ByteArray) : BU (W.setCell ⟨p, 1, none⟩ (.string y)) p ⟨x.i, y, x.v⟩ := heap_setCell_same W p 1 _ _ _ h
theorem BU.set2 {W : World} {p : Nat} {x : Ug} (h : BU W p x) (y : ByteArray) : BU (W.setCell ⟨p, 2, none⟩ (.string y)) p ⟨x.i, x.n, y⟩ := heap_setCell_same W p 2 _ _ _ h

theorem sizeChange : (Try.prog.info? 31).map (·.size) = some 3 := by kernel_rfl
section
variable {fn : Func} {Rp : Ending → World → Prop} {a : Act} {w : World}
/-- a change answered out of its box -/
theorem ret_ug (c g : Nat) (x : Ug) (hres : fn.results = #[.cell c 31]) (hd : a.defers = []) (hp : a.tmps.getD c undef = .pointer (some ⟨g, 0, none⟩)) (hA : BU w g x) (h : Rp (.returned (.agg #[.int .i64 x.i, .string x.n, .string x.v])) w) : bodyPost Try.prog fn Rp .ret a w :=
  ret_rec c g 31 (ucs x) _ hres hd hp Try.underlying31 rfl sizeChange hA.range h
theorem ret_ug2 (c s g : Nat) (x : Ug) (b : Value) (hres : fn.results = #[.cell c 31, .tmp s]) (hd : a.defers = []) (hp : a.tmps.getD c undef = .pointer (some ⟨g, 0, none⟩)) (hb : a.tmps.getD s undef = b) (hA : BU w g x) (h : Rp (.returned (.tuple #[.agg #[.int .i64 x.i, .string x.n, .string x.v], b])) w) : bodyPost Try.prog fn Rp .ret a w :=
  ret_rec2 c s g 31 (ucs x) b _ hres hd hp hb Try.underlying31 rfl sizeChange hA.range h
end

namespace UV
/-- a value that may be, or none -/
def vOk (v : ByteArray) : Bool := v.toList.isEmpty || okB valB v
def okU (x : Ug) : Bool := decide (1 ≤ x.i ∧ x.i ≤ 99) && (okB nameB x.n && vOk x.v)
end UV

end Go.Proofs.Ytiabodhgjeoejaa
/-
  When a change is right: the program's and the specification's answers. Names are gone through rune by rune.
-/
namespace Go.Proofs.Ytiabodhgjeoejaa
open Go.RowKit Go.BigFrame Go.Sort
set_option linter.unusedVariables false
set_option linter.unusedSimpArgs false

set_option maxRecDepth 100000 in
set_option maxHeartbeats 400000 in
theorem hasInt_any (a b x : Int) (w : World) : Calls Try.prog 58 #[.agg #[.int .i64 a, .int .i64 b], .int .i64 x] w fun e w' => e = .returned (.bool (decide (a ≤ x ∧ x ≤ b))) ∧ Below w.heap.size w w' := by
  have HB : Hid (Below w.heap.size w (w.alloc (.cells #[.int .i64 a, .int .i64 b] 87))) := (Below.refl _ _).alloc (Nat.le_refl _) _
  by_cases h1 : a ≤ x
  · by_cases h2 : x ≤ b
    · rw [decide_eq_true ⟨h1, h2⟩]
      go_enter Try.func58, Try.ntmps58
      go_wp2
      go_ret
      exact ⟨rfl, HB.out⟩
    · rw [decide_eq_false (fun h => h2 h.2)]
      go_enter Try.func58, Try.ntmps58
      go_wp2
      go_ret
      exact ⟨rfl, HB.out⟩
  · rw [decide_eq_false (fun h => h1 h.1)]
    go_enter Try.func58, Try.ntmps58
    go_wp2
    go_ret
    exact ⟨rfl, HB.out⟩
set_option maxRecDepth 100000 in
set_option maxHeartbeats 400000 in
theorem hasRune_any (a b x : Int) (w : World) : Calls Try.prog 97 #[.agg #[.int .i32 a, .int .i32 b], .int .i32 x] w fun e w' => e = .returned (.bool (decide (a ≤ x ∧ x ≤ b))) ∧ Below w.heap.size w w' := by
  have HB : Hid (Below w.heap.size w (w.alloc (.cells #[.int .i32 a, .int .i32 b] 123))) := (Below.refl _ _).alloc (Nat.le_refl _) _
  by_cases h1 : a ≤ x
  · by_cases h2 : x ≤ b
    · rw [decide_eq_true ⟨h1, h2⟩]
      go_enter Try.func97, Try.ntmps97
      go_wp2
      go_ret
      exact ⟨rfl, HB.out⟩
    · rw [decide_eq_false (fun h => h2 h.2)]
      go_enter Try.func97, Try.ntmps97
      go_wp2
      go_ret
      exact ⟨rfl, HB.out⟩
  · rw [decide_eq_false (fun h => h1 h.1)]
    go_enter Try.func97, Try.ntmps97
    go_wp2
    go_ret
    exact ⟨rfl, HB.out⟩

set_option maxRecDepth 100000 in
set_option maxHeartbeats 400000 in
theorem runeIn_one (b : UInt8) (h : b.toNat < 128) (w : World) : Calls Try.prog 89 #[.int .i32 (b.toNat : Int)] w fun e w' => e = .returned (.bool (nameB b)) ∧ Below w.heap.size w w' := by
  have HB : Hid (Below w.heap.size w (w.alloc (.cells #[.int .i32 0, .int .i32 127] 123))) := (Below.refl _ _).alloc (Nat.le_refl _) _
  have HH : Hid (∀ W, Calls Try.prog 97 #[.agg #[.int .i32 0, .int .i32 127], .int .i32 (b.toNat : Int)] W fun e w' => e = .returned (.bool true) ∧ Below W.heap.size W w') := fun W => (hasRune_any 0 127 b.toNat W).mono fun e w' ⟨he, hw⟩ => ⟨by rw [he, decide_eq_true (by omega)], hw⟩
  have HN : Hid (∀ W, Calls Try.prog 95 #[.int .u8 b.toNat] W fun e w' => e = .returned (.bool (nameB b)) ∧ w' = W) := fun W => inNames_any b W
  generalize nameB b = R at *
  have i1 : (b.toNat : Int) % 256 = (b.toNat : Int) := by omega
  go_enter Try.func89, Try.ntmps89
  go_wp2_with fail
  refine (HH.out _).mono ?_
  rintro e w1 ⟨rfl, hb1⟩
  have b1 := HB.out.trans (hb1.mono HB.out.size)
  clear HB HH hb1
  go_wp2_with fail
  refine (HN.out _).mono ?_
  rintro e w2 ⟨rfl, rfl⟩
  clear HN
  go_wp2
  go_ret
  exact ⟨rfl, b1⟩

set_option maxRecDepth 100000 in
set_option maxHeartbeats 400000 in
theorem runeIn_wide (r : Int) (h : 128 ≤ r) (w : World) : Calls Try.prog 89 #[.int .i32 r] w fun e w' => e = .returned (.bool false) ∧ Below w.heap.size w w' := by
  have HB : Hid (Below w.heap.size w (w.alloc (.cells #[.int .i32 0, .int .i32 127] 123))) := (Below.refl _ _).alloc (Nat.le_refl _) _
  have HH : Hid (∀ W, Calls Try.prog 97 #[.agg #[.int .i32 0, .int .i32 127], .int .i32 r] W fun e w' => e = .returned (.bool false) ∧ Below W.heap.size W w') := fun W => (hasRune_any 0 127 r W).mono fun e w' ⟨he, hw⟩ => ⟨by rw [he, decide_eq_false (by omega)], hw⟩
  go_enter Try.func89, Try.ntmps89
  go_wp2_with fail
  refine (HH.out _).mono ?_
  rintro e w1 ⟨rfl, hb1⟩
  have b1 := HB.out.trans (hb1.mono HB.out.size)
  clear HB HH hb1
  go_wp2
  go_ret
  exact ⟨rfl, b1⟩

theorem nameB_high {b : UInt8} (h : 128 ≤ b.toNat) : nameB b = false := by
  unfold nameB
  rw [decide_eq_false]
  omega
theorem iterPos_of {w : World} {k p : Nat} {s : ByteArray} (h : w.heap[k]? = some (.stringIter s p)) : w.iterPos k = p := by simp [World.iterPos, h]

/-- the first runes, all of one byte each, may be in a name; the reader stands behind them -/
def CnRel (s : ByteArray) (w : World) (g : Nat) (wr : World) : Prop := ∃ k : Nat, k ≤ s.size ∧ wr.heap[g]? = some (.stringIter s k) ∧ Hid (∀ j (h : j < s.size), j < k → nameB s[j] = true) ∧ Below w.heap.size w wr

set_option maxRecDepth 100000 in
set_option maxHeartbeats 1000000 in
theorem changeNameOk_any (s : ByteArray) (w : World) (hs : s.size ≤ 1048576) : Calls Try.prog 59 #[.string s] w fun e w' => e = .returned (.bool (okB nameB s)) ∧ Below w.heap.size w w' := by
  have HB : Hid (Below w.heap.size w (w.alloc (.cells #[.int .i64 1, .int .i64 12] 87))) := (Below.refl _ _).alloc (Nat.le_refl _) _
  have HH : Hid (∀ W, Calls Try.prog 58 #[.agg #[.int .i64 1, .int .i64 12], .int .i64 (s.size : Int)] W fun e w' => e = .returned (.bool (decide ((1 : Int) ≤ (s.size : Int) ∧ (s.size : Int) ≤ 12))) ∧ Below W.heap.size W w') := fun W => hasInt_any 1 12 s.size W
  by_cases hsz : 1 ≤ s.size ∧ s.size ≤ 12
  · rw [decide_eq_true (show (1 : Int) ≤ (s.size : Int) ∧ (s.size : Int) ≤ 12 by omega)] at HH
    obtain ⟨R, hR⟩ : ∃ R, okB nameB s = R := ⟨_, rfl⟩
    rw [hR]
    have HR : Hid (okB nameB s = R) := hR
    clear hR
    go_enter Try.func59, Try.ntmps59
    go_wp2_with fail
    refine (HH.out _).mono ?_
    rintro e w1 ⟨rfl, hb1⟩
    have b1 := HB.out.trans (hb1.mono HB.out.size)
    clear HB HH hb1
    go_wp2
    go_loopw [5] (fun _ wr => CnRel s w w1.heap.size wr) (fun _ wr => s.size - wr.iterPos w1.heap.size)
    case atStart => exact ⟨0, by omega, World.iter_heap w1 s 0, by intro j _ h; omega, b1.alloc b1.size _⟩
    case round =>
      obtain ⟨k, hk, hit, HI, hbw⟩ := hrel
      have hw1 : w.heap.size ≤ w1.heap.size := b1.size
      by_cases hp : k < s.size
      · by_cases ha : (s[k]'hp).toNat < 128
        · have hnx : ∀ ty, (Instr.next (.pointer (some ⟨w1.heap.size, 0, none⟩)) true ty).run Try.prog wr = _ := fun ty => Lib.run_next_ascii_at wr w1.heap.size s k ty hit hp ha
          have HIT : Hid ((wr.iterAt w1.heap.size s (k + 1)).heap[w1.heap.size]? = some (.stringIter s (k + 1)) ∧ Below w.heap.size w (wr.iterAt w1.heap.size s (k + 1)) ∧ wr.iterPos w1.heap.size = k) := ⟨Lib.iterAt_heap wr w1.heap.size s k (k + 1) hit, Lib.below_iterAt hbw (k := w1.heap.size) hw1 s (k + 1), iterPos_of hit⟩
          have HC : Hid (∀ W, Calls Try.prog 89 #[.int .i32 ((s[k]'hp).toNat : Int)] W fun e w' => e = .returned (.bool (nameB (s[k]'hp))) ∧ Below W.heap.size W w') := fun W => runeIn_one _ ha W
          obtain ⟨p, hp1⟩ : ∃ p, nameB (s[k]'hp) = p := ⟨_, rfl⟩
          have HP : Hid (nameB (s[k]'hp) = p) := hp1
          simp only [hp1] at HC
          clear hp1 hit hbw b1
          generalize wr.iterAt w1.heap.size s (k + 1) = W2 at *
          go_wp2_with fail
          refine (HC.out _).mono ?_
          rintro e w3 ⟨rfl, hb3⟩
          have b3 := HIT.out.2.1.trans (hb3.mono HIT.out.2.1.size)
          have hit3 : w3.heap[w1.heap.size]? = some (.stringIter s (k + 1)) := (hb3.block _ (Array.getElem?_eq_some_iff.1 HIT.out.1).1).trans HIT.out.1
          clear HC hb3 hnx
          cases p
          · have hR : R = false := by rw [← HR.out]; exact okB_bad _ _ k hp HP.out
            subst hR
            clear HI HIT HP HR hit3
            go_wp2
            try rw [Exit.noGoto_ret]
            go_ret
            exact ⟨rfl, b3⟩
          · go_wp2
            go_roundw
            case rel => exact ⟨k + 1, by omega, hit3, NmRel.step hp HP.out HI.out, b3⟩
            case measure =>
              rw [iterPos_of hit3, HIT.out.2.2]
              omega
        · have hnx : ∀ ty, (Instr.next (.pointer (some ⟨w1.heap.size, 0, none⟩)) true ty).run Try.prog wr = _ := fun ty => Lib.run_next_any_at wr w1.heap.size s k ty hit hp
          have HB2 : Hid (Below w.heap.size w (wr.iterAt w1.heap.size s (k + (Utf8.decode s k).2))) := Lib.below_iterAt hbw (k := w1.heap.size) hw1 s _
          have hd := (decode_high s k hp (by omega)).1
          have HC : Hid (∀ W, Calls Try.prog 89 #[.int .i32 ((Utf8.decode s k).1 : Int)] W fun e w' => e = .returned (.bool false) ∧ Below W.heap.size W w') := fun W => runeIn_wide _ (by omega) W
          have hR : R = false := by rw [← HR.out]; exact okB_bad _ _ k hp (nameB_high (by omega))
          subst hR
          clear hit hbw b1 HI HR hd
          generalize wr.iterAt w1.heap.size s (k + (Utf8.decode s k).2) = W2 at *
          generalize (Utf8.decode s k).1 = r at *
          go_wp2_with fail
          refine (HC.out _).mono ?_
          rintro e w3 ⟨rfl, hb3⟩
          have b3 := HB2.out.trans (hb3.mono HB2.out.size)
          clear HC hb3 hnx HB2
          go_wp2
          try rw [Exit.noGoto_ret]
          go_ret
          exact ⟨rfl, b3⟩
      · have hnx : ∀ ty, (Instr.next (.pointer (some ⟨w1.heap.size, 0, none⟩)) true ty).run Try.prog wr = _ := fun ty => Lib.run_next_end_at wr w1.heap.size s k ty hit hp
        have hR : R = true := by rw [← HR.out, okB_good _ _ (fun j h => HI.out j h (by omega))]; exact decide_eq_true hsz
        subst hR
        clear hit HI HR b1
        go_wp2
        go_ret
        exact ⟨rfl, hbw⟩
  · rw [decide_eq_false (show ¬ ((1 : Int) ≤ (s.size : Int) ∧ (s.size : Int) ≤ 12) by omega)] at HH
    rw [okB_len _ _ hsz]
    clear hsz
    go_enter Try.func59, Try.ntmps59
    go_wp2_with fail
    refine (HH.out _).mono ?_
    rintro e w1 ⟨rfl, hb1⟩
    have b1 := HB.out.trans (hb1.mono HB.out.size)
    clear HB HH hb1
    go_wp2
    go_ret
    exact ⟨rfl, b1⟩

theorem drops_any (x : Ug) (w : World) : Calls Try.prog 43 #[.agg #[.int .i64 x.i, .string x.n, .string x.v]] w fun e w' => e = .returned (.bool x.v.toList.isEmpty) ∧ Below w.heap.size w w' := by
  obtain ⟨i, n, v⟩ := x
  have HB : Hid (Below w.heap.size w (w.alloc (.cells #[.int .i64 i, .string n, .string v] 31))) := (Below.refl _ _).alloc (Nat.le_refl _) _
  simp only
  cases hv : v.toList.isEmpty
  all_goals
    go_enter Try.func43, Try.ntmps43
    go_wp2
    go_ret
    exact ⟨rfl, HB.out⟩

set_option maxRecDepth 100000 in
set_option maxHeartbeats 1000000 in
theorem ChangeOk_any (x : Ug) (w : World) (hn : x.n.size ≤ 1048576) (hv : x.v.size ≤ 1048576) : Calls Try.prog 22 #[.agg #[.int .i64 x.i, .string x.n, .string x.v]] w fun e w' => e = .returned (.bool (UV.okU x)) ∧ Below w.heap.size w w' := by
  have HH : Hid (∀ W, Calls Try.prog 58 #[.agg #[.int .i64 1, .int .i64 99], .int .i64 x.i] W fun e w' => e = .returned (.bool (decide (1 ≤ x.i ∧ x.i ≤ 99))) ∧ Below W.heap.size W w') := fun W => hasInt_any 1 99 x.i W
  have HN : Hid (∀ W, Calls Try.prog 59 #[.string x.n] W fun e w' => e = .returned (.bool (okB nameB x.n)) ∧ Below W.heap.size W w') := fun W => changeNameOk_any x.n W hn
  have HD : Hid (∀ W, Calls Try.prog 43 #[.agg #[.int .i64 x.i, .string x.n, .string x.v]] W fun e w' => e = .returned (.bool x.v.toList.isEmpty) ∧ Below W.heap.size W w') := fun W => drops_any x W
  have HV : Hid (∀ W, Calls Try.prog 60 #[.string x.v] W fun e w' => e = .returned (.bool (okB valB x.v)) ∧ w' = W) := fun W => ValueOk_any x.v W hv
  unfold UV.okU UV.vOk
  generalize okB nameB x.n = b2 at *
  generalize okB valB x.v = b4 at *
  generalize x.v.toList.isEmpty = b3 at *
  generalize decide (1 ≤ x.i ∧ x.i ≤ 99) = b1 at *
  obtain ⟨i, n, v⟩ := x
  simp only at HH HN HD HV ⊢
  have HW : Hid (BU ((w.alloc (.cells #[.int .i64 i, .string n, .string v] 31)).alloc (.cells #[.int .i64 1, .int .i64 99] 87)) w.heap.size ⟨i, n, v⟩ ∧ Below w.heap.size w ((w.alloc (.cells #[.int .i64 i, .string n, .string v] 31)).alloc (.cells #[.int .i64 1, .int .i64 99] 87))) := ⟨alloc_snd _ _ _ rfl, ((Below.refl _ _).alloc (Nat.le_refl _) _).alloc (by simp) _⟩
  go_enter Try.func22, Try.ntmps22
  go_wp2_with fail
  refine (HH.out _).mono ?_
  rintro e w1 ⟨rfl, hb1⟩
  have HW1 : Hid (BU w1 w.heap.size ⟨i, n, v⟩ ∧ Below w.heap.size w w1) := ⟨HW.out.1.later hb1, HW.out.2.trans (hb1.mono HW.out.2.size)⟩
  clear HH HW hb1
  cases b1
  · clear HN HD HV
    go_wp2
    go_ret
    exact ⟨rfl, HW1.out.2⟩
  have z1 := HW1.out.1.c1
  simp only at z1
  go_wp2_with fail
  refine (HN.out _).mono ?_
  rintro e w2 ⟨rfl, hb2⟩
  have HW2 : Hid (BU w2 w.heap.size ⟨i, n, v⟩ ∧ Below w.heap.size w w2) := ⟨HW1.out.1.later hb2, HW1.out.2.trans (hb2.mono HW1.out.2.size)⟩
  clear HN HW1 hb2 z1
  cases b2
  · clear HD HV
    go_wp2
    go_ret
    exact ⟨rfl, HW2.out.2⟩
  have z0 := HW2.out.1.c0
  have z1 := HW2.out.1.c1
  have z2 := HW2.out.1.c2
  simp only at z0 z1 z2
  go_wp2_with fail
  refine (HD.out _).mono ?_
  rintro e w3 ⟨rfl, hb3⟩
  have HW3 : Hid (BU w3 w.heap.size ⟨i, n, v⟩ ∧ Below w.heap.size w w3) := ⟨HW2.out.1.later hb3, HW2.out.2.trans (hb3.mono HW2.out.2.size)⟩
  clear HD HW2 hb3 z0 z1 z2
  cases b3
  · have z2 := HW3.out.1.c2
    simp only at z2
    go_wp2_with fail
    refine (HV.out _).mono ?_
    rintro e w4 ⟨rfl, rfl⟩
    clear HV z2
    go_wp2
    go_ret
    exact ⟨rfl, HW3.out.2⟩
  · clear HV
    go_wp2
    go_ret
    exact ⟨rfl, HW3.out.2⟩

set_option maxRecDepth 100000 in
set_option maxHeartbeats 1000000 in
theorem sChangeOk_any (x : Ug) (w : World) (hn : x.n.size ≤ 1048576) (hv : x.v.size ≤ 1048576) : Calls Try.prog 23 #[.agg #[.int .i64 x.i, .string x.n, .string x.v]] w fun e w' => e = .returned (.bool (UV.okU x)) ∧ Below w.heap.size w w' := by
  have HH : Hid (∀ W, Calls Try.prog 61 #[.int .i64 x.i, .int .i64 1, .int .i64 99] W fun e w' => e = .returned (.bool (decide (1 ≤ x.i ∧ x.i ≤ 99))) ∧ w' = W) := fun W => l01In_any x.i 1 99 W
  have HN : Hid (∀ W, Calls Try.prog 62 #[.string x.n] W fun e w' => e = .returned (.bool (okB nameB x.n)) ∧ w' = W) := fun W => sNameOk_any x.n W hn
  have HV : Hid (∀ W, Calls Try.prog 63 #[.string x.v] W fun e w' => e = .returned (.bool (okB valB x.v)) ∧ w' = W) := fun W => sValueOk_any x.v W hv
  unfold UV.okU UV.vOk
  generalize okB nameB x.n = b2 at *
  generalize okB valB x.v = b4 at *
  obtain ⟨b3, hb3⟩ : ∃ b, x.v.toList.isEmpty = b := ⟨_, rfl⟩
  rw [hb3]
  generalize decide (1 ≤ x.i ∧ x.i ≤ 99) = b1 at *
  obtain ⟨i, n, v⟩ := x
  simp only at HH HN HV hb3 ⊢
  have HW : Hid (BU (w.alloc (.cells #[.int .i64 i, .string n, .string v] 31)) w.heap.size ⟨i, n, v⟩ ∧ Below w.heap.size w (w.alloc (.cells #[.int .i64 i, .string n, .string v] 31))) := ⟨BU.new w ⟨i, n, v⟩, (Below.refl _ _).alloc (Nat.le_refl _) _⟩
  go_enter Try.func23, Try.ntmps23
  go_wp2_with fail
  refine (HH.out _).mono ?_
  rintro e w1 ⟨rfl, hw1⟩
  have HW1 : Hid (BU w1 w.heap.size ⟨i, n, v⟩ ∧ Below w.heap.size w w1) := by rw [hw1]; exact HW.out
  clear HH HW hw1
  cases b1
  · clear HN HV
    go_wp2
    go_ret
    exact ⟨rfl, HW1.out.2⟩
  have z1 := HW1.out.1.c1
  have z2 := HW1.out.1.c2
  simp only at z1 z2
  go_wp2_with fail
  refine (HN.out _).mono ?_
  rintro e w2 ⟨rfl, rfl⟩
  clear HN
  cases b2
  · clear HV
    go_wp2
    go_ret
    exact ⟨rfl, HW1.out.2⟩
  cases b3
  · go_wp2_with fail
    refine (HV.out _).mono ?_
    rintro e w4 ⟨rfl, rfl⟩
    clear HV
    go_wp2
    go_ret
    exact ⟨rfl, HW1.out.2⟩
  · clear HV
    go_wp2
    go_ret
    exact ⟨rfl, HW1.out.2⟩

end Go.Proofs.Ytiabodhgjeoejaa
