/-
  Texts laid together: Fw, Nam, Ca.
-/
import Derived.Test.YtiabodhgjeoejaaPkC1
import Derived.Deep.QuietTactic
import Derived.BigQuiet
/-
  What the laws' own helpers do with files and disks: taken over, compared, weighed.
-/
namespace Go.Proofs.Ytiabodhgjeoejaa
open Go.RowKit Go.BigFrame Go.Sort
set_option linter.unusedVariables false
set_option linter.unusedSimpArgs false

section
variable {fn : Func} {Rp : Ending → World → Prop} {a : Act} {w : World}
/-- a record answered out of its block -/
theorem ret_rec (c g T : Nat) (cs : List Value) (d : TypeDesc) (hres : fn.results = #[.cell c T]) (hd : a.defers = []) (hp : a.tmps.getD c undef = .pointer (some ⟨g, 0, none⟩))
    (hu : Try.prog.underlying T = some d) (hrow : d.isRow = true) (hi : (Try.prog.info? T).map (·.size) = some cs.length) (hA : w.rangeAt g 0 cs) (h : Rp (.returned (.agg cs.toArray)) w) : bodyPost Try.prog fn Rp .ret a w := by
  have hr := run_loadVar_mid (P := Try.prog) w g 0 T cs d hA hu hrow hi
  refine bodyPost_ret (v := .agg cs.toArray) ?_ hd h
  have hp' : a.tmps[c]?.getD undef = .pointer (some ⟨g, 0, none⟩) := by simpa using hp
  simp [results, hres, asAddr, hr, hp']
/-- .. and something beside it -/
theorem ret_rec2 (c s g T : Nat) (cs : List Value) (b : Value) (d : TypeDesc) (hres : fn.results = #[.cell c T, .tmp s]) (hd : a.defers = []) (hp : a.tmps.getD c undef = .pointer (some ⟨g, 0, none⟩)) (hb : a.tmps.getD s undef = b)
    (hu : Try.prog.underlying T = some d) (hrow : d.isRow = true) (hi : (Try.prog.info? T).map (·.size) = some cs.length) (hA : w.rangeAt g 0 cs) (h : Rp (.returned (.tuple #[.agg cs.toArray, b])) w) : bodyPost Try.prog fn Rp .ret a w := by
  have hr := run_loadVar_mid (P := Try.prog) w g 0 T cs d hA hu hrow hi
  refine bodyPost_ret (v := .tuple #[.agg cs.toArray, b]) ?_ hd h
  have hp' : a.tmps[c]?.getD undef = .pointer (some ⟨g, 0, none⟩) := by simpa using hp
  have hb' : a.tmps[s]?.getD undef = b := by simpa using hb
  simp [results, hres, asAddr, hr, hp', hb']
end

theorem range1 {w : World} {g o : Nat} {u : Value} (h : w.cell? ⟨g, o, none⟩ = some u) : w.rangeAt g o [u] := fun j v hv => by
  match j, hv with
  | 0, hv => simp at hv; subst hv; exact h
theorem range3 {w : World} {g o : Nat} {u1 u2 u3 : Value} (h1 : w.cell? ⟨g, o, none⟩ = some u1) (h2 : w.cell? ⟨g, o + 1, none⟩ = some u2) (h3 : w.cell? ⟨g, o + 2, none⟩ = some u3) : w.rangeAt g o [u1, u2, u3] := fun j v hv => by
  match j, hv with
  | 0, hv => simp at hv; subst hv; exact h1
  | 1, hv => simp at hv; subst hv; exact h2
  | 2, hv => simp at hv; subst hv; exact h3
theorem range_new (W : World) (cs : List Value) (T : Nat) : (W.alloc (.cells cs.toArray T)).rangeAt W.heap.size 0 cs := fun j v hv => by
  rw [cell_of_row _ W.heap.size (0 + j) cs.toArray T (0, 0) (Go.heap_alloc_new W _), Nat.zero_add]
  simpa using hv
theorem range_at {W : World} {g g' o : Nat} {cs : List Value} (e : g = g') (h : W.rangeAt g o cs) : W.rangeAt g' o cs := e ▸ h
theorem size_setCells (b : Nat) : ∀ (vs : List Value) (o : Nat) (w : World), (w.setCells b o vs).heap.size = w.heap.size
  | [], _, _ => rfl
  | v :: r, o, w => by
    rw [World.setCells, size_setCells b r]
    simp
theorem below_setCells {B b : Nat} {w0 : World} (hB : B ≤ b) : ∀ (vs : List Value) (o : Nat) (w : World), Below B w0 w → Below B w0 (w.setCells b o vs)
  | [], _, _, h => h
  | v :: r, o, w, h => below_setCells hB r (o + 1) _ (h.setCell (p := ⟨b, o, none⟩) hB v)
theorem there3 {w : World} {g o : Nat} (h : w.there g o 3) : (∃ u, w.cell? ⟨g, o, none⟩ = some u) ∧ (∃ u, w.cell? ⟨g, o + 1, none⟩ = some u) ∧ (∃ u, w.cell? ⟨g, o + 2, none⟩ = some u) ∧ w.frozen? ⟨g, o, none⟩ = false ∧ w.frozen? ⟨g, o + 1, none⟩ = false ∧ w.frozen? ⟨g, o + 2, none⟩ = false :=
  ⟨Option.isSome_iff_exists.1 (h 0 (by omega)).1, Option.isSome_iff_exists.1 (h 1 (by omega)).1, Option.isSome_iff_exists.1 (h 2 (by omega)).1, (h 0 (by omega)).2, (h 1 (by omega)).2, (h 2 (by omega)).2⟩
theorem grown_setC (w : World) (g j : Nat) (v : Value) : w.grownBy (w.setCell ⟨g, j, none⟩ v) (some g) :=
  ⟨rfl, rfl, rfl, by simp, fun i _ hi => RowKit.Below.heap_setCell _ _ _ _ (fun e => hi (by rw [e]))⟩
theorem alloc_fst (w : World) (o : Obj) {g : Nat} (h : g = w.heap.size) : (w.alloc o).heap[g]? = some o := h ▸ Go.heap_alloc_new w o
theorem alloc_snd (w : World) (o1 o2 : Obj) {g : Nat} (h : g = w.heap.size) : ((w.alloc o1).alloc o2).heap[g]? = some o1 := (Below.heap_alloc _ _ g (by simp; omega)).trans (alloc_fst w o1 h)
theorem cell_set_same {w : World} {g j : Nat} {cs : Array Value} {T : Nat} (h : w.heap[g]? = some (.cells cs T (0, 0))) (hj : j < cs.size) (v : Value) : (w.setCell ⟨g, j, none⟩ v).cell? ⟨g, j, none⟩ = some v := by
  rw [cell_of_row _ g j _ T (0, 0) (heap_setCell_same w g j _ _ _ h)]
  simp [hj]
theorem there_new {W : World} {cs : Array Value} {T n : Nat} (h : cs.size = n * 3) (j : Nat) (hj : j < n) : (W.alloc (.cells cs T)).there W.heap.size (j * 3) 3 := by
  intro i hi
  have hg := Go.heap_alloc_new W (.cells cs T)
  refine ⟨?_, by unfold World.frozen?; simp only [hg]; simp⟩
  rw [cell_of_row _ W.heap.size (j * 3 + i) cs T (0, 0) hg, Array.getElem?_eq_getElem (by omega)]
  rfl
/-- the first m records of a new row are written -/
def ToF (w : World) (l : List Fl) (B g : Nat) (i : Value) (wr : World) : Prop := ∃ m : Nat, m ≤ l.length ∧ i = .int .i64 m ∧ (∀ j (h : j < l.length), j < m → wr.rangeAt g (j * 3) (fcs l[j])) ∧ (∀ j, j < l.length → wr.there g (j * 3) 3) ∧ Below B w wr
theorem ToF.set {w wr : World} {l : List Fl} {g m B : Nat} (hm : m < l.length) (hB : B ≤ g) (h1 : ∀ j (h : j < l.length), j < m → wr.rangeAt g (j * 3) (fcs l[j])) (h2 : ∀ j, j < l.length → wr.there g (j * 3) 3) (h3 : Below B w wr) :
    (∀ j (h : j < l.length), j < m + 1 → (wr.setCells g (m * 3) (fcs l[m])).rangeAt g (j * 3) (fcs l[j])) ∧ (∀ j, j < l.length → (wr.setCells g (m * 3) (fcs l[m])).there g (j * 3) 3) ∧ Below B w (wr.setCells g (m * 3) (fcs l[m])) := by
  refine ⟨fun j hj hlt => ?_, fun j hj => World.there_setCells (h2 j hj) _ _ _, ?_⟩
  · rcases Nat.lt_or_ge j m with h4 | h4
    · exact World.rangeAt_setCells_apart (h1 j hj h4) _ _ _ (.inr (.inl (by rw [fcs_len]; omega)))
    · have : j = m := by omega
      subst this
      exact World.rangeAt_setCells_same _ _ _ _ (h2 j hj)
  · exact below_setCells hB _ _ _ h3

/-- a disk answered: its row may be written, and lies in blocks from B on -/
def DkIn (w : World) (B : Nat) (v : Value) (l : List Fl) : Prop := ∃ s g, v = .agg #[s] ∧ RW 3 fcs w s g l ∧ B ≤ g

def EfR (n : Nat) (w : World) (i : Value) (wr : World) : Prop := ∃ m : Nat, m ≤ n ∧ i = .int .i64 m ∧ Below w.heap.size w wr

/-- a row of files that was handed in, great or small: if it is small, it is l -/
def IsRowF (w : World) (v : Value) (g o : Nat) (l : List Fl) : Prop := ∃ a n cap, v = .slice a n cap ∧ n ≤ 9223372036854775807 ∧ (n ≤ 1100000 → l.length = n ∧ RS 3 fcs w v g o l ∧ ∀ f ∈ l, f.n.size ≤ 9223372036854775807 ∧ f.t.size ≤ 9223372036854775807)
theorem IsRowF.later {w w' : World} {v : Value} {g o : Nat} {l : List Fl} (h : IsRowF w v g o l) (hb : Below w.heap.size w w') : IsRowF w' v g o l := by
  obtain ⟨a, n, cap, hv, hn, hr⟩ := h
  exact ⟨a, n, cap, hv, hn, fun hl => ⟨(hr hl).1, (hr hl).2.1.later hb, (hr hl).2.2⟩⟩
/-- no text of it is great -/
def SmallF (l : List Fl) : Prop := ∀ f ∈ l, f.n.size ≤ 1048576 ∧ f.t.size ≤ 1048576

def SzF (l : List Fl) (x0 : Int) (w : World) (x i : Value) (wr : World) : Prop := ∃ (m : Nat) (y : Int), m ≤ l.length ∧ i = .int .i64 m ∧ x = .int .i64 y ∧ 0 ≤ y ∧ y ≤ x0 ∧ Hid (∀ j (h : j < l.length), j < m → l[j].n.size ≤ 1048576 ∧ l[j].t.size ≤ 1048576) ∧ Below w.heap.size w wr

/-- the box of a disk -/
def BD (W : World) (p T : Nat) (v : Value) : Prop := W.heap[p]? = some (.cells #[v] T (0, 0))
theorem BD.cell {W : World} {p T : Nat} {v : Value} (h : BD W p T v) : W.cell? ⟨p, 0, none⟩ = some v := by rw [cell_of_row W p 0 _ _ (0, 0) h]; rfl
theorem BD.lt {W : World} {p T : Nat} {v : Value} (h : BD W p T v) : p < W.heap.size := (Array.getElem?_eq_some_iff.1 h).1
theorem BD.later {W W' : World} {p T : Nat} {v : Value} (h : BD W p T v) (hb : Below W.heap.size W W') : BD W' p T v := by
  have hlt := h.lt
  unfold BD at *
  rw [hb.block p hlt, h]
theorem BD.grown {W W' : World} {p T : Nat} {v : Value} {row : Option Nat} (h : BD W p T v) (hg : W.grownBy W' row) (hne : some p ≠ row) : BD W' p T v := by
  have hlt := h.lt
  unfold BD at *
  rw [hg.block p hlt hne, h]
theorem BD.new (w : World) (T : Nat) (v : Value) : BD (w.alloc (.cells #[v] T)) w.heap.size T v := Go.heap_alloc_new w _
theorem BD.range {W : World} {p T : Nat} {v : Value} (h : BD W p T v) : W.rangeAt p 0 [v] := range1 h.cell
theorem RS.back {α : Type} {k : Nat} {enc : α → List Value} {w : World} {v : Value} {g o : Nat} {l : List α} (x : Obj) (h : RS k enc (w.alloc x) v g o l) (hg : 0 < l.length → g < w.heap.size) : RS k enc w v g o l := by
  obtain ⟨a, c, hv, hl, h0, hc⟩ := h
  exact ⟨a, c, hv, hl, fun hp => ⟨(h0 hp).1, hg hp⟩, fun j hj => range_kept (hc j hj) (Below.heap_alloc _ _ g (hg (by omega))).symm⟩

end Go.Proofs.Ytiabodhgjeoejaa
/-
  What NameOk, ValueOk and BitOf answer, the program's and the specification's.
-/
namespace Go.Proofs.Ytiabodhgjeoejaa
open Go.RowKit
set_option linter.unusedVariables false

def nameB (b : UInt8) : Bool := decide ((97 ≤ b.toNat ∧ b.toNat ≤ 122) ∨ (48 ≤ b.toNat ∧ b.toNat ≤ 57) ∨ b.toNat = 64 ∨ b.toNat = 46)
def valB (b : UInt8) : Bool := decide (33 ≤ b.toNat ∧ b.toNat ≤ 126)
/-- one to twelve bytes, each as p wants it -/
def okB (p : UInt8 → Bool) (s : ByteArray) : Bool := decide (1 ≤ s.size ∧ s.size ≤ 12) && s.data.toList.all p

theorem okB_bad (p : UInt8 → Bool) (s : ByteArray) (k : Nat) (h : k < s.size) (hb : p s[k] = false) : okB p s = false := by
  unfold okB
  have : s.data.toList.all p = false := by
    rw [List.all_eq_false]
    exact ⟨s[k], by rw [ByteArray.getElem_eq_getElem_data]; exact Array.getElem_mem_toList .., by simp [hb]⟩
  rw [this, Bool.and_false]
theorem okB_good (p : UInt8 → Bool) (s : ByteArray) (h : ∀ k (h : k < s.size), p s[k] = true) : okB p s = decide (1 ≤ s.size ∧ s.size ≤ 12) := by
  unfold okB
  have : s.data.toList.all p = true := by
    rw [List.all_eq_true]
    intro x hx
    obtain ⟨k, hk, rfl⟩ := List.getElem_of_mem hx
    have hk' : k < s.size := by simpa using hk
    have := h k hk'
    rw [ByteArray.getElem_eq_getElem_data] at this
    simpa using this
  rw [this, Bool.and_true]
theorem okB_len (p : UInt8 → Bool) (s : ByteArray) (h : ¬ (1 ≤ s.size ∧ s.size ≤ 12)) : okB p s = false := by
  unfold okB
  rw [decide_eq_false h, Bool.false_and]

theorem byte_of (b : UInt8) : b.toNat < 46 ∨ b.toNat = 46 ∨ b.toNat = 47 ∨ (48 ≤ b.toNat ∧ b.toNat ≤ 57) ∨ (58 ≤ b.toNat ∧ b.toNat ≤ 63) ∨ b.toNat = 64 ∨ (65 ≤ b.toNat ∧ b.toNat ≤ 96) ∨ (97 ≤ b.toNat ∧ b.toNat ≤ 122) ∨ 123 ≤ b.toNat := by omega

theorem ret_b {a b : Bool} (h : a = b) : Ending.returned (.bool a) = .returned (.bool b) := by rw [h]

set_option maxHeartbeats 400000 in
theorem inNames_any (b : UInt8) (w : World) : Calls Try.prog 95 #[.int .u8 b.toNat] w fun e w' => e = .returned (.bool (nameB b)) ∧ w' = w := by
  have hb : b.toNat < 256 := b.toNat_lt
  obtain ⟨R, hR⟩ : ∃ R, nameB b = R := ⟨_, rfl⟩
  rw [hR]
  have HR : Hid (nameB b = R) := hR
  clear hR
  rcases byte_of b with h | h | h | ⟨h, h'⟩ | ⟨h, h'⟩ | h | ⟨h, h'⟩ | ⟨h, h'⟩ | h
  all_goals
    go_enter Try.func95, Try.ntmps95
    go_wp2
  all_goals
    go_ret
    refine ⟨ret_b ?_, rfl⟩
    have hR := HR.out
    unfold nameB at hR
    rw [← hR, Bool.eq_iff_iff]
    clear hR HR
    simp
    omega

def NmRel (p : UInt8 → Bool) (s : ByteArray) (w : World) (i : Value) (wr : World) : Prop := ∃ k : Nat, k ≤ s.size ∧ i = .int .i64 k ∧ Hid (∀ j (h : j < s.size), j < k → p s[j] = true) ∧ wr = w
theorem NmRel.step {p : UInt8 → Bool} {s : ByteArray} {k : Nat} (hk : k < s.size) (hp : p s[k] = true) (h : ∀ j (h : j < s.size), j < k → p s[j] = true) : Hid (∀ j (h : j < s.size), j < k + 1 → p s[j] = true) := by
  intro j hj hlt
  rcases Nat.lt_or_ge j k with h1 | h1
  · exact h j hj h1
  · have : j = k := by omega
    subst this
    exact hp

theorem not_empty (s : ByteArray) (h : 1 ≤ s.size) : s.toList.isEmpty = false := by
  rw [ByteArray.toList_eq, List.isEmpty_eq_false_iff]
  intro h0
  have : s.data.toList.length = 0 := by rw [h0]; rfl
  have h1 : s.data.toList.length = s.size := Array.length_toList
  omega
theorem is_empty (s : ByteArray) (h : s.size = 0) : s.toList.isEmpty = true := by
  rw [ByteArray.toList_eq, List.isEmpty_iff]
  have h1 : s.data.toList.length = s.size := Array.length_toList
  exact List.length_eq_zero_iff.1 (by omega)

set_option maxRecDepth 100000 in
set_option maxHeartbeats 1000000 in
theorem NameOk_any (s : ByteArray) (w : World) (hs : s.size ≤ 1048576) : Calls Try.prog 87 #[.string s] w fun e w' => e = .returned (.bool (okB nameB s)) ∧ w' = w := by
  by_cases h1 : s.size = 0
  · rw [okB_len _ _ (by omega)]
    have hne := is_empty s h1
    go_enter Try.func87, Try.ntmps87
    go_wp2
    go_ret
    exact ⟨rfl, rfl⟩
  · by_cases h2 : 12 < s.size
    · rw [okB_len _ _ (by omega)]
      have hne := not_empty s (by omega)
      go_enter Try.func87, Try.ntmps87
      go_wp2
      go_ret
      exact ⟨rfl, rfl⟩
    · have hne := not_empty s (by omega)
      obtain ⟨R, hR⟩ : ∃ R, okB nameB s = R := ⟨_, rfl⟩
      rw [hR]
      have HR : Hid (okB nameB s = R) := hR
      clear hR
      go_enter Try.func87, Try.ntmps87
      go_wp2
      go_loopw [13] (fun i wr => NmRel nameB s w i wr) (fun i _ => s.size - (intOf i).toNat)
      case atStart => exact ⟨0, by omega, rfl, by intro j _ h; omega, rfl⟩
      case round =>
        obtain ⟨k, hk, rfl, HI, rfl⟩ := hrel
        by_cases hlt : k < s.size
        · have i1 : (k : Int) < (s.size : Int) := by omega
          go_wp2_with fail
          refine (inNames_any s[k] _).mono ?_
          rintro e w1 ⟨rfl, rfl⟩
          cases hp : nameB s[k] with
          | true =>
            have HI2 := NmRel.step hlt hp HI.out
            clear HI
            go_wp2
            go_roundw
            case rel => exact ⟨k + 1, by omega, by go_num, HI2, rfl⟩
            case measure => simp [intOf]; omega
          | false =>
            have hF := okB_bad nameB s k hlt hp
            rw [HR.out] at hF
            subst hF
            go_wp2
            try rw [Exit.noGoto_ret]
            go_ret
            exact ⟨rfl, rfl⟩
        · have hF := okB_good nameB s (fun j hj => HI.out j hj (by omega))
          rw [HR.out, decide_eq_true (by omega)] at hF
          subst hF
          have i1 : ¬ ((k : Int) < (s.size : Int)) := by omega
          clear HI
          go_wp2
          go_ret
          exact ⟨rfl, rfl⟩

set_option maxRecDepth 100000 in
set_option maxHeartbeats 1000000 in
theorem sNameOk_any (s : ByteArray) (w : World) (hs : s.size ≤ 1048576) : Calls Try.prog 62 #[.string s] w fun e w' => e = .returned (.bool (okB nameB s)) ∧ w' = w := by
  obtain ⟨R, hR⟩ : ∃ R, okB nameB s = R := ⟨_, rfl⟩
  rw [hR]
  have HR : Hid (okB nameB s = R) := hR
  clear hR
  go_enter Try.func62, Try.ntmps62
  go_wp2
  go_loopw [3] (fun i wr => NmRel nameB s w i wr) (fun i _ => s.size - (intOf i).toNat)
  case atStart => exact ⟨0, by omega, rfl, by intro j _ h; omega, rfl⟩
  case round =>
    obtain ⟨k, hk, rfl, HI, rfl⟩ := hrel
    by_cases hlt : k < s.size
    · have i1 : (k : Int) < (s.size : Int) := by omega
      have hb : (s[k]).toNat < 256 := (s[k]).toNat_lt
      cases hp : nameB s[k] with
      | true =>
        have HI2 := NmRel.step hlt hp HI.out
        clear HI
        unfold nameB at hp
        rw [decide_eq_true_eq] at hp
        rcases hp with ⟨h1, h2⟩ | ⟨h1, h2⟩ | h1 | h1
        · go_wp2
          go_roundw
          case rel => exact ⟨k + 1, by omega, by go_num, HI2, rfl⟩
          case measure => simp [intOf]; omega
        · go_wp2
          go_roundw
          case rel => exact ⟨k + 1, by omega, by go_num, HI2, rfl⟩
          case measure => simp [intOf]; omega
        · go_wp2
          go_roundw
          case rel => exact ⟨k + 1, by omega, by go_num, HI2, rfl⟩
          case measure => simp [intOf]; omega
        · go_wp2
          go_roundw
          case rel => exact ⟨k + 1, by omega, by go_num, HI2, rfl⟩
          case measure => simp [intOf]; omega
      | false =>
        have hF := okB_bad nameB s k hlt hp
        rw [HR.out] at hF
        subst hF
        unfold nameB at hp
        rw [decide_eq_false_iff_not] at hp
        have n1 : ((s[k].toNat : Int) != 64) = true := by simp; omega
        have n2 : ((s[k].toNat : Int) != 46) = true := by simp; omega
        rcases (show s[k].toNat < 48 ∨ (57 < s[k].toNat ∧ s[k].toNat < 97) ∨ 122 < s[k].toNat from by omega) with h | ⟨h, h'⟩ | h
        · clear hp
          go_wp2
          go_ret
          exact ⟨rfl, rfl⟩
        · clear hp
          go_wp2
          go_ret
          exact ⟨rfl, rfl⟩
        · clear hp
          go_wp2
          go_ret
          exact ⟨rfl, rfl⟩
    · have hF := okB_good nameB s (fun j hj => HI.out j hj (by omega))
      rw [HR.out] at hF
      subst hF
      have i1 : ¬ ((k : Int) < (s.size : Int)) := by omega
      clear HI
      go_wp2_with fail
      refine (l01In_any _ _ _ _).mono ?_
      rintro e w' ⟨rfl, rfl⟩
      go_wp2
      go_ret
      exact ⟨ret_b (by rw [Bool.eq_iff_iff]; simp; omega), rfl⟩

set_option maxRecDepth 100000 in
set_option maxHeartbeats 1000000 in
theorem ValueOk_any (s : ByteArray) (w : World) (hs : s.size ≤ 1048576) : Calls Try.prog 60 #[.string s] w fun e w' => e = .returned (.bool (okB valB s)) ∧ w' = w := by
  by_cases h1 : s.size = 0
  · rw [okB_len _ _ (by omega)]
    have hne := is_empty s h1
    go_enter Try.func60, Try.ntmps60
    go_wp2
    go_ret
    exact ⟨rfl, rfl⟩
  · by_cases h2 : 12 < s.size
    · rw [okB_len _ _ (by omega)]
      have hne := not_empty s (by omega)
      go_enter Try.func60, Try.ntmps60
      go_wp2
      go_ret
      exact ⟨rfl, rfl⟩
    · have hne := not_empty s (by omega)
      obtain ⟨R, hR⟩ : ∃ R, okB valB s = R := ⟨_, rfl⟩
      rw [hR]
      have HR : Hid (okB valB s = R) := hR
      clear hR
      go_enter Try.func60, Try.ntmps60
      go_wp2
      go_loopw [13] (fun i wr => NmRel valB s w i wr) (fun i _ => s.size - (intOf i).toNat)
      case atStart => exact ⟨0, by omega, rfl, by intro j _ h; omega, rfl⟩
      case round =>
        obtain ⟨k, hk, rfl, HI, rfl⟩ := hrel
        by_cases hlt : k < s.size
        · have i1 : (k : Int) < (s.size : Int) := by omega
          have hb : (s[k]).toNat < 256 := (s[k]).toNat_lt
          cases hp : valB s[k] with
          | true =>
            have HI2 := NmRel.step hlt hp HI.out
            clear HI
            unfold valB at hp
            rw [decide_eq_true_eq] at hp
            obtain ⟨h1, h2⟩ := hp
            go_wp2
            go_roundw
            case rel => exact ⟨k + 1, by omega, by go_num, HI2, rfl⟩
            case measure => simp [intOf]; omega
          | false =>
            have hF := okB_bad valB s k hlt hp
            rw [HR.out] at hF
            subst hF
            unfold valB at hp
            rw [decide_eq_false_iff_not] at hp
            rcases (show s[k].toNat < 33 ∨ 126 < s[k].toNat from by omega) with h | h
            · clear hp HI
              go_wp2
              try rw [Exit.noGoto_ret]
              go_ret
              exact ⟨rfl, rfl⟩
            · clear hp HI
              go_wp2
              try rw [Exit.noGoto_ret]
              go_ret
              exact ⟨rfl, rfl⟩
        · have hF := okB_good valB s (fun j hj => HI.out j hj (by omega))
          rw [HR.out, decide_eq_true (by omega)] at hF
          subst hF
          have i1 : ¬ ((k : Int) < (s.size : Int)) := by omega
          clear HI
          go_wp2
          go_ret
          exact ⟨rfl, rfl⟩

set_option maxRecDepth 100000 in
set_option maxHeartbeats 1000000 in
theorem sValueOk_any (s : ByteArray) (w : World) (hs : s.size ≤ 1048576) : Calls Try.prog 63 #[.string s] w fun e w' => e = .returned (.bool (okB valB s)) ∧ w' = w := by
  obtain ⟨R, hR⟩ : ∃ R, okB valB s = R := ⟨_, rfl⟩
  rw [hR]
  have HR : Hid (okB valB s = R) := hR
  clear hR
  go_enter Try.func63, Try.ntmps63
  go_wp2
  go_loopw [3] (fun i wr => NmRel valB s w i wr) (fun i _ => s.size - (intOf i).toNat)
  case atStart => exact ⟨0, by omega, rfl, by intro j _ h; omega, rfl⟩
  case round =>
    obtain ⟨k, hk, rfl, HI, rfl⟩ := hrel
    by_cases hlt : k < s.size
    · have i1 : (k : Int) < (s.size : Int) := by omega
      have hb : (s[k]).toNat < 256 := (s[k]).toNat_lt
      cases hp : valB s[k] with
      | true =>
        have HI2 := NmRel.step hlt hp HI.out
        clear HI
        unfold valB at hp
        rw [decide_eq_true_eq] at hp
        obtain ⟨h1, h2⟩ := hp
        go_wp2
        go_roundw
        case rel => exact ⟨k + 1, by omega, by go_num, HI2, rfl⟩
        case measure => simp [intOf]; omega
      | false =>
        have hF := okB_bad valB s k hlt hp
        rw [HR.out] at hF
        subst hF
        unfold valB at hp
        rw [decide_eq_false_iff_not] at hp
        rcases (show s[k].toNat < 33 ∨ 126 < s[k].toNat from by omega) with h | h
        · clear hp HI
          go_wp2
          try rw [Exit.noGoto_ret]
          go_ret
          exact ⟨rfl, rfl⟩
        · clear hp HI
          go_wp2
          try rw [Exit.noGoto_ret]
          go_ret
          exact ⟨rfl, rfl⟩
    · have hF := okB_good valB s (fun j hj => HI.out j hj (by omega))
      rw [HR.out] at hF
      subst hF
      have i1 : ¬ ((k : Int) < (s.size : Int)) := by omega
      clear HI
      go_wp2_with fail
      refine (l01In_any _ _ _ _).mono ?_
      rintro e w' ⟨rfl, rfl⟩
      go_wp2
      go_ret
      exact ⟨ret_b (by rw [Bool.eq_iff_iff]; simp; omega), rfl⟩

/-- the bit of a number at a level -/
def bitI (x : Int) (y : Nat) : Int := bits .and .i64 (x / 2 ^ (7 - y)) 1
end Go.Proofs.Ytiabodhgjeoejaa
/-
  Changes as plain words: when one is right, its text; rows of changes as they lie in memory.
-/
namespace Go.Proofs.Ytiabodhgjeoejaa
open Go.RowKit Go.BigFrame Go.Sort
set_option linter.unusedVariables false
set_option linter.unusedSimpArgs false

structure Ug where
  i : Int
  n : ByteArray
  v : ByteArray

def ucs (x : Ug) : List Value := [.int .i64 x.i, .string x.n, .string x.v]
theorem ucs_len (x : Ug) : (ucs x).length = 3 := rfl
theorem RS.chg {w : World} {v : Value} {g o : Nat} {l : List Ug} (h : RS 3 ucs w v g o l) (j : Nat) (hj : j < l.length) :
    w.cell? ⟨g, o + j * 3, none⟩ = some (.int .i64 l[j].i) ∧ w.cell? ⟨g, o + j * 3 + 1, none⟩ = some (.string l[j].n) ∧ w.cell? ⟨g, o + j * 3 + 2, none⟩ = some (.string l[j].v) := by
  obtain ⟨a, c, _, _, _, hc⟩ := h
  exact ⟨hc j hj 0 _ rfl, hc j hj 1 _ rfl, hc j hj 2 _ rfl⟩

theorem below_drnU {B : Nat} {a w : World} (h : Below B a w) (n : Nat) : Below B a (w.drewN n) := h.trans ⟨rfl, rfl, rfl, Nat.le_refl _, fun _ _ => rfl⟩
/-- a change in its box -/
def BU (W : World) (p : Nat) (x : Ug) : Prop := W.heap[p]? = some (.cells #[.int .i64 x.i, .string x.n, .string x.v] 31 (0, 0))
theorem BU.new (w : World) (x : Ug) : BU (w.alloc (.cells #[.int .i64 x.i, .string x.n, .string x.v] 31)) w.heap.size x := Go.heap_alloc_new w _
theorem BU.lt {W : World} {p : Nat} {x : Ug} (h : BU W p x) : p < W.heap.size := (Array.getElem?_eq_some_iff.1 h).1
theorem BU.later {W W' : World} {p : Nat} {x : Ug} (h : BU W p x) (hb : Below W.heap.size W W') : BU W' p x := (hb.block p h.lt).trans h
theorem BU.grown {W W' : World} {p : Nat} {x : Ug} {row : Option Nat} (h : BU W p x) (hg : W.grownBy W' row) (hne : some p ≠ row) : BU W' p x := (hg.block p h.lt hne).trans h
theorem BU.range {W : World} {p : Nat} {x : Ug} (h : BU W p x) : W.rangeAt p 0 (ucs x) := fun j v hv => by
  rw [cell_of_row W p (0 + j) _ _ _ h, Nat.zero_add]
  simpa [ucs] using hv
theorem BU.c0 {W : World} {p : Nat} {x : Ug} (h : BU W p x) : W.cell? ⟨p, 0, none⟩ = some (.int .i64 x.i) := h.range 0 _ rfl
theorem BU.c1 {W : World} {p : Nat} {x : Ug} (h : BU W p x) : W.cell? ⟨p, 1, none⟩ = some (.string x.n) := h.range 1 _ rfl
theorem BU.c2 {W : World} {p : Nat} {x : Ug} (h : BU W p x) : W.cell? ⟨p, 2, none⟩ = some (.string x.v) := h.range 2 _ rfl
theorem BU.fz {W : World} {p : Nat} {x : Ug} (h : BU W p x) (j : Nat) : W.frozen? ⟨p, j, none⟩ = false := by simp [World.frozen?, show W.heap[p]? = _ from h]
theorem BU.there {W : World} {p : Nat} {x : Ug} (h : BU W p x) : W.there p 0 3 := fun j hj => by
  match j, hj with
  | 0, _ => exact ⟨by rw [h.c0]; rfl, h.fz _⟩
  | 1, _ => exact ⟨by rw [h.c1]; rfl, h.fz _⟩
  | 2, _ => exact ⟨by rw [h.c2]; rfl, h.fz _⟩
theorem BU.put {W : World} {p : Nat} {x : Ug} (h : BU W p x) (y : Ug) : BU (W.setCells p 0 (ucs y)) p y :=
  heap_setCell_same _ p 2 _ _ _ (heap_setCell_same _ p 1 _ _ _ (heap_setCell_same W p 0 _ _ _ h))
theorem BU.set0 {W : World} {p : Nat} {x : Ug} (h : BU W p x) (y : Int) : BU (W.setCell ⟨p, 0, none⟩ (.int .i64 y)) p ⟨y, x.n, x.v⟩ := heap_setCell_same W p 0 _ _ _ h
theorem BU.set1 {W : World} {p : Nat} {x : Ug} (h : BU W p x) (y : ByteArray) : BU (W.setCell ⟨p, 1, none⟩ (.string y)) p ⟨x.i, y, x.v⟩ := heap_setCell_same W p 1 _ _ _ h
theorem BU.set2 {W : World} {p : Nat} {x : Ug} (h : BU W p x) (y : ByteArray) : BU (W.setCell ⟨p, 2, none⟩ (.string y)) p ⟨x.i, x.n, y⟩ := heap_setCell_same W p 2 _ _ _ h

theorem sizeChange : (Try.prog.info? 31).map (·.size) = some 3 := by kernel_rfl
section
variable {fn : Func} {Rp : Ending → World → Prop} {a : Act} {w : World}
/-- a change answered out of its box -/
theorem ret_ug (c g : Nat) (x : Ug) (hres : fn.results = #[.cell c 31]) (hd : a.defers = []) (hp : a.tmps.getD c undef = .pointer (some ⟨g, 0, none⟩)) (hA : BU w g x) (h : Rp (.returned (.agg #[.int .i64 x.i, .string x.n, .string x.v])) w) : bodyPost Try.prog fn Rp .ret a w :=
  ret_rec c g 31 (ucs x) _ hres hd hp Try.underlying31 rfl sizeChange hA.range h
theorem ret_ug2 (c s g : Nat) (x : Ug) (b : Value) (hres : fn.results = #[.cell c 31, .tmp s]) (hd : a.defers = []) (hp : a.tmps.getD c undef = .pointer (some ⟨g, 0, none⟩)) (hb : a.tmps.getD s undef = b) (hA : BU w g x) (h : Rp (.returned (.tuple #[.agg #[.int .i64 x.i, .string x.n, .string x.v], b])) w) : bodyPost Try.prog fn Rp .ret a w :=
  ret_rec2 c s g 31 (ucs x) b _ hres hd hp hb Try.underlying31 rfl sizeChange hA.range h
end

namespace UV
/-- a value that may be, or none -/
def vOk (v : ByteArray) : Bool := v.toList.isEmpty || okB valB v
def okU (x : Ug) : Bool := decide (1 ≤ x.i ∧ x.i ≤ 99) && (okB nameB x.n && vOk x.v)
end UV

end Go.Proofs.Ytiabodhgjeoejaa
