/-
  Texts laid together: Dw, Fw, Nam, Mathb, Read.
-/
import Derived.Test.YtfiapodjiifmaaaGreatDoorPkP0
import Derived.Lib.QuietBelow
import Derived.BigQuiet
import Derived.Laws.Cover1
import Derived.Deep.QuietTactic
import Derived.Deep.RegionWith
/-
  When a disk is right: the program's and the specification's answers.
-/
namespace Go.Proofs.YtfiapodjiifmaaaGreatDoor
open Go.RowKit Go.BigFrame Go.Sort
set_option linter.unusedVariables false
set_option linter.unusedSimpArgs false

def DkR (L : List Fl) (B : Nat) (w : World) (i : Value) (wr : World) : Prop := ∃ m : Nat, m ≤ L.length ∧ i = .int .i64 m ∧ Hid (F.Upto L m) ∧ Below B w wr

end Go.Proofs.YtfiapodjiifmaaaGreatDoor
/-
  What the laws' own helpers do with files and disks: taken over, compared, weighed.
-/
namespace Go.Proofs.YtfiapodjiifmaaaGreatDoor
open Go.RowKit Go.BigFrame Go.Sort
set_option linter.unusedVariables false
set_option linter.unusedSimpArgs false

section
variable {fn : Func} {Rp : Ending → World → Prop} {a : Act} {w : World}
/-- a record answered out of its block -/
theorem ret_rec (c g T : Nat) (cs : List Value) (d : TypeDesc) (hres : fn.results = #[.cell c T]) (hd : a.defers = []) (hp : a.tmps.getD c undef = .pointer (some ⟨g, 0, none⟩))
    (hu : Tryz.prog.underlying T = some d) (hrow : d.isRow = true) (hi : (Tryz.prog.info? T).map (·.size) = some cs.length) (hA : w.rangeAt g 0 cs) (h : Rp (.returned (.agg cs.toArray)) w) : bodyPost Tryz.prog fn Rp .ret a w := by
  have hr := run_loadVar_mid (P := Tryz.prog) w g 0 T cs d hA hu hrow hi
  refine bodyPost_ret (v := .agg cs.toArray) ?_ hd h
  have hp' : a.tmps[c]?.getD undef = .pointer (some ⟨g, 0, none⟩) := by simpa using hp
  simp [results, hres, asAddr, hr, hp']
/-- .. and something beside it -/
theorem ret_rec2 (c s g T : Nat) (cs : List Value) (b : Value) (d : TypeDesc) (hres : fn.results = #[.cell c T, .tmp s]) (hd : a.defers = []) (hp : a.tmps.getD c undef = .pointer (some ⟨g, 0, none⟩)) (hb : a.tmps.getD s undef = b)
    (hu : Tryz.prog.underlying T = some d) (hrow : d.isRow = true) (hi : (Tryz.prog.info? T).map (·.size) = some cs.length) (hA : w.rangeAt g 0 cs) (h : Rp (.returned (.tuple #[.agg cs.toArray, b])) w) : bodyPost Tryz.prog fn Rp .ret a w := by
  have hr := run_loadVar_mid (P := Tryz.prog) w g 0 T cs d hA hu hrow hi
  refine bodyPost_ret (v := .tuple #[.agg cs.toArray, b]) ?_ hd h
  have hp' : a.tmps[c]?.getD undef = .pointer (some ⟨g, 0, none⟩) := by simpa using hp
  have hb' : a.tmps[s]?.getD undef = b := by simpa using hb
  simp [results, hres, asAddr, hr, hp', hb']
end

theorem range1 {w : World} {g o : Nat} {u : Value} (h : w.cell? ⟨g, o, none⟩ = some u) : w.rangeAt g o [u] := fun j v hv => by
  match j, hv with
  | 0, hv => simp at hv; subst hv; exact h
theorem range3 {w : World} {g o : Nat} {u1 u2 u3 : Value} (h1 : w.cell? ⟨g, o, none⟩ = some u1) (h2 : w.cell? ⟨g, o + 1, none⟩ = some u2) (h3 : w.cell? ⟨g, o + 2, none⟩ = some u3) : w.rangeAt g o [u1, u2, u3] := fun j v hv => by
  match j, hv with
  | 0, hv => simp at hv; subst hv; exact h1
  | 1, hv => simp at hv; subst hv; exact h2
  | 2, hv => simp at hv; subst hv; exact h3
theorem range_new (W : World) (cs : List Value) (T : Nat) : (W.alloc (.cells cs.toArray T)).rangeAt W.heap.size 0 cs := fun j v hv => by
  rw [cell_of_row _ W.heap.size (0 + j) cs.toArray T (0, 0) (Go.heap_alloc_new W _), Nat.zero_add]
  simpa using hv
theorem range_at {W : World} {g g' o : Nat} {cs : List Value} (e : g = g') (h : W.rangeAt g o cs) : W.rangeAt g' o cs := e ▸ h
theorem size_setCells (b : Nat) : ∀ (vs : List Value) (o : Nat) (w : World), (w.setCells b o vs).heap.size = w.heap.size
  | [], _, _ => rfl
  | v :: r, o, w => by
    rw [World.setCells, size_setCells b r]
    simp
theorem below_setCells {B b : Nat} {w0 : World} (hB : B ≤ b) : ∀ (vs : List Value) (o : Nat) (w : World), Below B w0 w → Below B w0 (w.setCells b o vs)
  | [], _, _, h => h
  | v :: r, o, w, h => below_setCells hB r (o + 1) _ (h.setCell (p := ⟨b, o, none⟩) hB v)
theorem there3 {w : World} {g o : Nat} (h : w.there g o 3) : (∃ u, w.cell? ⟨g, o, none⟩ = some u) ∧ (∃ u, w.cell? ⟨g, o + 1, none⟩ = some u) ∧ (∃ u, w.cell? ⟨g, o + 2, none⟩ = some u) ∧ w.frozen? ⟨g, o, none⟩ = false ∧ w.frozen? ⟨g, o + 1, none⟩ = false ∧ w.frozen? ⟨g, o + 2, none⟩ = false :=
  ⟨Option.isSome_iff_exists.1 (h 0 (by omega)).1, Option.isSome_iff_exists.1 (h 1 (by omega)).1, Option.isSome_iff_exists.1 (h 2 (by omega)).1, (h 0 (by omega)).2, (h 1 (by omega)).2, (h 2 (by omega)).2⟩
theorem grown_setC (w : World) (g j : Nat) (v : Value) : w.grownBy (w.setCell ⟨g, j, none⟩ v) (some g) :=
  ⟨rfl, rfl, rfl, by simp, fun i _ hi => RowKit.Below.heap_setCell _ _ _ _ (fun e => hi (by rw [e]))⟩
theorem alloc_fst (w : World) (o : Obj) {g : Nat} (h : g = w.heap.size) : (w.alloc o).heap[g]? = some o := h ▸ Go.heap_alloc_new w o
theorem alloc_snd (w : World) (o1 o2 : Obj) {g : Nat} (h : g = w.heap.size) : ((w.alloc o1).alloc o2).heap[g]? = some o1 := (Below.heap_alloc _ _ g (by simp; omega)).trans (alloc_fst w o1 h)
theorem cell_set_same {w : World} {g j : Nat} {cs : Array Value} {T : Nat} (h : w.heap[g]? = some (.cells cs T (0, 0))) (hj : j < cs.size) (v : Value) : (w.setCell ⟨g, j, none⟩ v).cell? ⟨g, j, none⟩ = some v := by
  rw [cell_of_row _ g j _ T (0, 0) (heap_setCell_same w g j _ _ _ h)]
  simp [hj]
theorem there_new {W : World} {cs : Array Value} {T n : Nat} (h : cs.size = n * 3) (j : Nat) (hj : j < n) : (W.alloc (.cells cs T)).there W.heap.size (j * 3) 3 := by
  intro i hi
  have hg := Go.heap_alloc_new W (.cells cs T)
  refine ⟨?_, by unfold World.frozen?; simp only [hg]; simp⟩
  rw [cell_of_row _ W.heap.size (j * 3 + i) cs T (0, 0) hg, Array.getElem?_eq_getElem (by omega)]
  rfl
/-- the first m records of a new row are written -/
def ToF (w : World) (l : List Fl) (B g : Nat) (i : Value) (wr : World) : Prop := ∃ m : Nat, m ≤ l.length ∧ i = .int .i64 m ∧ (∀ j (h : j < l.length), j < m → wr.rangeAt g (j * 3) (fcs l[j])) ∧ (∀ j, j < l.length → wr.there g (j * 3) 3) ∧ Below B w wr
theorem ToF.set {w wr : World} {l : List Fl} {g m B : Nat} (hm : m < l.length) (hB : B ≤ g) (h1 : ∀ j (h : j < l.length), j < m → wr.rangeAt g (j * 3) (fcs l[j])) (h2 : ∀ j, j < l.length → wr.there g (j * 3) 3) (h3 : Below B w wr) :
    (∀ j (h : j < l.length), j < m + 1 → (wr.setCells g (m * 3) (fcs l[m])).rangeAt g (j * 3) (fcs l[j])) ∧ (∀ j, j < l.length → (wr.setCells g (m * 3) (fcs l[m])).there g (j * 3) 3) ∧ Below B w (wr.setCells g (m * 3) (fcs l[m])) := by
  refine ⟨fun j hj hlt => ?_, fun j hj => World.there_setCells (h2 j hj) _ _ _, ?_⟩
  · rcases Nat.lt_or_ge j m with h4 | h4
    · exact World.rangeAt_setCells_apart (h1 j hj h4) _ _ _ (.inr (.inl (by rw [fcs_len]; omega)))
    · have : j = m := by omega
      subst this
      exact World.rangeAt_setCells_same _ _ _ _ (h2 j hj)
  · exact below_setCells hB _ _ _ h3

/-- a disk answered: its row may be written, and lies in blocks from B on -/
def DkIn (w : World) (B : Nat) (v : Value) (l : List Fl) : Prop := ∃ s g, v = .agg #[s] ∧ RW 3 fcs w s g l ∧ B ≤ g

def EfR (n : Nat) (w : World) (i : Value) (wr : World) : Prop := ∃ m : Nat, m ≤ n ∧ i = .int .i64 m ∧ Below w.heap.size w wr

/-- a row of files that was handed in, great or small: if it is small, it is l -/
def IsRowF (w : World) (v : Value) (g o : Nat) (l : List Fl) : Prop := ∃ a n cap, v = .slice a n cap ∧ n ≤ 9223372036854775807 ∧ (n ≤ 1100000 → l.length = n ∧ RS 3 fcs w v g o l ∧ ∀ f ∈ l, f.n.size ≤ 9223372036854775807 ∧ f.t.size ≤ 9223372036854775807)
theorem IsRowF.later {w w' : World} {v : Value} {g o : Nat} {l : List Fl} (h : IsRowF w v g o l) (hb : Below w.heap.size w w') : IsRowF w' v g o l := by
  obtain ⟨a, n, cap, hv, hn, hr⟩ := h
  exact ⟨a, n, cap, hv, hn, fun hl => ⟨(hr hl).1, (hr hl).2.1.later hb, (hr hl).2.2⟩⟩
/-- no text of it is great -/
def SmallF (l : List Fl) : Prop := ∀ f ∈ l, f.n.size ≤ 1048576 ∧ f.t.size ≤ 1048576

def SzF (l : List Fl) (x0 : Int) (w : World) (x i : Value) (wr : World) : Prop := ∃ (m : Nat) (y : Int), m ≤ l.length ∧ i = .int .i64 m ∧ x = .int .i64 y ∧ 0 ≤ y ∧ y ≤ x0 ∧ Hid (∀ j (h : j < l.length), j < m → l[j].n.size ≤ 1048576 ∧ l[j].t.size ≤ 1048576) ∧ Below w.heap.size w wr

/-- the box of a disk -/
def BD (W : World) (p T : Nat) (v : Value) : Prop := W.heap[p]? = some (.cells #[v] T (0, 0))
theorem BD.cell {W : World} {p T : Nat} {v : Value} (h : BD W p T v) : W.cell? ⟨p, 0, none⟩ = some v := by rw [cell_of_row W p 0 _ _ (0, 0) h]; rfl
theorem BD.lt {W : World} {p T : Nat} {v : Value} (h : BD W p T v) : p < W.heap.size := (Array.getElem?_eq_some_iff.1 h).1
theorem BD.later {W W' : World} {p T : Nat} {v : Value} (h : BD W p T v) (hb : Below W.heap.size W W') : BD W' p T v := by
  have hlt := h.lt
  unfold BD at *
  rw [hb.block p hlt, h]
theorem BD.grown {W W' : World} {p T : Nat} {v : Value} {row : Option Nat} (h : BD W p T v) (hg : W.grownBy W' row) (hne : some p ≠ row) : BD W' p T v := by
  have hlt := h.lt
  unfold BD at *
  rw [hg.block p hlt hne, h]
theorem BD.new (w : World) (T : Nat) (v : Value) : BD (w.alloc (.cells #[v] T)) w.heap.size T v := Go.heap_alloc_new w _
theorem BD.range {W : World} {p T : Nat} {v : Value} (h : BD W p T v) : W.rangeAt p 0 [v] := range1 h.cell
theorem RS.back {α : Type} {k : Nat} {enc : α → List Value} {w : World} {v : Value} {g o : Nat} {l : List α} (x : Obj) (h : RS k enc (w.alloc x) v g o l) (hg : 0 < l.length → g < w.heap.size) : RS k enc w v g o l := by
  obtain ⟨a, c, hv, hl, h0, hc⟩ := h
  exact ⟨a, c, hv, hl, fun hp => ⟨(h0 hp).1, hg hp⟩, fun j hj => range_kept (hc j hj) (Below.heap_alloc _ _ g (hg (by omega))).symm⟩

end Go.Proofs.YtfiapodjiifmaaaGreatDoor
/-
  What NameOk, ValueOk and BitOf answer, the program's and the specification's.
-/
namespace Go.Proofs.YtfiapodjiifmaaaGreatDoor
open Go.RowKit
set_option linter.unusedVariables false

def nameB (b : UInt8) : Bool := decide ((97 ≤ b.toNat ∧ b.toNat ≤ 122) ∨ (48 ≤ b.toNat ∧ b.toNat ≤ 57) ∨ b.toNat = 64 ∨ b.toNat = 46)
def valB (b : UInt8) : Bool := decide (33 ≤ b.toNat ∧ b.toNat ≤ 126)
/-- one to twelve bytes, each as p wants it -/
def okB (p : UInt8 → Bool) (s : ByteArray) : Bool := decide (1 ≤ s.size ∧ s.size ≤ 12) && s.data.toList.all p

theorem okB_bad (p : UInt8 → Bool) (s : ByteArray) (k : Nat) (h : k < s.size) (hb : p s[k] = false) : okB p s = false := by
  unfold okB
  have : s.data.toList.all p = false := by
    rw [List.all_eq_false]
    exact ⟨s[k], by rw [ByteArray.getElem_eq_getElem_data]; exact Array.getElem_mem_toList .., by simp [hb]⟩
  rw [this, Bool.and_false]
theorem okB_good (p : UInt8 → Bool) (s : ByteArray) (h : ∀ k (h : k < s.size), p s[k] = true) : okB p s = decide (1 ≤ s.size ∧ s.size ≤ 12) := by
  unfold okB
  have : s.data.toList.all p = true := by
    rw [List.all_eq_true]
    intro x hx
    obtain ⟨k, hk, rfl⟩ := List.getElem_of_mem hx
    have hk' : k < s.size := by simpa using hk
    have := h k hk'
    rw [ByteArray.getElem_eq_getElem_data] at this
    simpa using this
  rw [this, Bool.and_true]
theorem okB_len (p : UInt8 → Bool) (s : ByteArray) (h : ¬ (1 ≤ s.size ∧ s.size ≤ 12)) : okB p s = false := by
  unfold okB
  rw [decide_eq_false h, Bool.false_and]

theorem byte_of (b : UInt8) : b.toNat < 46 ∨ b.toNat = 46 ∨ b.toNat = 47 ∨ (48 ≤ b.toNat ∧ b.toNat ≤ 57) ∨ (58 ≤ b.toNat ∧ b.toNat ≤ 63) ∨ b.toNat = 64 ∨ (65 ≤ b.toNat ∧ b.toNat ≤ 96) ∨ (97 ≤ b.toNat ∧ b.toNat ≤ 122) ∨ 123 ≤ b.toNat := by omega

theorem ret_b {a b : Bool} (h : a = b) : Ending.returned (.bool a) = .returned (.bool b) := by rw [h]

set_option maxHeartbeats 400000 in
theorem inNames_any (b : UInt8) (w : World) : Calls Tryz.prog 51 #[.int .u8 b.toNat] w fun e w' => e = .returned (.bool (nameB b)) ∧ w' = w := by
  have hb : b.toNat < 256 := b.toNat_lt
  obtain ⟨R, hR⟩ : ∃ R, nameB b = R := ⟨_, rfl⟩
  rw [hR]
  have HR : Hid (nameB b = R) := hR
  clear hR
  rcases byte_of b with h | h | h | ⟨h, h'⟩ | ⟨h, h'⟩ | h | ⟨h, h'⟩ | ⟨h, h'⟩ | h
  all_goals
    go_enter Tryz.func51, Tryz.ntmps51
    go_wp2
  all_goals
    go_ret
    refine ⟨ret_b ?_, rfl⟩
    have hR := HR.out
    unfold nameB at hR
    rw [← hR, Bool.eq_iff_iff]
    clear hR HR
    simp
    omega

def NmRel (p : UInt8 → Bool) (s : ByteArray) (w : World) (i : Value) (wr : World) : Prop := ∃ k : Nat, k ≤ s.size ∧ i = .int .i64 k ∧ Hid (∀ j (h : j < s.size), j < k → p s[j] = true) ∧ wr = w
theorem NmRel.step {p : UInt8 → Bool} {s : ByteArray} {k : Nat} (hk : k < s.size) (hp : p s[k] = true) (h : ∀ j (h : j < s.size), j < k → p s[j] = true) : Hid (∀ j (h : j < s.size), j < k + 1 → p s[j] = true) := by
  intro j hj hlt
  rcases Nat.lt_or_ge j k with h1 | h1
  · exact h j hj h1
  · have : j = k := by omega
    subst this
    exact hp

theorem not_empty (s : ByteArray) (h : 1 ≤ s.size) : s.toList.isEmpty = false := by
  rw [ByteArray.toList_eq, List.isEmpty_eq_false_iff]
  intro h0
  have : s.data.toList.length = 0 := by rw [h0]; rfl
  have h1 : s.data.toList.length = s.size := Array.length_toList
  omega
theorem is_empty (s : ByteArray) (h : s.size = 0) : s.toList.isEmpty = true := by
  rw [ByteArray.toList_eq, List.isEmpty_iff]
  have h1 : s.data.toList.length = s.size := Array.length_toList
  exact List.length_eq_zero_iff.1 (by omega)

set_option maxRecDepth 100000 in
set_option maxHeartbeats 1000000 in
theorem NameOk_any (s : ByteArray) (w : World) (hs : s.size ≤ 1048576) : Calls Tryz.prog 21 #[.string s] w fun e w' => e = .returned (.bool (okB nameB s)) ∧ w' = w := by
  by_cases h1 : s.size = 0
  · rw [okB_len _ _ (by omega)]
    have hne := is_empty s h1
    go_enter Tryz.func21, Tryz.ntmps21
    go_wp2
    go_ret
    exact ⟨rfl, rfl⟩
  · by_cases h2 : 12 < s.size
    · rw [okB_len _ _ (by omega)]
      have hne := not_empty s (by omega)
      go_enter Tryz.func21, Tryz.ntmps21
      go_wp2
      go_ret
      exact ⟨rfl, rfl⟩
    · have hne := not_empty s (by omega)
      obtain ⟨R, hR⟩ : ∃ R, okB nameB s = R := ⟨_, rfl⟩
      rw [hR]
      have HR : Hid (okB nameB s = R) := hR
      clear hR
      go_enter Tryz.func21, Tryz.ntmps21
      go_wp2
      go_loopw [13] (fun i wr => NmRel nameB s w i wr) (fun i _ => s.size - (intOf i).toNat)
      case atStart => exact ⟨0, by omega, rfl, by intro j _ h; omega, rfl⟩
      case round =>
        obtain ⟨k, hk, rfl, HI, rfl⟩ := hrel
        by_cases hlt : k < s.size
        · have i1 : (k : Int) < (s.size : Int) := by omega
          go_wp2_with fail
          refine (inNames_any s[k] _).mono ?_
          rintro e w1 ⟨rfl, rfl⟩
          cases hp : nameB s[k] with
          | true =>
            have HI2 := NmRel.step hlt hp HI.out
            clear HI
            go_wp2
            go_roundw
            case rel => exact ⟨k + 1, by omega, by go_num, HI2, rfl⟩
            case measure => simp [intOf]; omega
          | false =>
            have hF := okB_bad nameB s k hlt hp
            rw [HR.out] at hF
            subst hF
            go_wp2
            try rw [Exit.noGoto_ret]
            go_ret
            exact ⟨rfl, rfl⟩
        · have hF := okB_good nameB s (fun j hj => HI.out j hj (by omega))
          rw [HR.out, decide_eq_true (by omega)] at hF
          subst hF
          have i1 : ¬ ((k : Int) < (s.size : Int)) := by omega
          clear HI
          go_wp2
          go_ret
          exact ⟨rfl, rfl⟩

set_option maxRecDepth 100000 in
set_option maxHeartbeats 1000000 in
theorem sNameOk_any (s : ByteArray) (w : World) (hs : s.size ≤ 1048576) : Calls Tryz.prog 87 #[.string s] w fun e w' => e = .returned (.bool (okB nameB s)) ∧ w' = w := by
  obtain ⟨R, hR⟩ : ∃ R, okB nameB s = R := ⟨_, rfl⟩
  rw [hR]
  have HR : Hid (okB nameB s = R) := hR
  clear hR
  go_enter Tryz.func87, Tryz.ntmps87
  go_wp2
  go_loopw [3] (fun i wr => NmRel nameB s w i wr) (fun i _ => s.size - (intOf i).toNat)
  case atStart => exact ⟨0, by omega, rfl, by intro j _ h; omega, rfl⟩
  case round =>
    obtain ⟨k, hk, rfl, HI, rfl⟩ := hrel
    by_cases hlt : k < s.size
    · have i1 : (k : Int) < (s.size : Int) := by omega
      have hb : (s[k]).toNat < 256 := (s[k]).toNat_lt
      cases hp : nameB s[k] with
      | true =>
        have HI2 := NmRel.step hlt hp HI.out
        clear HI
        unfold nameB at hp
        rw [decide_eq_true_eq] at hp
        rcases hp with ⟨h1, h2⟩ | ⟨h1, h2⟩ | h1 | h1
        · go_wp2
          go_roundw
          case rel => exact ⟨k + 1, by omega, by go_num, HI2, rfl⟩
          case measure => simp [intOf]; omega
        · go_wp2
          go_roundw
          case rel => exact ⟨k + 1, by omega, by go_num, HI2, rfl⟩
          case measure => simp [intOf]; omega
        · go_wp2
          go_roundw
          case rel => exact ⟨k + 1, by omega, by go_num, HI2, rfl⟩
          case measure => simp [intOf]; omega
        · go_wp2
          go_roundw
          case rel => exact ⟨k + 1, by omega, by go_num, HI2, rfl⟩
          case measure => simp [intOf]; omega
      | false =>
        have hF := okB_bad nameB s k hlt hp
        rw [HR.out] at hF
        subst hF
        unfold nameB at hp
        rw [decide_eq_false_iff_not] at hp
        have n1 : ((s[k].toNat : Int) != 64) = true := by simp; omega
        have n2 : ((s[k].toNat : Int) != 46) = true := by simp; omega
        rcases (show s[k].toNat < 48 ∨ (57 < s[k].toNat ∧ s[k].toNat < 97) ∨ 122 < s[k].toNat from by omega) with h | ⟨h, h'⟩ | h
        · clear hp
          go_wp2
          go_ret
          exact ⟨rfl, rfl⟩
        · clear hp
          go_wp2
          go_ret
          exact ⟨rfl, rfl⟩
        · clear hp
          go_wp2
          go_ret
          exact ⟨rfl, rfl⟩
    · have hF := okB_good nameB s (fun j hj => HI.out j hj (by omega))
      rw [HR.out] at hF
      subst hF
      have i1 : ¬ ((k : Int) < (s.size : Int)) := by omega
      clear HI
      go_wp2_with fail
      refine (l01In_any _ _ _ _).mono ?_
      rintro e w' ⟨rfl, rfl⟩
      go_wp2
      go_ret
      exact ⟨ret_b (by rw [Bool.eq_iff_iff]; simp; omega), rfl⟩

set_option maxRecDepth 100000 in
set_option maxHeartbeats 1000000 in
theorem ValueOk_any (s : ByteArray) (w : World) (hs : s.size ≤ 1048576) : Calls Tryz.prog 72 #[.string s] w fun e w' => e = .returned (.bool (okB valB s)) ∧ w' = w := by
  by_cases h1 : s.size = 0
  · rw [okB_len _ _ (by omega)]
    have hne := is_empty s h1
    go_enter Tryz.func72, Tryz.ntmps72
    go_wp2
    go_ret
    exact ⟨rfl, rfl⟩
  · by_cases h2 : 12 < s.size
    · rw [okB_len _ _ (by omega)]
      have hne := not_empty s (by omega)
      go_enter Tryz.func72, Tryz.ntmps72
      go_wp2
      go_ret
      exact ⟨rfl, rfl⟩
    · have hne := not_empty s (by omega)
      obtain ⟨R, hR⟩ : ∃ R, okB valB s = R := ⟨_, rfl⟩
      rw [hR]
      have HR : Hid (okB valB s = R) := hR
      clear hR
      go_enter Tryz.func72, Tryz.ntmps72
      go_wp2
      go_loopw [13] (fun i wr => NmRel valB s w i wr) (fun i _ => s.size - (intOf i).toNat)
      case atStart => exact ⟨0, by omega, rfl, by intro j _ h; omega, rfl⟩
      case round =>
        obtain ⟨k, hk, rfl, HI, rfl⟩ := hrel
        by_cases hlt : k < s.size
        · have i1 : (k : Int) < (s.size : Int) := by omega
          have hb : (s[k]).toNat < 256 := (s[k]).toNat_lt
          cases hp : valB s[k] with
          | true =>
            have HI2 := NmRel.step hlt hp HI.out
            clear HI
            unfold valB at hp
            rw [decide_eq_true_eq] at hp
            obtain ⟨h1, h2⟩ := hp
            go_wp2
            go_roundw
            case rel => exact ⟨k + 1, by omega, by go_num, HI2, rfl⟩
            case measure => simp [intOf]; omega
          | false =>
            have hF := okB_bad valB s k hlt hp
            rw [HR.out] at hF
            subst hF
            unfold valB at hp
            rw [decide_eq_false_iff_not] at hp
            rcases (show s[k].toNat < 33 ∨ 126 < s[k].toNat from by omega) with h | h
            · clear hp HI
              go_wp2
              try rw [Exit.noGoto_ret]
              go_ret
              exact ⟨rfl, rfl⟩
            · clear hp HI
              go_wp2
              try rw [Exit.noGoto_ret]
              go_ret
              exact ⟨rfl, rfl⟩
        · have hF := okB_good valB s (fun j hj => HI.out j hj (by omega))
          rw [HR.out, decide_eq_true (by omega)] at hF
          subst hF
          have i1 : ¬ ((k : Int) < (s.size : Int)) := by omega
          clear HI
          go_wp2
          go_ret
          exact ⟨rfl, rfl⟩

set_option maxRecDepth 100000 in
set_option maxHeartbeats 1000000 in
theorem sValueOk_any (s : ByteArray) (w : World) (hs : s.size ≤ 1048576) : Calls Tryz.prog 88 #[.string s] w fun e w' => e = .returned (.bool (okB valB s)) ∧ w' = w := by
  obtain ⟨R, hR⟩ : ∃ R, okB valB s = R := ⟨_, rfl⟩
  rw [hR]
  have HR : Hid (okB valB s = R) := hR
  clear hR
  go_enter Tryz.func88, Tryz.ntmps88
  go_wp2
  go_loopw [3] (fun i wr => NmRel valB s w i wr) (fun i _ => s.size - (intOf i).toNat)
  case atStart => exact ⟨0, by omega, rfl, by intro j _ h; omega, rfl⟩
  case round =>
    obtain ⟨k, hk, rfl, HI, rfl⟩ := hrel
    by_cases hlt : k < s.size
    · have i1 : (k : Int) < (s.size : Int) := by omega
      have hb : (s[k]).toNat < 256 := (s[k]).toNat_lt
      cases hp : valB s[k] with
      | true =>
        have HI2 := NmRel.step hlt hp HI.out
        clear HI
        unfold valB at hp
        rw [decide_eq_true_eq] at hp
        obtain ⟨h1, h2⟩ := hp
        go_wp2
        go_roundw
        case rel => exact ⟨k + 1, by omega, by go_num, HI2, rfl⟩
        case measure => simp [intOf]; omega
      | false =>
        have hF := okB_bad valB s k hlt hp
        rw [HR.out] at hF
        subst hF
        unfold valB at hp
        rw [decide_eq_false_iff_not] at hp
        rcases (show s[k].toNat < 33 ∨ 126 < s[k].toNat from by omega) with h | h
        · clear hp HI
          go_wp2
          try rw [Exit.noGoto_ret]
          go_ret
          exact ⟨rfl, rfl⟩
        · clear hp HI
          go_wp2
          try rw [Exit.noGoto_ret]
          go_ret
          exact ⟨rfl, rfl⟩
    · have hF := okB_good valB s (fun j hj => HI.out j hj (by omega))
      rw [HR.out] at hF
      subst hF
      have i1 : ¬ ((k : Int) < (s.size : Int)) := by omega
      clear HI
      go_wp2_with fail
      refine (l01In_any _ _ _ _).mono ?_
      rintro e w' ⟨rfl, rfl⟩
      go_wp2
      go_ret
      exact ⟨ret_b (by rw [Bool.eq_iff_iff]; simp; omega), rfl⟩

theorem BitOf_no (x y : Int) (w : World) (h : y < 0 ∨ 7 < y) : Calls Tryz.prog 38 #[.int .i64 x, .int .i64 y] w fun e w' => e = .returned (.int .i64 0) ∧ w' = w := by
  rcases h with h | h
  · go_enter Tryz.func38, Tryz.ntmps38
    go_wp2
    go_ret
    exact ⟨rfl, rfl⟩
  · have h' : ¬ y < 0 := by omega
    go_enter Tryz.func38, Tryz.ntmps38
    go_wp2
    go_ret
    exact ⟨rfl, rfl⟩
/-- the bit of a number at a level -/
def bitI (x : Int) (y : Nat) : Int := bits .and .i64 (x / 2 ^ (7 - y)) 1
theorem BitOf_yes (x : Int) (y : Nat) (w : World) (h : y ≤ 7) : Calls Tryz.prog 38 #[.int .i64 x, .int .i64 y] w fun e w' => e = .returned (.int .i64 (bitI x y)) ∧ w' = w := by
  go_enter Tryz.func38, Tryz.ntmps38
  go_wp2
  go_ret
  exact ⟨rfl, rfl⟩
end Go.Proofs.YtfiapodjiifmaaaGreatDoor
/-
  Plain facts on reading a number that stands in bytes, step by step.
-/
namespace Go.Proofs.YtfiapodjiifmaaaGreatDoor.M

theorem pow7 (k : Nat) : (2 : Nat) ^ (7 * k) = 128 ^ k := by rw [Nat.pow_mul]

theorem sh_eq (b k : Nat) : ((b : Int) % 128 * 2 ^ (7 * k)) = ((b % 128 * 128 ^ k : Nat) : Int) := by
  have h : ((2 ^ (7 * k) : Nat) : Int) = (2 : Int) ^ (7 * k) := by simp
  rw [← h, pow7]
  simp

theorem pow_le5 (k : Nat) (h : k ≤ 4) : 128 ^ k ≤ 268435456 := by
  have := Nat.pow_le_pow_right (show 0 < 128 by omega) h
  simpa using this

theorem sh_le (b k : Nat) (h : k ≤ 4) : b % 128 * 128 ^ k ≤ 127 * 268435456 :=
  Nat.mul_le_mul (by omega) (pow_le5 k h)

theorem acc_lt (N b k : Nat) (h : N < 128 ^ k) : N + b % 128 * 128 ^ k < 128 ^ (k + 1) := by
  have h1 : b % 128 * 128 ^ k ≤ 127 * 128 ^ k := Nat.mul_le_mul_right _ (by omega)
  have h2 : 128 ^ (k + 1) = 128 ^ k * 128 := Nat.pow_succ ..
  omega

theorem rv_more (s : List UInt8) (p k N : Nat) (b : UInt8) (hk : k < 5) (hb : s[p + k]? = some b) (h : 127 < b.toNat) :
    rv s p (5 - k) k N = rv s p (5 - (k + 1)) (k + 1) (N + b.toNat % 128 * 128 ^ k) := by
  have e : 5 - k = (5 - (k + 1)) + 1 := by omega
  rw [e]
  simp only [rv, hb]
  rw [if_pos (by omega)]

theorem rv_no (s : List UInt8) (p k N : Nat) (b : UInt8) (hk : k < 5) (hb : s[p + k]? = some b) (h : ¬ 127 < b.toNat) (hn : (b.toNat = 0 ∧ 0 < k) ∨ 1000000000 < N + b.toNat % 128 * 128 ^ k) :
    rv s p (5 - k) k N = none := by
  have e : 5 - k = (5 - (k + 1)) + 1 := by omega
  rw [e]
  simp only [rv, hb]
  rw [if_neg (by omega), if_pos hn]

theorem rv_yes (s : List UInt8) (p k N : Nat) (b : UInt8) (hk : k < 5) (hb : s[p + k]? = some b) (h : ¬ 127 < b.toNat) (hn : ¬ ((b.toNat = 0 ∧ 0 < k) ∨ 1000000000 < N + b.toNat % 128 * 128 ^ k)) :
    rv s p (5 - k) k N = some (N + b.toNat % 128 * 128 ^ k, p + k + 1) := by
  have e : 5 - k = (5 - (k + 1)) + 1 := by omega
  rw [e]
  simp only [rv, hb]
  rw [if_neg (by omega), if_neg hn]

theorem rv_end (s : List UInt8) (p k N : Nat) (h : ¬ (k < 5 ∧ p + k < s.length)) : rv s p (5 - k) k N = none := by
  by_cases hk : k < 5
  · have e : 5 - k = (5 - (k + 1)) + 1 := by omega
    rw [e]
    have hb : s[p + k]? = none := by simp; omega
    simp only [rv, hb]
  · have e : 5 - k = 0 := by omega
    rw [e]
    rfl

end Go.Proofs.YtfiapodjiifmaaaGreatDoor.M
/-
  What ReadVar answers, the program's and the specification's: M.readVar of the text and the place.
-/
namespace Go.Proofs.YtfiapodjiifmaaaGreatDoor
open Go.RowKit
set_option linter.unusedVariables false

/-- the three results of ReadVar -/
def rvOut : Option (Nat × Nat) → Array Value
  | none => #[.int .i64 0, .int .i64 0, .bool false]
  | some (n, q) => #[.int .i64 n, .int .i64 q, .bool true]

theorem ReadVar_out (s : ByteArray) (p : Int) (w : World) (hs : s.size ≤ 1048576) (hp : p < 0 ∨ (s.size : Int) < p) :
    Calls Tryz.prog 85 #[.string s, .int .i64 p] w fun e w' => e = .returned (.tuple (rvOut none)) ∧ w' = w := by
  rcases hp with h | h
  · go_enter Tryz.func85, Tryz.ntmps85
    go_wp2
    go_ret3
    exact ⟨rfl, rfl⟩
  · have h' : ¬ p < 0 := by omega
    go_enter Tryz.func85, Tryz.ntmps85
    go_wp2
    go_ret3
    exact ⟨rfl, rfl⟩

theorem get_l (s : ByteArray) (j : Nat) (h : j < s.size) : s.data.toList[j]? = some s[j] := by
  simp [ByteArray.getElem_eq_getElem_data]

/-- what the loop of ReadVar holds at each round's head -/
def ReadRel (s : ByteArray) (p : Nat) (n i : Value) : Prop :=
  ∃ k N : Nat, k ≤ 5 ∧ p + k ≤ s.size ∧ i = .int .i64 k ∧ n = .int .i64 N ∧ N < 128 ^ k ∧ M.readVar s.data.toList p = M.rv s.data.toList p (5 - k) k N

theorem tuple_none {o : Option (Nat × Nat)} (h : o = none) : Ending.returned (.tuple #[.int .i64 0, .int .i64 0, .bool false]) = .returned (.tuple (rvOut o)) := by rw [h]; rfl
theorem tuple_some {o : Option (Nat × Nat)} {a b : Int} {n q : Nat} (h : o = some (n, q)) (ha : a = n) (hb : b = q) : Ending.returned (.tuple #[.int .i64 a, .int .i64 b, .bool true]) = .returned (.tuple (rvOut o)) := by rw [h, ha, hb]; rfl

set_option maxHeartbeats 1000000 in
theorem ReadVar_in (s : ByteArray) (p : Nat) (w : World) (hs : s.size ≤ 1048576) (hp : p ≤ s.size) :
    Calls Tryz.prog 85 #[.string s, .int .i64 p] w fun e w' => e = .returned (.tuple (rvOut (M.readVar s.data.toList p))) ∧ w' = w := by
  have hp0 : ¬ ((p : Int) < 0) := by omega
  have hp1 : ¬ (s.size : Int) < (p : Int) := by omega
  by_cases h5 : 5 < s.size - p
  all_goals
    go_enter Tryz.func85, Tryz.ntmps85
    go_wp2
    go_loop [7, 23] (fun n i => ReadRel s p n i) (fun _ i => 5 - (intOf i).toNat)
    case atStart => exact ⟨0, 0, by omega, by omega, rfl, rfl, by omega, rfl⟩
    case round =>
      obtain ⟨k, N, hk, hpk, rfl, rfl, hN, he⟩ := hrel
      have HE : Hid (M.readVar s.data.toList p = M.rv s.data.toList p (5 - k) k N) := he
      clear he
      by_cases hkk : k < 5 ∧ p + k < s.size
      · obtain ⟨hk5, hlt⟩ := hkk
        have hb : s[p + k].toNat < 256 := s[p + k].toNat_lt
        have hx : 0 ≤ (s[p + k].toNat : Int) % 128 * 2 ^ (7 * k) ∧ (s[p + k].toNat : Int) % 128 * 2 ^ (7 * k) ≤ 34359738368 := by
          rw [M.sh_eq]
          have := M.sh_le s[p + k].toNat k (by omega)
          omega
        obtain ⟨hx0, hx1⟩ := hx
        have hN5 : N ≤ 268435456 := Nat.le_trans (Nat.le_of_lt hN) (M.pow_le5 k (by omega))
        have hacc := M.acc_lt N s[p + k].toNat k hN
        have HX : Hid ((s[p + k].toNat : Int) % 128 * 2 ^ (7 * k) = ((s[p + k].toNat % 128 * 128 ^ k : Nat) : Int)) := M.sh_eq _ _
        have hget := get_l s (p + k) hlt
        have HG : Hid (s.data.toList[p + k]? = some s[p + k]) := hget
        clear hget
        by_cases hbb : 127 < s[p + k].toNat
        · go_wp2
          go_round
          case rel =>
            refine ⟨k + 1, N + s[p + k].toNat % 128 * 128 ^ k, by omega, by omega, by go_num, ?_, hacc, ?_⟩
            · have hxe := HX.out
              congr 1
              omega
            · rw [HE.out, M.rv_more _ _ _ _ _ hk5 HG.out hbb]
          case measure => simp [intOf]; omega
        · have HT : Hid (s[p + k].toNat = 0 → s[p + k].toNat % 128 * 128 ^ k = 0) := fun h => by rw [h]; simp
          go_wp2
          all_goals
            go_ret3
            refine ⟨?_, rfl⟩
            have hxe := HX.out
            have hT0 := HT.out
            by_cases hd : (s[p + k].toNat = 0 ∧ 0 < k) ∨ 1000000000 < N + s[p + k].toNat % 128 * 128 ^ k
            · have hv := HE.out.trans (M.rv_no _ _ _ _ _ hk5 HG.out hbb hd)
              first | exact tuple_none hv | (exfalso; omega)
            · have hv := HE.out.trans (M.rv_yes _ _ _ _ _ hk5 HG.out hbb hd)
              first | (exfalso; omega) | (refine tuple_some hv ?_ ?_ <;> omega)
      · go_wp2
        go_ret3
        exact ⟨tuple_none (by rw [HE.out, M.rv_end _ _ _ _ (by simpa using hkk)]), rfl⟩

end Go.Proofs.YtfiapodjiifmaaaGreatDoor
