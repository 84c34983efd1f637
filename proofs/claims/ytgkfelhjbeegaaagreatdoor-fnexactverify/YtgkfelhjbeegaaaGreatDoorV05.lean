/-
  Texts laid together: Ha, Nam, Mathb, Read.
-/
import Derived.Test.YtgkfelhjbeegaaaGreatDoorV04
import Derived.Test.YtgkfelhjbeegaaaGreatDoorV01
import Derived.Deep.QuietTactic
import Derived.BigQuiet
import Derived.Deep.RegionWith
/-
  Heads as plain words: when one is right, its text; rows of heads as they lie in memory.
-/
namespace Go.Proofs.YtgkfelhjbeegaaaGreatDoor
open Go.RowKit Go.BigFrame Go.Sort
set_option linter.unusedVariables false
set_option linter.unusedSimpArgs false

structure Hd where
  h : Int
  e : Int
  r : ByteArray
  p : ByteArray

def hcs (x : Hd) : List Value := [.int .i64 x.h, .int .i64 x.e, .string x.r, .string x.p]
theorem hcs_len (x : Hd) : (hcs x).length = 4 := rfl
theorem RS.head {w : World} {v : Value} {g o : Nat} {l : List Hd} (h : RS 4 hcs w v g o l) (j : Nat) (hj : j < l.length) :
    w.cell? ⟨g, o + j * 4, none⟩ = some (.int .i64 l[j].h) ∧ w.cell? ⟨g, o + j * 4 + 1, none⟩ = some (.int .i64 l[j].e) ∧ w.cell? ⟨g, o + j * 4 + 2, none⟩ = some (.string l[j].r) ∧ w.cell? ⟨g, o + j * 4 + 3, none⟩ = some (.string l[j].p) := by
  obtain ⟨a, c, _, _, _, hc⟩ := h
  exact ⟨hc j hj 0 _ rfl, hc j hj 1 _ rfl, hc j hj 2 _ rfl, hc j hj 3 _ rfl⟩
theorem there4h {w : World} {g o : Nat} (h : w.there g o 4) : (∃ u, w.cell? ⟨g, o, none⟩ = some u) ∧ (∃ u, w.cell? ⟨g, o + 1, none⟩ = some u) ∧ (∃ u, w.cell? ⟨g, o + 2, none⟩ = some u) ∧ (∃ u, w.cell? ⟨g, o + 3, none⟩ = some u) ∧ w.frozen? ⟨g, o, none⟩ = false ∧ w.frozen? ⟨g, o + 1, none⟩ = false ∧ w.frozen? ⟨g, o + 2, none⟩ = false ∧ w.frozen? ⟨g, o + 3, none⟩ = false :=
  ⟨Option.isSome_iff_exists.1 (h 0 (by omega)).1, Option.isSome_iff_exists.1 (h 1 (by omega)).1, Option.isSome_iff_exists.1 (h 2 (by omega)).1, Option.isSome_iff_exists.1 (h 3 (by omega)).1, (h 0 (by omega)).2, (h 1 (by omega)).2, (h 2 (by omega)).2, (h 3 (by omega)).2⟩

theorem below_drnH {B : Nat} {a w : World} (h : Below B a w) (n : Nat) : Below B a (w.drewN n) := h.trans ⟨rfl, rfl, rfl, Nat.le_refl _, fun _ _ => rfl⟩
/-- a head in its box -/
def BH (W : World) (p : Nat) (x : Hd) : Prop := W.heap[p]? = some (.cells #[.int .i64 x.h, .int .i64 x.e, .string x.r, .string x.p] 46 (0, 0))
theorem BH.new (w : World) (x : Hd) : BH (w.alloc (.cells #[.int .i64 x.h, .int .i64 x.e, .string x.r, .string x.p] 46)) w.heap.size x := Go.heap_alloc_new w _
theorem BH.lt {W : World} {p : Nat} {x : Hd} (h : BH W p x) : p < W.heap.size := (Array.getElem?_eq_some_iff.1 h).1
theorem BH.later {W W' : World} {p : Nat} {x : Hd} (h : BH W p x) (hb : Below W.heap.size W W') : BH W' p x := (hb.block p h.lt).trans h
theorem BH.grown {W W' : World} {p : Nat} {x : Hd} {row : Option Nat} (h : BH W p x) (hg : W.grownBy W' row) (hne : some p ≠ row) : BH W' p x := (hg.block p h.lt hne).trans h
theorem BH.range {W : World} {p : Nat} {x : Hd} (h : BH W p x) : W.rangeAt p 0 (hcs x) := fun j v hv => by
  rw [cell_of_row W p (0 + j) _ _ _ h, Nat.zero_add]
  simpa [hcs] using hv
theorem BH.c0 {W : World} {p : Nat} {x : Hd} (h : BH W p x) : W.cell? ⟨p, 0, none⟩ = some (.int .i64 x.h) := h.range 0 _ rfl
theorem BH.c1 {W : World} {p : Nat} {x : Hd} (h : BH W p x) : W.cell? ⟨p, 1, none⟩ = some (.int .i64 x.e) := h.range 1 _ rfl
theorem BH.c2 {W : World} {p : Nat} {x : Hd} (h : BH W p x) : W.cell? ⟨p, 2, none⟩ = some (.string x.r) := h.range 2 _ rfl
theorem BH.c3 {W : World} {p : Nat} {x : Hd} (h : BH W p x) : W.cell? ⟨p, 3, none⟩ = some (.string x.p) := h.range 3 _ rfl
theorem BH.fz {W : World} {p : Nat} {x : Hd} (h : BH W p x) (j : Nat) : W.frozen? ⟨p, j, none⟩ = false := by simp [World.frozen?, show W.heap[p]? = _ from h]
theorem BH.there {W : World} {p : Nat} {x : Hd} (h : BH W p x) : W.there p 0 4 := fun j hj => by
  match j, hj with
  | 0, _ => exact ⟨by rw [h.c0]; rfl, h.fz _⟩
  | 1, _ => exact ⟨by rw [h.c1]; rfl, h.fz _⟩
  | 2, _ => exact ⟨by rw [h.c2]; rfl, h.fz _⟩
  | 3, _ => exact ⟨by rw [h.c3]; rfl, h.fz _⟩
theorem BH.put {W : World} {p : Nat} {x : Hd} (h : BH W p x) (y : Hd) : BH (W.setCells p 0 (hcs y)) p y :=
  heap_setCell_same _ p 3 _ _ _ (heap_setCell_same _ p 2 _ _ _ (heap_setCell_same _ p 1 _ _ _ (heap_setCell_same W p 0 _ _ _ h)))
theorem BH.set0 {W : World} {p : Nat} {x : Hd} (h : BH W p x) (y : Int) : BH (W.setCell ⟨p, 0, none⟩ (.int .i64 y)) p ⟨y, x.e, x.r, x.p⟩ := heap_setCell_same W p 0 _ _ _ h
theorem BH.set1 {W : World} {p : Nat} {x : Hd} (h : BH W p x) (y : Int) : BH (W.setCell ⟨p, 1, none⟩ (.int .i64 y)) p ⟨x.h, y, x.r, x.p⟩ := heap_setCell_same W p 1 _ _ _ h
theorem BH.set2 {W : World} {p : Nat} {x : Hd} (h : BH W p x) (y : ByteArray) : BH (W.setCell ⟨p, 2, none⟩ (.string y)) p ⟨x.h, x.e, y, x.p⟩ := heap_setCell_same W p 2 _ _ _ h
theorem BH.set3 {W : World} {p : Nat} {x : Hd} (h : BH W p x) (y : ByteArray) : BH (W.setCell ⟨p, 3, none⟩ (.string y)) p ⟨x.h, x.e, x.r, y⟩ := heap_setCell_same W p 3 _ _ _ h

theorem sizeHead : (Tryz.prog.info? 46).map (·.size) = some 4 := by kernel_rfl
section
variable {fn : Func} {Rp : Ending → World → Prop} {a : Act} {w : World}
/-- a head answered out of its box -/
theorem ret_hd (c g : Nat) (x : Hd) (hres : fn.results = #[.cell c 46]) (hd : a.defers = []) (hp : a.tmps.getD c undef = .pointer (some ⟨g, 0, none⟩)) (hA : BH w g x) (h : Rp (.returned (.agg #[.int .i64 x.h, .int .i64 x.e, .string x.r, .string x.p])) w) : bodyPost Tryz.prog fn Rp .ret a w :=
  ret_rec c g 46 (hcs x) _ hres hd hp Tryz.underlying46 rfl sizeHead hA.range h
theorem ret_hd2 (c s g : Nat) (x : Hd) (b : Value) (hres : fn.results = #[.cell c 46, .tmp s]) (hd : a.defers = []) (hp : a.tmps.getD c undef = .pointer (some ⟨g, 0, none⟩)) (hb : a.tmps.getD s undef = b) (hA : BH w g x) (h : Rp (.returned (.tuple #[.agg #[.int .i64 x.h, .int .i64 x.e, .string x.r, .string x.p], b])) w) : bodyPost Tryz.prog fn Rp .ret a w :=
  ret_rec2 c s g 46 (hcs x) b _ hres hd hp hb Tryz.underlying46 rfl sizeHead hA.range h
end

namespace HV
def pw (e : Int) : Nat := if e = 1 then 0 else 16
def OkH (x : Hd) : Prop := (0 ≤ x.h ∧ x.h < 3) ∧ (1 ≤ x.e ∧ x.e ≤ 4) ∧ x.r.size = 16 ∧ x.p.size = pw x.e
def okH (x : Hd) : Bool := decide ((0 ≤ x.h ∧ x.h < 3) ∧ (1 ≤ x.e ∧ x.e ≤ 4) ∧ x.r.size = 16 ∧ x.p.size = pw x.e)
theorem okH_iff {x : Hd} : okH x = true ↔ OkH x := by
  unfold okH OkH
  exact decide_eq_true_iff
theorem okH_no {x : Hd} : okH x = false ↔ ¬ OkH x := by
  unfold okH OkH
  exact decide_eq_false_iff_not
/-- its text, when it is right -/
def txtH (x : Hd) : ByteArray := ⟨#[UInt8.ofNat x.h.toNat, UInt8.ofNat x.e.toNat]⟩ ++ x.r ++ x.p
/-- .. and else nothing -/
def textH (x : Hd) : ByteArray := if okH x = true then txtH x else ⟨#[]⟩
end HV

end Go.Proofs.YtgkfelhjbeegaaaGreatDoor
/-
  What NameOk, ValueOk and BitOf answer, the program's and the specification's.
-/
namespace Go.Proofs.YtgkfelhjbeegaaaGreatDoor
open Go.RowKit
set_option linter.unusedVariables false

def nameB (b : UInt8) : Bool := decide ((97 ≤ b.toNat ∧ b.toNat ≤ 122) ∨ (48 ≤ b.toNat ∧ b.toNat ≤ 57) ∨ b.toNat = 64 ∨ b.toNat = 46)
def valB (b : UInt8) : Bool := decide (33 ≤ b.toNat ∧ b.toNat ≤ 126)
/-- one to twelve bytes, each as p wants it -/
def okB (p : UInt8 → Bool) (s : ByteArray) : Bool := decide (1 ≤ s.size ∧ s.size ≤ 12) && s.data.toList.all p

theorem okB_bad (p : UInt8 → Bool) (s : ByteArray) (k : Nat) (h : k < s.size) (hb : p s[k] = false) : okB p s = false := by
  unfold okB
  have : s.data.toList.all p = false := by
    rw [List.all_eq_false]
    exact ⟨s[k], by rw [ByteArray.getElem_eq_getElem_data]; exact Array.getElem_mem_toList .., by simp [hb]⟩
  rw [this, Bool.and_false]
theorem okB_good (p : UInt8 → Bool) (s : ByteArray) (h : ∀ k (h : k < s.size), p s[k] = true) : okB p s = decide (1 ≤ s.size ∧ s.size ≤ 12) := by
  unfold okB
  have : s.data.toList.all p = true := by
    rw [List.all_eq_true]
    intro x hx
    obtain ⟨k, hk, rfl⟩ := List.getElem_of_mem hx
    have hk' : k < s.size := by simpa using hk
    have := h k hk'
    rw [ByteArray.getElem_eq_getElem_data] at this
    simpa using this
  rw [this, Bool.and_true]
theorem okB_len (p : UInt8 → Bool) (s : ByteArray) (h : ¬ (1 ≤ s.size ∧ s.size ≤ 12)) : okB p s = false := by
  unfold okB
  rw [decide_eq_false h, Bool.false_and]

theorem byte_of (b : UInt8) : b.toNat < 46 ∨ b.toNat = 46 ∨ b.toNat = 47 ∨ (48 ≤ b.toNat ∧ b.toNat ≤ 57) ∨ (58 ≤ b.toNat ∧ b.toNat ≤ 63) ∨ b.toNat = 64 ∨ (65 ≤ b.toNat ∧ b.toNat ≤ 96) ∨ (97 ≤ b.toNat ∧ b.toNat ≤ 122) ∨ 123 ≤ b.toNat := by omega

theorem ret_b {a b : Bool} (h : a = b) : Ending.returned (.bool a) = .returned (.bool b) := by rw [h]

set_option maxHeartbeats 400000 in
theorem inNames_any (b : UInt8) (w : World) : Calls Tryz.prog 115 #[.int .u8 b.toNat] w fun e w' => e = .returned (.bool (nameB b)) ∧ w' = w := by
  have hb : b.toNat < 256 := b.toNat_lt
  obtain ⟨R, hR⟩ : ∃ R, nameB b = R := ⟨_, rfl⟩
  rw [hR]
  have HR : Hid (nameB b = R) := hR
  clear hR
  rcases byte_of b with h | h | h | ⟨h, h'⟩ | ⟨h, h'⟩ | h | ⟨h, h'⟩ | ⟨h, h'⟩ | h
  all_goals
    go_enter Tryz.func115, Tryz.ntmps115
    go_wp2
  all_goals
    go_ret
    refine ⟨ret_b ?_, rfl⟩
    have hR := HR.out
    unfold nameB at hR
    rw [← hR, Bool.eq_iff_iff]
    clear hR HR
    simp
    omega

def NmRel (p : UInt8 → Bool) (s : ByteArray) (w : World) (i : Value) (wr : World) : Prop := ∃ k : Nat, k ≤ s.size ∧ i = .int .i64 k ∧ Hid (∀ j (h : j < s.size), j < k → p s[j] = true) ∧ wr = w
theorem NmRel.step {p : UInt8 → Bool} {s : ByteArray} {k : Nat} (hk : k < s.size) (hp : p s[k] = true) (h : ∀ j (h : j < s.size), j < k → p s[j] = true) : Hid (∀ j (h : j < s.size), j < k + 1 → p s[j] = true) := by
  intro j hj hlt
  rcases Nat.lt_or_ge j k with h1 | h1
  · exact h j hj h1
  · have : j = k := by omega
    subst this
    exact hp

theorem not_empty (s : ByteArray) (h : 1 ≤ s.size) : s.toList.isEmpty = false := by
  rw [ByteArray.toList_eq, List.isEmpty_eq_false_iff]
  intro h0
  have : s.data.toList.length = 0 := by rw [h0]; rfl
  have h1 : s.data.toList.length = s.size := Array.length_toList
  omega
theorem is_empty (s : ByteArray) (h : s.size = 0) : s.toList.isEmpty = true := by
  rw [ByteArray.toList_eq, List.isEmpty_iff]
  have h1 : s.data.toList.length = s.size := Array.length_toList
  exact List.length_eq_zero_iff.1 (by omega)

set_option maxRecDepth 100000 in
set_option maxHeartbeats 1000000 in
theorem NameOk_any (s : ByteArray) (w : World) (hs : s.size ≤ 1048576) : Calls Tryz.prog 99 #[.string s] w fun e w' => e = .returned (.bool (okB nameB s)) ∧ w' = w := by
  by_cases h1 : s.size = 0
  · rw [okB_len _ _ (by omega)]
    have hne := is_empty s h1
    go_enter Tryz.func99, Tryz.ntmps99
    go_wp2
    go_ret
    exact ⟨rfl, rfl⟩
  · by_cases h2 : 12 < s.size
    · rw [okB_len _ _ (by omega)]
      have hne := not_empty s (by omega)
      go_enter Tryz.func99, Tryz.ntmps99
      go_wp2
      go_ret
      exact ⟨rfl, rfl⟩
    · have hne := not_empty s (by omega)
      obtain ⟨R, hR⟩ : ∃ R, okB nameB s = R := ⟨_, rfl⟩
      rw [hR]
      have HR : Hid (okB nameB s = R) := hR
      clear hR
      go_enter Tryz.func99, Tryz.ntmps99
      go_wp2
      go_loopw [13] (fun i wr => NmRel nameB s w i wr) (fun i _ => s.size - (intOf i).toNat)
      case atStart => exact ⟨0, by omega, rfl, by intro j _ h; omega, rfl⟩
      case round =>
        obtain ⟨k, hk, rfl, HI, rfl⟩ := hrel
        by_cases hlt : k < s.size
        · have i1 : (k : Int) < (s.size : Int) := by omega
          go_wp2_with fail
          refine (inNames_any s[k] _).mono ?_
          rintro e w1 ⟨rfl, rfl⟩
          cases hp : nameB s[k] with
          | true =>
            have HI2 := NmRel.step hlt hp HI.out
            clear HI
            go_wp2
            go_roundw
            case rel => exact ⟨k + 1, by omega, by go_num, HI2, rfl⟩
            case measure => simp [intOf]; omega
          | false =>
            have hF := okB_bad nameB s k hlt hp
            rw [HR.out] at hF
            subst hF
            go_wp2
            try rw [Exit.noGoto_ret]
            go_ret
            exact ⟨rfl, rfl⟩
        · have hF := okB_good nameB s (fun j hj => HI.out j hj (by omega))
          rw [HR.out, decide_eq_true (by omega)] at hF
          subst hF
          have i1 : ¬ ((k : Int) < (s.size : Int)) := by omega
          clear HI
          go_wp2
          go_ret
          exact ⟨rfl, rfl⟩

set_option maxRecDepth 100000 in
set_option maxHeartbeats 1000000 in
theorem sNameOk_any (s : ByteArray) (w : World) (hs : s.size ≤ 1048576) : Calls Tryz.prog 68 #[.string s] w fun e w' => e = .returned (.bool (okB nameB s)) ∧ w' = w := by
  obtain ⟨R, hR⟩ : ∃ R, okB nameB s = R := ⟨_, rfl⟩
  rw [hR]
  have HR : Hid (okB nameB s = R) := hR
  clear hR
  go_enter Tryz.func68, Tryz.ntmps68
  go_wp2
  go_loopw [3] (fun i wr => NmRel nameB s w i wr) (fun i _ => s.size - (intOf i).toNat)
  case atStart => exact ⟨0, by omega, rfl, by intro j _ h; omega, rfl⟩
  case round =>
    obtain ⟨k, hk, rfl, HI, rfl⟩ := hrel
    by_cases hlt : k < s.size
    · have i1 : (k : Int) < (s.size : Int) := by omega
      have hb : (s[k]).toNat < 256 := (s[k]).toNat_lt
      cases hp : nameB s[k] with
      | true =>
        have HI2 := NmRel.step hlt hp HI.out
        clear HI
        unfold nameB at hp
        rw [decide_eq_true_eq] at hp
        rcases hp with ⟨h1, h2⟩ | ⟨h1, h2⟩ | h1 | h1
        · go_wp2
          go_roundw
          case rel => exact ⟨k + 1, by omega, by go_num, HI2, rfl⟩
          case measure => simp [intOf]; omega
        · go_wp2
          go_roundw
          case rel => exact ⟨k + 1, by omega, by go_num, HI2, rfl⟩
          case measure => simp [intOf]; omega
        · go_wp2
          go_roundw
          case rel => exact ⟨k + 1, by omega, by go_num, HI2, rfl⟩
          case measure => simp [intOf]; omega
        · go_wp2
          go_roundw
          case rel => exact ⟨k + 1, by omega, by go_num, HI2, rfl⟩
          case measure => simp [intOf]; omega
      | false =>
        have hF := okB_bad nameB s k hlt hp
        rw [HR.out] at hF
        subst hF
        unfold nameB at hp
        rw [decide_eq_false_iff_not] at hp
        have n1 : ((s[k].toNat : Int) != 64) = true := by simp; omega
        have n2 : ((s[k].toNat : Int) != 46) = true := by simp; omega
        rcases (show s[k].toNat < 48 ∨ (57 < s[k].toNat ∧ s[k].toNat < 97) ∨ 122 < s[k].toNat from by omega) with h | ⟨h, h'⟩ | h
        · clear hp
          go_wp2
          go_ret
          exact ⟨rfl, rfl⟩
        · clear hp
          go_wp2
          go_ret
          exact ⟨rfl, rfl⟩
        · clear hp
          go_wp2
          go_ret
          exact ⟨rfl, rfl⟩
    · have hF := okB_good nameB s (fun j hj => HI.out j hj (by omega))
      rw [HR.out] at hF
      subst hF
      have i1 : ¬ ((k : Int) < (s.size : Int)) := by omega
      clear HI
      go_wp2_with fail
      refine (l01In_any _ _ _ _).mono ?_
      rintro e w' ⟨rfl, rfl⟩
      go_wp2
      go_ret
      exact ⟨ret_b (by rw [Bool.eq_iff_iff]; simp; omega), rfl⟩

set_option maxRecDepth 100000 in
set_option maxHeartbeats 1000000 in
theorem ValueOk_any (s : ByteArray) (w : World) (hs : s.size ≤ 1048576) : Calls Tryz.prog 134 #[.string s] w fun e w' => e = .returned (.bool (okB valB s)) ∧ w' = w := by
  by_cases h1 : s.size = 0
  · rw [okB_len _ _ (by omega)]
    have hne := is_empty s h1
    go_enter Tryz.func134, Tryz.ntmps134
    go_wp2
    go_ret
    exact ⟨rfl, rfl⟩
  · by_cases h2 : 12 < s.size
    · rw [okB_len _ _ (by omega)]
      have hne := not_empty s (by omega)
      go_enter Tryz.func134, Tryz.ntmps134
      go_wp2
      go_ret
      exact ⟨rfl, rfl⟩
    · have hne := not_empty s (by omega)
      obtain ⟨R, hR⟩ : ∃ R, okB valB s = R := ⟨_, rfl⟩
      rw [hR]
      have HR : Hid (okB valB s = R) := hR
      clear hR
      go_enter Tryz.func134, Tryz.ntmps134
      go_wp2
      go_loopw [13] (fun i wr => NmRel valB s w i wr) (fun i _ => s.size - (intOf i).toNat)
      case atStart => exact ⟨0, by omega, rfl, by intro j _ h; omega, rfl⟩
      case round =>
        obtain ⟨k, hk, rfl, HI, rfl⟩ := hrel
        by_cases hlt : k < s.size
        · have i1 : (k : Int) < (s.size : Int) := by omega
          have hb : (s[k]).toNat < 256 := (s[k]).toNat_lt
          cases hp : valB s[k] with
          | true =>
            have HI2 := NmRel.step hlt hp HI.out
            clear HI
            unfold valB at hp
            rw [decide_eq_true_eq] at hp
            obtain ⟨h1, h2⟩ := hp
            go_wp2
            go_roundw
            case rel => exact ⟨k + 1, by omega, by go_num, HI2, rfl⟩
            case measure => simp [intOf]; omega
          | false =>
            have hF := okB_bad valB s k hlt hp
            rw [HR.out] at hF
            subst hF
            unfold valB at hp
            rw [decide_eq_false_iff_not] at hp
            rcases (show s[k].toNat < 33 ∨ 126 < s[k].toNat from by omega) with h | h
            · clear hp HI
              go_wp2
              try rw [Exit.noGoto_ret]
              go_ret
              exact ⟨rfl, rfl⟩
            · clear hp HI
              go_wp2
              try rw [Exit.noGoto_ret]
              go_ret
              exact ⟨rfl, rfl⟩
        · have hF := okB_good valB s (fun j hj => HI.out j hj (by omega))
          rw [HR.out, decide_eq_true (by omega)] at hF
          subst hF
          have i1 : ¬ ((k : Int) < (s.size : Int)) := by omega
          clear HI
          go_wp2
          go_ret
          exact ⟨rfl, rfl⟩

set_option maxRecDepth 100000 in
set_option maxHeartbeats 1000000 in
theorem sValueOk_any (s : ByteArray) (w : World) (hs : s.size ≤ 1048576) : Calls Tryz.prog 93 #[.string s] w fun e w' => e = .returned (.bool (okB valB s)) ∧ w' = w := by
  obtain ⟨R, hR⟩ : ∃ R, okB valB s = R := ⟨_, rfl⟩
  rw [hR]
  have HR : Hid (okB valB s = R) := hR
  clear hR
  go_enter Tryz.func93, Tryz.ntmps93
  go_wp2
  go_loopw [3] (fun i wr => NmRel valB s w i wr) (fun i _ => s.size - (intOf i).toNat)
  case atStart => exact ⟨0, by omega, rfl, by intro j _ h; omega, rfl⟩
  case round =>
    obtain ⟨k, hk, rfl, HI, rfl⟩ := hrel
    by_cases hlt : k < s.size
    · have i1 : (k : Int) < (s.size : Int) := by omega
      have hb : (s[k]).toNat < 256 := (s[k]).toNat_lt
      cases hp : valB s[k] with
      | true =>
        have HI2 := NmRel.step hlt hp HI.out
        clear HI
        unfold valB at hp
        rw [decide_eq_true_eq] at hp
        obtain ⟨h1, h2⟩ := hp
        go_wp2
        go_roundw
        case rel => exact ⟨k + 1, by omega, by go_num, HI2, rfl⟩
        case measure => simp [intOf]; omega
      | false =>
        have hF := okB_bad valB s k hlt hp
        rw [HR.out] at hF
        subst hF
        unfold valB at hp
        rw [decide_eq_false_iff_not] at hp
        rcases (show s[k].toNat < 33 ∨ 126 < s[k].toNat from by omega) with h | h
        · clear hp HI
          go_wp2
          try rw [Exit.noGoto_ret]
          go_ret
          exact ⟨rfl, rfl⟩
        · clear hp HI
          go_wp2
          try rw [Exit.noGoto_ret]
          go_ret
          exact ⟨rfl, rfl⟩
    · have hF := okB_good valB s (fun j hj => HI.out j hj (by omega))
      rw [HR.out] at hF
      subst hF
      have i1 : ¬ ((k : Int) < (s.size : Int)) := by omega
      clear HI
      go_wp2_with fail
      refine (l01In_any _ _ _ _).mono ?_
      rintro e w' ⟨rfl, rfl⟩
      go_wp2
      go_ret
      exact ⟨ret_b (by rw [Bool.eq_iff_iff]; simp; omega), rfl⟩

theorem BitOf_no (x y : Int) (w : World) (h : y < 0 ∨ 7 < y) : Calls Tryz.prog 110 #[.int .i64 x, .int .i64 y] w fun e w' => e = .returned (.int .i64 0) ∧ w' = w := by
  rcases h with h | h
  · go_enter Tryz.func110, Tryz.ntmps110
    go_wp2
    go_ret
    exact ⟨rfl, rfl⟩
  · have h' : ¬ y < 0 := by omega
    go_enter Tryz.func110, Tryz.ntmps110
    go_wp2
    go_ret
    exact ⟨rfl, rfl⟩
theorem sBitOf_no (x y : Int) (w : World) (h : y < 0 ∨ 7 < y) : Calls Tryz.prog 45 #[.int .i64 x, .int .i64 y] w fun e w' => e = .returned (.int .i64 0) ∧ w' = w := by
  have hd : decide ((0 : Int) ≤ y ∧ y ≤ 7) = false := by simp; omega
  go_enter Tryz.func45, Tryz.ntmps45
  go_wp2_with fail
  refine (l01In_any _ _ _ _).mono ?_
  rintro e w' ⟨rfl, rfl⟩
  rw [hd]
  go_wp2
  go_ret
  exact ⟨rfl, rfl⟩
/-- the bit of a number at a level -/
def bitI (x : Int) (y : Nat) : Int := bits .and .i64 (x / 2 ^ (7 - y)) 1
theorem BitOf_yes (x : Int) (y : Nat) (w : World) (h : y ≤ 7) : Calls Tryz.prog 110 #[.int .i64 x, .int .i64 y] w fun e w' => e = .returned (.int .i64 (bitI x y)) ∧ w' = w := by
  go_enter Tryz.func110, Tryz.ntmps110
  go_wp2
  go_ret
  exact ⟨rfl, rfl⟩
theorem sBitOf_yes (x : Int) (y : Nat) (w : World) (h : y ≤ 7) : Calls Tryz.prog 45 #[.int .i64 x, .int .i64 y] w fun e w' => e = .returned (.int .i64 (bitI x y)) ∧ w' = w := by
  have hd : decide ((0 : Int) ≤ (y : Int) ∧ (y : Int) ≤ 7) = true := by simp; omega
  go_enter Tryz.func45, Tryz.ntmps45
  go_wp2_with fail
  refine (l01In_any _ _ _ _).mono ?_
  rintro e w' ⟨rfl, rfl⟩
  rw [hd]
  go_wp2
  go_ret
  exact ⟨rfl, rfl⟩

end Go.Proofs.YtgkfelhjbeegaaaGreatDoor
/-
  Plain facts on reading a number that stands in bytes, step by step.
-/
namespace Go.Proofs.YtgkfelhjbeegaaaGreatDoor.M

theorem pow7 (k : Nat) : (2 : Nat) ^ (7 * k) = 128 ^ k := by rw [Nat.pow_mul]

theorem sh_eq (b k : Nat) : ((b : Int) % 128 * 2 ^ (7 * k)) = ((b % 128 * 128 ^ k : Nat) : Int) := by
  have h : ((2 ^ (7 * k) : Nat) : Int) = (2 : Int) ^ (7 * k) := by simp
  rw [← h, pow7]
  simp

theorem pow_le5 (k : Nat) (h : k ≤ 4) : 128 ^ k ≤ 268435456 := by
  have := Nat.pow_le_pow_right (show 0 < 128 by omega) h
  simpa using this

theorem sh_le (b k : Nat) (h : k ≤ 4) : b % 128 * 128 ^ k ≤ 127 * 268435456 :=
  Nat.mul_le_mul (by omega) (pow_le5 k h)

theorem acc_lt (N b k : Nat) (h : N < 128 ^ k) : N + b % 128 * 128 ^ k < 128 ^ (k + 1) := by
  have h1 : b % 128 * 128 ^ k ≤ 127 * 128 ^ k := Nat.mul_le_mul_right _ (by omega)
  have h2 : 128 ^ (k + 1) = 128 ^ k * 128 := Nat.pow_succ ..
  omega

theorem rv_more (s : List UInt8) (p k N : Nat) (b : UInt8) (hk : k < 5) (hb : s[p + k]? = some b) (h : 127 < b.toNat) :
    rv s p (5 - k) k N = rv s p (5 - (k + 1)) (k + 1) (N + b.toNat % 128 * 128 ^ k) := by
  have e : 5 - k = (5 - (k + 1)) + 1 := by omega
  rw [e]
  simp only [rv, hb]
  rw [if_pos (by omega)]

theorem rv_no (s : List UInt8) (p k N : Nat) (b : UInt8) (hk : k < 5) (hb : s[p + k]? = some b) (h : ¬ 127 < b.toNat) (hn : (b.toNat = 0 ∧ 0 < k) ∨ 1000000000 < N + b.toNat % 128 * 128 ^ k) :
    rv s p (5 - k) k N = none := by
  have e : 5 - k = (5 - (k + 1)) + 1 := by omega
  rw [e]
  simp only [rv, hb]
  rw [if_neg (by omega), if_pos hn]

theorem rv_yes (s : List UInt8) (p k N : Nat) (b : UInt8) (hk : k < 5) (hb : s[p + k]? = some b) (h : ¬ 127 < b.toNat) (hn : ¬ ((b.toNat = 0 ∧ 0 < k) ∨ 1000000000 < N + b.toNat % 128 * 128 ^ k)) :
    rv s p (5 - k) k N = some (N + b.toNat % 128 * 128 ^ k, p + k + 1) := by
  have e : 5 - k = (5 - (k + 1)) + 1 := by omega
  rw [e]
  simp only [rv, hb]
  rw [if_neg (by omega), if_neg hn]

theorem rv_end (s : List UInt8) (p k N : Nat) (h : ¬ (k < 5 ∧ p + k < s.length)) : rv s p (5 - k) k N = none := by
  by_cases hk : k < 5
  · have e : 5 - k = (5 - (k + 1)) + 1 := by omega
    rw [e]
    have hb : s[p + k]? = none := by simp; omega
    simp only [rv, hb]
  · have e : 5 - k = 0 := by omega
    rw [e]
    rfl

end Go.Proofs.YtgkfelhjbeegaaaGreatDoor.M
/-
  What ReadVar answers, the program's and the specification's: M.readVar of the text and the place.
-/
namespace Go.Proofs.YtgkfelhjbeegaaaGreatDoor
open Go.RowKit
set_option linter.unusedVariables false

/-- the three results of ReadVar -/
def rvOut : Option (Nat × Nat) → Array Value
  | none => #[.int .i64 0, .int .i64 0, .bool false]
  | some (n, q) => #[.int .i64 n, .int .i64 q, .bool true]

theorem get_l (s : ByteArray) (j : Nat) (h : j < s.size) : s.data.toList[j]? = some s[j] := by
  simp [ByteArray.getElem_eq_getElem_data]

/-- what the loop of ReadVar holds at each round's head -/
def ReadRel (s : ByteArray) (p : Nat) (n i : Value) : Prop :=
  ∃ k N : Nat, k ≤ 5 ∧ p + k ≤ s.size ∧ i = .int .i64 k ∧ n = .int .i64 N ∧ N < 128 ^ k ∧ M.readVar s.data.toList p = M.rv s.data.toList p (5 - k) k N

theorem tuple_none {o : Option (Nat × Nat)} (h : o = none) : Ending.returned (.tuple #[.int .i64 0, .int .i64 0, .bool false]) = .returned (.tuple (rvOut o)) := by rw [h]; rfl
theorem tuple_some {o : Option (Nat × Nat)} {a b : Int} {n q : Nat} (h : o = some (n, q)) (ha : a = n) (hb : b = q) : Ending.returned (.tuple #[.int .i64 a, .int .i64 b, .bool true]) = .returned (.tuple (rvOut o)) := by rw [h, ha, hb]; rfl

end Go.Proofs.YtgkfelhjbeegaaaGreatDoor
