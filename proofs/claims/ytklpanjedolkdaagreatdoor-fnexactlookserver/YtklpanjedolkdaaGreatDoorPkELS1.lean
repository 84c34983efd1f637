/-
  Texts laid together: Fs, Var, Dw.
-/
import Derived.Test.YtklpanjedolkdaaGreatDoorPkELS0
import Derived.Deep.MidRow
import Derived.Deep.QuietTactic
import Derived.Lib.QuietBelow
import Derived.BigQuiet
import Derived.Laws.Cover1
/-
  Rows of records (files, acts) as they lie in memory: read, written record by record, grown; and what stays of them.
-/
namespace Go.Proofs.YtklpanjedolkdaaGreatDoor
open Go.RowKit
set_option linter.unusedVariables false

def fcs (f : Fl) : List Value := [.string f.n, .string f.t, .int .i64 f.k]
def acs (a : Ac) : List Value := [.int .i64 a.k, .string a.n, .string a.t, .string a.o]

theorem cell_kept {w w' : World} {b o : Nat} (h : w'.heap[b]? = w.heap[b]?) : w'.cell? ⟨b, o, none⟩ = w.cell? ⟨b, o, none⟩ := by simp only [World.cell?, h]
theorem frozen_kept {w w' : World} {b o : Nat} (h : w'.heap[b]? = w.heap[b]?) : w'.frozen? ⟨b, o, none⟩ = w.frozen? ⟨b, o, none⟩ := by simp only [World.frozen?, h]
theorem lt_of_cell {w : World} {b o : Nat} {u : Value} (h : w.cell? ⟨b, o, none⟩ = some u) : b < w.heap.size := by
  rcases Nat.lt_or_ge b w.heap.size with h1 | h1
  · exact h1
  · simp [World.cell?, Array.getElem?_eq_none h1] at h
theorem range_kept {w w' : World} {b o : Nat} {cs : List Value} (h : w.rangeAt b o cs) (he : w'.heap[b]? = w.heap[b]?) : w'.rangeAt b o cs := fun j v hv => (cell_kept he).trans (h j v hv)
theorem there_kept {w w' : World} {b o n : Nat} (h : w.there b o n) (he : w'.heap[b]? = w.heap[b]?) : w'.there b o n := fun j hj => by rw [cell_kept he, frozen_kept he]; exact h j hj

section
variable {α : Type} {k : Nat} {enc : α → List Value} {w w' : World} {v : Value} {g o : Nat} {l : List α}

/-- v is a row of the records l, each of k cells, from offset o of block g on -/
def RS (k : Nat) (enc : α → List Value) (w : World) (v : Value) (g o : Nat) (l : List α) : Prop :=
  ∃ a cap, v = .slice a l.length cap ∧ l.length ≤ 1100000 ∧ (0 < l.length → a = some ⟨g, o, none⟩ ∧ g < w.heap.size) ∧ ∀ j (h : j < l.length), w.rangeAt g (o + j * k) (enc l[j])
theorem RS.shape (h : RS k enc w v g o l) : ∃ a c, v = .slice a l.length c := by
  obtain ⟨a, c, hv, _⟩ := h
  exact ⟨a, c, hv⟩
theorem RS.len (h : RS k enc w v g o l) : l.length ≤ 1100000 := by
  obtain ⟨a, c, _, hl, _⟩ := h
  exact hl
theorem RS.later (h : RS k enc w v g o l) (hb : Below w.heap.size w w') : RS k enc w' v g o l := by
  obtain ⟨a, c, hv, hl, h0, hc⟩ := h
  exact ⟨a, c, hv, hl, fun hp => ⟨(h0 hp).1, Nat.lt_of_lt_of_le (h0 hp).2 hb.size⟩, fun j hj => range_kept (hc j hj) (hb.block g (h0 (by omega)).2)⟩
theorem RS.drewN (h : RS k enc w v g o l) (n : Nat) : RS k enc (w.drewN n) v g o l := h
theorem RS.alloc (h : RS k enc w v g o l) (x : Obj) : RS k enc (w.alloc x) v g o l := h.later ((Below.refl _ _).alloc (Nat.le_refl _) _)
theorem RS.grown {row : Option Nat} (h : RS k enc w v g o l) (hg : w.grownBy w' row) (hne : 0 < l.length → some g ≠ row) : RS k enc w' v g o l := by
  obtain ⟨a, c, hv, hl, h0, hc⟩ := h
  exact ⟨a, c, hv, hl, fun hp => ⟨(h0 hp).1, Nat.lt_of_lt_of_le (h0 hp).2 hg.size⟩, fun j hj => range_kept (hc j hj) (hg.block g (h0 (by omega)).2 (hne (by omega)))⟩

/-- .. and it may be written; it begins its block -/
def RW (k : Nat) (enc : α → List Value) (w : World) (v : Value) (g : Nat) (l : List α) : Prop :=
  RS k enc w v g 0 l ∧ ∀ j, j < l.length → w.there g (j * k) k
theorem RW.later (h : RW k enc w v g l) (hb : Below w.heap.size w w') : RW k enc w' v g l := by
  refine ⟨h.1.later hb, fun j hj => ?_⟩
  obtain ⟨⟨a, c, hv, hl, h0, hc⟩, ht⟩ := h
  exact there_kept (ht j hj) (hb.block g (h0 (by omega)).2)
theorem RW.alloc (h : RW k enc w v g l) (x : Obj) : RW k enc (w.alloc x) v g l := h.later ((Below.refl _ _).alloc (Nat.le_refl _) _)
theorem RW.drewN (h : RW k enc w v g l) (n : Nat) : RW k enc (w.drewN n) v g l := h
theorem RW.grown {row : Option Nat} (h : RW k enc w v g l) (hg : w.grownBy w' row) (hne : 0 < l.length → some g ≠ row) : RW k enc w' v g l := by
  refine ⟨h.1.grown hg hne, fun j hj => ?_⟩
  obtain ⟨⟨a, c, hv, hl, h0, hc⟩, ht⟩ := h
  exact there_kept (ht j hj) (hg.block g (h0 (by omega)).2 (hne (by omega)))
theorem RW.lt (h : RW k enc w v g l) : 0 < l.length → g < w.heap.size := by
  obtain ⟨⟨a, c, hv, hl, h0, hc⟩, ht⟩ := h
  exact fun hp => (h0 hp).2
theorem RS.nil (w : World) (g o : Nat) : RS k enc w (.slice none 0 0) g o [] := ⟨none, 0, rfl, by simp, fun h => absurd h (by simp), fun j h => absurd h (by simp)⟩
theorem RW.nil (w : World) (g : Nat) : RW k enc w (.slice none 0 0) g [] := ⟨RS.nil w g 0, fun j h => absurd h (by simp)⟩

theorem flat_len (hk : ∀ x, (enc x).length = k) (l : List α) : (l.flatMap enc).length = l.length * k := by
  induction l with
  | nil => simp
  | cons x r ih => rw [List.flatMap_cons, List.length_append, ih, hk, List.length_cons, Nat.succ_mul, Nat.add_comm]
theorem flat_at (hk : ∀ x, (enc x).length = k) : ∀ (l : List α) (j : Nat) (h : j < l.length) (i : Nat), i < k → (l.flatMap enc)[j * k + i]? = (enc l[j])[i]?
  | [], j, h, i, _ => by simp at h
  | x :: r, 0, _, i, hi => by
    rw [List.flatMap_cons, Nat.zero_mul, Nat.zero_add, List.getElem?_append_left (by rw [hk]; exact hi)]
    rfl
  | x :: r, j + 1, h, i, hi => by
    rw [List.flatMap_cons, List.getElem?_append_right (by rw [hk, Nat.succ_mul]; omega), hk]
    have e : (j + 1) * k + i - k = j * k + i := by rw [Nat.succ_mul]; omega
    rw [e, flat_at hk r j (by simpa using h) i hi]
    rfl

/-- v owns the records l, in blocks from B on; below B all is as it was in w0 -/
def OR (T k : Nat) (enc : α → List Value) (B : Nat) (w0 w : World) (v : Value) (l : List α) : Prop :=
  w.ownsRow B T k v l.length (l.flatMap enc) ∧ Below B w0 w ∧ B ≤ w.heap.size
variable {T B : Nat} {w0 w1 : World}
theorem OR.alloc (h : OR T k enc B w0 w v l) (o : Obj) : OR T k enc B w0 (w.alloc o) v l :=
  ⟨h.1.alloc o, h.2.1.alloc h.2.2 o, by have := h.2.2; simp; omega⟩
theorem OR.drew (h : OR T k enc B w0 w v l) : OR T k enc B w0 w.drew v l := ⟨h.1.drew, h.2.1.drew, h.2.2⟩
theorem OR.nil (w : World) : OR T k enc w.heap.size w w (.slice none 0 0) ([] : List α) := ⟨World.ownsRow_nil _ _ _ _, Below.refl _ _, Nat.le_refl _⟩
theorem OR.later (h : OR T k enc B w0 w v l) (hb : Below w.heap.size w w') : OR T k enc B w0 w' v l := by
  refine ⟨⟨h.1.1, ?_⟩, h.2.1.trans (hb.mono h.2.2), Nat.le_trans h.2.2 hb.size⟩
  rcases h.1.2 with hn | ⟨g, cap, cur, hv, hbg, hg, rest⟩
  · exact .inl hn
  · refine .inr ⟨g, cap, cur, hv, hbg, ?_, rest⟩
    rw [hb.block g (Array.getElem?_eq_some_iff.1 hg).1]
    exact hg
theorem OR.from (h : OR T k enc B w1 w v l) (hb : Below B w0 w1) : OR T k enc B w0 w v l := ⟨h.1, hb.trans h.2.1, h.2.2⟩
theorem OR.grown {row : Option Nat} (h : OR T k enc B w0 w v l) (hg : w.grownBy w' row) (hne : ∀ q, row = some q → B ≤ q ∧ v.ownBlock ≠ some q) : OR T k enc B w0 w' v l := by
  refine ⟨⟨h.1.1, ?_⟩, h.2.1.grown hg h.2.2 (fun q hq => (hne q hq).1), Nat.le_trans h.2.2 hg.size⟩
  rcases h.1.2 with hn | ⟨g, cap, cur, hv, hbg, hgg, rest⟩
  · exact .inl hn
  · refine .inr ⟨g, cap, cur, hv, hbg, ?_, rest⟩
    rw [hg.block g (Array.getElem?_eq_some_iff.1 hgg).1 (fun e => (hne g e.symm).2 (by rw [hv]; rfl))]
    exact hgg
/-- what is owned, as a row that may be written -/
theorem OR.rw (hk : ∀ x, (enc x).length = k) (hk0 : 0 < k) (h : OR T k enc B w0 w v l) (hl : l.length ≤ 1100000) : ∃ g, RW k enc w v g l ∧ B ≤ g ∧ (∀ q, v.ownBlock = some q → q = g) := by
  rcases h.1.2 with ⟨hv, hn⟩ | ⟨g, cap, cur, hv, hbg, hg, hnc, hcm, hsz, htk⟩
  · have : l = [] := List.length_eq_zero_iff.1 hn
    subst this
    subst hv
    exact ⟨B, RW.nil w B, Nat.le_refl _, fun q hq => by cases hq⟩
  · have hlt := (Array.getElem?_eq_some_iff.1 hg).1
    have hc : ∀ q, q < l.length * k → w.cell? ⟨g, q, none⟩ = (l.flatMap enc)[q]? := by
      intro q hq
      rw [cell_of_row w g q cur T (0, 0) hg, ← htk, List.getElem?_take_of_lt hq, Array.getElem?_toList]
    refine ⟨g, ⟨⟨some ⟨g, 0, none⟩, cap, hv, hl, fun _ => ⟨rfl, hlt⟩, fun j hj i u hu => ?_⟩, fun j hj i hi => ⟨?_, ?_⟩⟩, hbg, fun q hq => ?_⟩
    · have hi : i < k := by rw [← hk l[j]]; exact (List.getElem?_eq_some_iff.1 hu).1
      have hb : j * k + i < l.length * k := by
        have := Nat.mul_le_mul_right k (show j + 1 ≤ l.length by omega)
        rw [Nat.succ_mul] at this
        omega
      rw [Nat.zero_add, hc _ hb, flat_at hk l j hj i hi]
      exact hu
    · have hb : j * k + i < l.length * k := by
        have := Nat.mul_le_mul_right k (show j + 1 ≤ l.length by omega)
        rw [Nat.succ_mul] at this
        omega
      rw [hc _ hb, flat_at hk l j hj i hi, List.getElem?_eq_getElem (by rw [hk]; exact hi)]
      rfl
    · simp [World.frozen?, hg]
    · rw [hv] at hq
      simpa [Value.ownBlock] using hq.symm
end

theorem fcs_len (f : Fl) : (fcs f).length = 3 := rfl
theorem acs_len (a : Ac) : (acs a).length = 4 := rfl

theorem RS.file {w : World} {v : Value} {g o : Nat} {l : List Fl} (h : RS 3 fcs w v g o l) (j : Nat) (hj : j < l.length) :
    w.cell? ⟨g, o + j * 3, none⟩ = some (.string l[j].n) ∧ w.cell? ⟨g, o + j * 3 + 1, none⟩ = some (.string l[j].t) ∧ w.cell? ⟨g, o + j * 3 + 2, none⟩ = some (.int .i64 l[j].k) := by
  obtain ⟨a, c, _, _, _, hc⟩ := h
  exact ⟨hc j hj 0 _ rfl, hc j hj 1 _ rfl, hc j hj 2 _ rfl⟩
theorem RS.act {w : World} {v : Value} {g o : Nat} {l : List Ac} (h : RS 4 acs w v g o l) (j : Nat) (hj : j < l.length) :
    w.cell? ⟨g, o + j * 4, none⟩ = some (.int .i64 l[j].k) ∧ w.cell? ⟨g, o + j * 4 + 1, none⟩ = some (.string l[j].n) ∧ w.cell? ⟨g, o + j * 4 + 2, none⟩ = some (.string l[j].t) ∧ w.cell? ⟨g, o + j * 4 + 3, none⟩ = some (.string l[j].o) := by
  obtain ⟨a, c, _, _, _, hc⟩ := h
  exact ⟨hc j hj 0 _ rfl, hc j hj 1 _ rfl, hc j hj 2 _ rfl, hc j hj 3 _ rfl⟩

end Go.Proofs.YtklpanjedolkdaaGreatDoor
/-
  What VarText answers, the program's and the specification's: the bytes varL of the number.
-/
namespace Go.Proofs.YtklpanjedolkdaaGreatDoor
open Go.RowKit

theorem one_byte (w : World) (x : Int) (b : UInt8) (t : TypeId) (h : x = (b.toNat : Int)) : ∀ j u, (bv [b])[j]? = some u → (w.alloc (.cells #[.int .u8 x] t)).cell? ((⟨w.heap.size, 0, none⟩ : Addr).add j) = some u := by
  intro j u hj
  obtain ⟨hj', rfl⟩ := bv_get _ _ _ hj
  have h0 : j = 0 := by simp at hj'; exact hj'
  subst h0
  subst h
  simp [Addr.add]

def hiB (m : Nat) : UInt8 := UInt8.ofNat (m % 128 + 128)
def loB (m : Nat) : UInt8 := UInt8.ofNat m
theorem byte_hi (m : Nat) : ((m : Int) % 128 + 128) = ((hiB m).toNat : Int) := by
  unfold hiB; simp; omega
theorem byte_lo (m : Nat) (h : m ≤ 127) : (m : Int) = ((loB m).toNat : Int) := by
  unfold loB; simp; omega

/-- what the loop of VarText holds at each round's head: so many bytes are written, and those of the rest make the whole -/
def VarRel (n : Nat) (w : World) (x v : Value) (wr : World) : Prop :=
  ∃ (m f : Nat) (pre : List UInt8), m ≤ n ∧ m < 128 ^ (f + 1) ∧ x = .int .i64 m ∧ OB w.heap.size w wr v pre ∧ pre.length ≤ 10 ∧ pre ++ M.varF f m = M.varL n

theorem VarRel.step {n m f : Nat} {pre : List UInt8} (h : 127 < m) (hf : m < 128 ^ (f + 1)) (he : pre ++ M.varF f m = M.varL n) :
    ∃ f', m / 128 < 128 ^ (f' + 1) ∧ (pre ++ [hiB m]) ++ M.varF f' (m / 128) = M.varL n ∧ (pre ++ [hiB m]).length ≤ 10 := by
  cases f with
  | zero => simp at hf; omega
  | succ f =>
    rw [M.varF_big _ _ h] at he
    change pre ++ hiB m :: M.varF f (m / 128) = M.varL n at he
    refine ⟨f, ?_, by simpa using he, ?_⟩
    · have : m < 128 ^ (f + 1) * 128 := by rw [← Nat.pow_succ]; exact hf
      omega
    · have h1 := M.varL_len n
      rw [← he] at h1
      simp at h1 ⊢
      omega

set_option maxHeartbeats 400000 in
theorem l01Var_any (n : Nat) (w : World) (hn : n ≤ 1000000000) :
    Calls Tryz.prog 163 #[.int .i64 n] w fun e w' => e = .returned (.string ⟨(M.varL n).toArray⟩) ∧ Below w.heap.size w w' := by
  go_enter Tryz.func163, Tryz.ntmps163
  go_wp2
  go_loopw [0, 3] (fun x v wr => VarRel n w x v wr) (fun x _ _ => (intOf x).toNat)
  case atStart => exact ⟨n, 9, [], Nat.le_refl _, by omega, rfl, OB.made w, by simp, rfl⟩
  case round =>
    obtain ⟨m, f, pre, hmn, hmf, rfl, hown, hpl, he⟩ := hrel
    by_cases h : 127 < m
    · obtain ⟨f', h1, h2, h3⟩ := VarRel.step h hmf he
      have H2 : Hid ((pre ++ [hiB m]) ++ M.varF f' (m / 128) = M.varL n) := h2
      clear h2 he hmf
      go_wp2_with (at_builtin; refine wp_app rfl _ _ rfl w.heap.size w _ pre rfl (hown.alloc _) ⟨wr.heap.size, 0, none⟩ 1 1 [hiB m] rfl rfl ?c1 ?c2 ?_)
      case c1 => exact one_byte _ _ _ _ (byte_hi m)
      case c2 => omega
      intro v' w1 hown'
      go_wp2
      go_roundw
      case rel => exact ⟨m / 128, f', _, by omega, h1, by go_num, hown', h3, H2.out⟩
      case measure => simp [intOf]; omega
    · have he' : pre ++ [loB m] = M.varL n := by rw [M.varF_small f m (by omega)] at he; exact he
      have H2 : Hid (pre ++ [loB m] = M.varL n) := he'
      clear he' he hmf
      go_wp2_with (at_builtin; refine wp_app rfl _ _ rfl w.heap.size w _ pre rfl (hown.alloc _) ⟨wr.heap.size, 0, none⟩ 1 1 [loB m] rfl rfl ?c3 ?c4 ?_)
      case c3 => exact one_byte _ _ _ _ (byte_lo m (by omega))
      case c4 => omega
      intro v' w1 hown'
      have hcv := run_str hown'
      go_wp2
      go_ret
      exact ⟨by rw [H2.out]; rfl, hown'.2.1⟩


set_option maxHeartbeats 400000 in
theorem VarText_yes (n : Nat) (w : World) (hn : n ≤ 1000000000) :
    Calls Tryz.prog 247 #[.int .i64 n] w fun e w' => e = .returned (.tuple #[.string ⟨(M.varL n).toArray⟩, .bool true]) ∧ Below w.heap.size w w' := by
  go_enter Tryz.func247, Tryz.ntmps247
  go_wp2
  go_loopw [0, 4] (fun x v wr => VarRel n w x v wr) (fun x _ _ => (intOf x).toNat)
  case atStart => exact ⟨n, 9, [], Nat.le_refl _, by omega, rfl, OB.nil w, by simp, rfl⟩
  case round =>
    obtain ⟨m, f, pre, hmn, hmf, rfl, hown, hpl, he⟩ := hrel
    by_cases h : 127 < m
    · obtain ⟨f', h1, h2, h3⟩ := VarRel.step h hmf he
      have H2 : Hid ((pre ++ [hiB m]) ++ M.varF f' (m / 128) = M.varL n) := h2
      clear h2 he hmf
      go_wp2_with (at_builtin; refine wp_app rfl _ _ rfl w.heap.size w _ pre rfl (hown.alloc _) ⟨wr.heap.size, 0, none⟩ 1 1 [hiB m] rfl rfl ?c1 ?c2 ?_)
      case c1 => exact one_byte _ _ _ _ (byte_hi m)
      case c2 => omega
      intro v' w1 hown'
      go_wp2
      go_roundw
      case rel => exact ⟨m / 128, f', _, by omega, h1, by go_num, hown', h3, H2.out⟩
      case measure => simp [intOf]; omega
    · have he' : pre ++ [loB m] = M.varL n := by rw [M.varF_small f m (by omega)] at he; exact he
      have H2 : Hid (pre ++ [loB m] = M.varL n) := he'
      clear he' he hmf
      go_wp2_with (at_builtin; refine wp_app rfl _ _ rfl w.heap.size w _ pre rfl (hown.alloc _) ⟨wr.heap.size, 0, none⟩ 1 1 [loB m] rfl rfl ?c3 ?c4 ?_)
      case c3 => exact one_byte _ _ _ _ (byte_lo m (by omega))
      case c4 => omega
      intro v' w1 hown'
      have hcv := run_str hown'
      go_wp2
      go_ret2
      exact ⟨by rw [H2.out]; rfl, hown'.2.1⟩

theorem VarText_no (n : Int) (w : World) (hn : n < 0 ∨ 1000000000 < n) :
    Calls Tryz.prog 247 #[.int .i64 n] w fun e w' => e = .returned (.tuple #[.string ⟨#[]⟩, .bool false]) ∧ Below w.heap.size w w' := by
  rcases hn with h | h
  · go_enter Tryz.func247, Tryz.ntmps247
    go_wp2
    go_ret2
    exact ⟨rfl, Below.refl _ _⟩
  · have h' : ¬ n < 0 := by omega
    go_enter Tryz.func247, Tryz.ntmps247
    go_wp2
    go_ret2
    exact ⟨rfl, Below.refl _ _⟩

theorem l01In_any (x a b : Int) (w : World) : Calls Tryz.prog 36 #[.int .i64 x, .int .i64 a, .int .i64 b] w fun e w' => e = .returned (.bool (decide (a ≤ x ∧ x ≤ b))) ∧ w' = w := by
  by_cases h1 : a ≤ x
  · by_cases h2 : x ≤ b
    · go_enter Tryz.func36, Tryz.ntmps36
      go_wp2
      go_ret
      exact ⟨by simp [h1, h2], rfl⟩
    · go_enter Tryz.func36, Tryz.ntmps36
      go_wp2
      go_ret
      exact ⟨by simp [h2], rfl⟩
  · go_enter Tryz.func36, Tryz.ntmps36
    go_wp2
    go_ret
    exact ⟨by simp; omega, rfl⟩

end Go.Proofs.YtklpanjedolkdaaGreatDoor
/-
  When a disk is right: the program's and the specification's answers.
-/
namespace Go.Proofs.YtklpanjedolkdaaGreatDoor
open Go.RowKit Go.BigFrame Go.Sort
set_option linter.unusedVariables false
set_option linter.unusedSimpArgs false

theorem fileNameOk_any (s : ByteArray) (w : World) : Calls Tryz.prog 199 #[.string s] w fun e w' => e = .returned (.bool (F.nmB s)) ∧ w' = w := by
  unfold F.nmB
  by_cases h1 : 1 ≤ s.size
  · by_cases h2 : s.size ≤ 8
    · have q1 : (1 : Int) ≤ (s.size : Int) := by omega
      have q2 : (s.size : Int) ≤ 8 := by omega
      rw [decide_eq_true ⟨h1, h2⟩]
      go_enter Tryz.func199, Tryz.ntmps199
      go_wp2
      go_ret
      exact ⟨rfl, rfl⟩
    · have q1 : (1 : Int) ≤ (s.size : Int) := by omega
      have q2 : ¬ (s.size : Int) ≤ 8 := by omega
      rw [decide_eq_false (fun h => h2 h.2)]
      go_enter Tryz.func199, Tryz.ntmps199
      go_wp2
      go_ret
      exact ⟨rfl, rfl⟩
  · have q1 : ¬ (1 : Int) ≤ (s.size : Int) := by omega
    rw [decide_eq_false (fun h => h1 h.1)]
    go_enter Tryz.func199, Tryz.ntmps199
    go_wp2
    go_ret
    exact ⟨rfl, rfl⟩

theorem l06Name_any (s : ByteArray) (w : World) : Calls Tryz.prog 130 #[.string s] w fun e w' => e = .returned (.bool (F.nmB s)) ∧ w' = w := by
  go_enter Tryz.func130, Tryz.ntmps130
  go_wp2_with fail
  refine (l01In_any _ _ _ _).mono ?_
  rintro e w1 ⟨rfl, rfl⟩
  have e1 : decide ((1 : Int) ≤ (s.size : Int) ∧ (s.size : Int) ≤ 8) = F.nmB s := by unfold F.nmB; congr 1; exact propext (by omega)
  rw [e1]
  go_wp2
  go_ret
  exact ⟨rfl, rfl⟩

set_option maxRecDepth 100000 in
set_option maxHeartbeats 400000 in
theorem fileOk_any (f : Fl) (w : World) : Calls Tryz.prog 162 #[.agg #[.string f.n, .string f.t, .int .i64 f.k]] w fun e w' => e = .returned (.bool (F.flB f)) ∧ Below w.heap.size w w' := by
  obtain ⟨x, t, k⟩ := f
  have HB : Hid (Below w.heap.size w (w.alloc (.cells #[.string x, .string t, .int .i64 k] 130))) := (Below.refl _ _).alloc (Nat.le_refl _) _
  obtain ⟨b, hb⟩ : ∃ b, F.nmB x = b := ⟨_, rfl⟩
  have HN : Hid (∀ W, Calls Tryz.prog 199 #[.string x] W fun e w' => e = .returned (.bool b) ∧ w' = W) := fun W => hb ▸ fileNameOk_any x W
  have HF : Hid (F.flB ⟨x, t, k⟩ = (b && decide (t.size ≤ 20000 ∧ 0 ≤ k ∧ k ≤ t.size))) := by rw [← hb]; rfl
  rw [HF.out]
  clear HF hb
  go_enter Tryz.func162, Tryz.ntmps162
  go_wp2_with fail
  refine (HN.out _).mono ?_
  rintro e w1 ⟨rfl, rfl⟩
  clear HN
  cases b
  · go_wp2
    go_ret
    exact ⟨rfl, HB.out⟩
  · by_cases h1 : t.size ≤ 20000
    · have q1 : (t.size : Int) ≤ 20000 := by omega
      by_cases h2 : 0 ≤ k
      · by_cases h3 : k ≤ t.size
        · go_wp2
          go_ret
          exact ⟨by simp [h1, h2, h3], HB.out⟩
        · go_wp2
          go_ret
          exact ⟨by rw [decide_eq_false (p := k ≤ (t.size : Int)) (by omega), decide_eq_false (p := t.size ≤ 20000 ∧ 0 ≤ k ∧ k ≤ (t.size : Int)) (by omega)]; rfl, HB.out⟩
      · go_wp2
        go_ret
        exact ⟨by rw [decide_eq_false (p := (0 : Int) ≤ k) (by omega)]; simp, HB.out⟩
    · have q1 : ¬ (t.size : Int) ≤ 20000 := by omega
      go_wp2
      go_ret
      exact ⟨by simp [h1], HB.out⟩

def DkR (L : List Fl) (B : Nat) (w : World) (i : Value) (wr : World) : Prop := ∃ m : Nat, m ≤ L.length ∧ i = .int .i64 m ∧ Hid (F.Upto L m) ∧ Below B w wr

set_option maxRecDepth 100000 in
set_option maxHeartbeats 1000000 in
theorem DiskOk_any (v : Value) (ga oa : Nat) (L : List Fl) (w : World) (hv : RS 3 fcs w v ga oa L) :
    Calls Tryz.prog 126 #[.agg #[v]] w fun e w' => e = .returned (.bool (F.diskB L)) ∧ Below w.heap.size w w' := by
  obtain ⟨R, hR⟩ : ∃ R, F.diskB L = R := ⟨_, rfl⟩
  have HV := hv.alloc (.cells #[v] 36)
  obtain ⟨a, cap, rfl, hl, hA, hc⟩ := hv
  obtain ⟨n, hn⟩ : ∃ n, L.length = n := ⟨_, rfl⟩
  have HB : Hid (Below w.heap.size w (w.alloc (.cells #[.slice a n cap] 36))) := (Below.refl _ _).alloc (Nat.le_refl _) _
  rw [hn] at hl hA HV ⊢
  rw [hR]
  have HVV : Hid (RS 3 fcs (w.alloc (.cells #[.slice a n cap] 36)) (.slice a n cap) ga oa L) := HV
  have HA : Hid (0 < n → a = some ⟨ga, oa, none⟩) := fun h => (hA h).1
  have HR : Hid (F.diskB L = R) := hR
  have HST : Hid (DkR L (w.heap.size + 1) (w.alloc (.cells #[.slice a n cap] 36)) (.int .i64 0) (w.alloc (.cells #[.slice a n cap] 36))) := ⟨0, by omega, rfl, F.Upto.zero L, Below.refl _ _⟩
  clear hc hA hR HV
  by_cases h30 : 30 < n
  · have q : (30 : Int) < (n : Int) := by omega
    have hF : R = false := by rw [← HR.out, F.diskB_no]; exact fun h => by have := h.1; omega
    subst hF
    go_enter Tryz.func126, Tryz.ntmps126
    go_wp2
    go_ret
    exact ⟨rfl, HB.out⟩
  have q : ¬ (30 : Int) < (n : Int) := by omega
  go_enter Tryz.func126, Tryz.ntmps126
  go_wp2
  go_loopw [12] (fun i wr => DkR L (w.heap.size + 1) (w.alloc (.cells #[.slice a n cap] 36)) i wr) (fun i _ => n - (intOf i).toNat)
  case atStart => exact HST.out
  case round =>
    obtain ⟨m, hm, rfl, HU, hbel⟩ := hrel
    rw [hn] at hm
    clear HST
    by_cases hlt : m < n
    · have ea := HA.out (by omega)
      subst ea
      have hrs := HVV.out.later (by simpa using hbel)
      obtain ⟨c0, c1, c2⟩ := hrs.file m (by omega)
      have i1 : (m : Int) < (n : Int) := by omega
      have i2 : (0 : Int) ≤ (m : Int) := by omega
      have d0 : wr.cell? ⟨w.heap.size, 0, none⟩ = some (.slice (some ⟨ga, oa, none⟩) n cap) := by
        rw [hbel.cell (p := ⟨w.heap.size, 0, none⟩) (by simp)]
        simp
      have hws : w.heap.size < wr.heap.size := by have := hbel.size; simp at this; omega
      have hgs : ga < wr.heap.size := lt_of_cell c0
      obtain ⟨X, hX⟩ : ∃ X, L[m]'(by omega) = X := ⟨_, rfl⟩
      rw [hX] at c0 c1 c2
      obtain ⟨b, hb⟩ : ∃ b, F.flB X = b := ⟨_, rfl⟩
      have HOK : Hid (∀ W, Calls Tryz.prog 162 #[.agg #[.string X.n, .string X.t, .int .i64 X.k]] W fun e w' => e = .returned (.bool b) ∧ Below W.heap.size W w') := fun W => hb ▸ fileOk_any X W
      have HX : Hid (L[m]'(by omega) = X ∧ F.flB X = b) := ⟨hX, hb⟩
      have HBW : Hid (Below (w.heap.size + 1) (w.alloc (.cells #[.slice (some ⟨ga, oa, none⟩) n cap] 36)) (wr.alloc (.cells #[.string X.n, .string X.t, .int .i64 X.k] 130))) := hbel.alloc (by omega) _
      have HBS : w.heap.size + 1 ≤ (wr.alloc (.cells #[.string X.n, .string X.t, .int .i64 X.k] 130)).heap.size := by simp; omega
      clear hX hb hbel
      have z0 : (wr.alloc (.cells #[.string X.n, .string X.t, .int .i64 X.k] 130)).cell? ⟨wr.heap.size, 0, none⟩ = some (.string X.n) := by simp
      have z1 : (wr.alloc (.cells #[.string X.n, .string X.t, .int .i64 X.k] 130)).cell? ⟨wr.heap.size, 1, none⟩ = some (.string X.t) := by simp
      have z2 : (wr.alloc (.cells #[.string X.n, .string X.t, .int .i64 X.k] 130)).cell? ⟨wr.heap.size, 2, none⟩ = some (.int .i64 X.k) := by simp
      have z3 : (wr.alloc (.cells #[.string X.n, .string X.t, .int .i64 X.k] 130)).cell? ⟨w.heap.size, 0, none⟩ = some (.slice (some ⟨ga, oa, none⟩) n cap) := (cell_kept (Below.heap_alloc _ _ w.heap.size hws)).trans d0
      cases b
      · have hF : R = false := by rw [← HR.out, F.diskB_no]; exact F.not_ok_fl (m := m) (by omega) (by rw [HX.out.1]; exact HX.out.2)
        subst hF
        clear hrs HVV HX HU HA HR
        go_wp2
        have kq0 := cell_regrown (w := (wr.alloc (.cells #[.string X.n, .string X.t, .int .i64 X.k] 130))) z0
        have kq1 := cell_regrown (w := (wr.alloc (.cells #[.string X.n, .string X.t, .int .i64 X.k] 130))) z1
        have kq2 := cell_regrown (w := (wr.alloc (.cells #[.string X.n, .string X.t, .int .i64 X.k] 130))) z2
        have kq3 := cell_regrown (w := (wr.alloc (.cells #[.string X.n, .string X.t, .int .i64 X.k] 130))) z3
        have cq0 := fun d os => Calls.regrown_of (w := (wr.alloc (.cells #[.string X.n, .string X.t, .int .i64 X.k] 130))) (d := d) (os := os) (HOK.out _)
        refine wp_region_quiet_below (by kernel_rfl) (by kernel_rfl) ?_
        repeat (go_big_quiet_step (first | exact cq0 _ _))
        refine wpQuiet_nil ?_
        rintro _ ⟨⟨dq, osq⟩, rfl⟩
        have hb6 := below_regrown ((wr.alloc (.cells #[.string X.n, .string X.t, .int .i64 X.k] 130))) dq osq
        generalize grow (redrawn ((wr.alloc (.cells #[.string X.n, .string X.t, .int .i64 X.k] 130))) dq) osq = w6 at *
        clear kq0 kq1 kq2 kq3 cq0
        have hb7 := HB.out.trans ((HBW.out.trans (hb6.mono HBS)).mono (by omega))
        go_wp2
        try rw [Exit.noGoto_ret]
        go_ret
        exact ⟨rfl, hb7⟩
      · by_cases h0 : m = 0
        · have HU2 : Hid (F.Upto L (m + 1)) := HU.out.step (by omega) (by rw [HX.out.1]; exact HX.out.2) (fun h => by omega)
          have q0 : ¬ (0 : Int) < (m : Int) := by omega
          have q0' : decide (0 < m) = false := decide_eq_false (by omega)
          clear hrs HVV HX HU HA HR h0
          go_wp2
          have kq0 := cell_regrown (w := (wr.alloc (.cells #[.string X.n, .string X.t, .int .i64 X.k] 130))) z0
          have kq1 := cell_regrown (w := (wr.alloc (.cells #[.string X.n, .string X.t, .int .i64 X.k] 130))) z1
          have kq2 := cell_regrown (w := (wr.alloc (.cells #[.string X.n, .string X.t, .int .i64 X.k] 130))) z2
          have kq3 := cell_regrown (w := (wr.alloc (.cells #[.string X.n, .string X.t, .int .i64 X.k] 130))) z3
          have cq0 := fun d os => Calls.regrown_of (w := (wr.alloc (.cells #[.string X.n, .string X.t, .int .i64 X.k] 130))) (d := d) (os := os) (HOK.out _)
          refine wp_region_quiet_below (by kernel_rfl) (by kernel_rfl) ?_
          repeat (go_big_quiet_step (first | exact cq0 _ _))
          refine wpQuiet_nil ?_
          rintro _ ⟨⟨dq, osq⟩, rfl⟩
          have hb6 := below_regrown ((wr.alloc (.cells #[.string X.n, .string X.t, .int .i64 X.k] 130))) dq osq
          generalize grow (redrawn ((wr.alloc (.cells #[.string X.n, .string X.t, .int .i64 X.k] 130))) dq) osq = w6 at *
          clear kq0 kq1 kq2 kq3 cq0
          have hb7 := HBW.out.trans (hb6.mono HBS)
          go_wp2
          go_roundw
          case rel => exact ⟨m + 1, by omega, by go_num, HU2, hb7⟩
          case measure => simp [intOf]; omega
        · obtain ⟨p, rfl⟩ : ∃ p, m = p + 1 := ⟨m - 1, by omega⟩
          obtain ⟨e0, _, _⟩ := hrs.file p (by omega)
          obtain ⟨Y, hY⟩ : ∃ Y, (L[p]'(by omega)).n = Y := ⟨_, rfl⟩
          rw [hY] at e0
          have HY : Hid ((L[p]'(by omega)).n = Y) := hY
          clear hY
          have z4 : (wr.alloc (.cells #[.string X.n, .string X.t, .int .i64 X.k] 130)).cell? ⟨ga, oa + p * 3, none⟩ = some (.string Y) := (cell_kept (Below.heap_alloc _ _ ga hgs)).trans e0
          have q0 : (0 : Int) < ((p + 1 : Nat) : Int) := by omega
          have q0' : decide ((0 : Int) < ((p + 1 : Nat) : Int)) = true := decide_eq_true q0
          have q0'' : decide ((0 : Int) < (p : Int) + 1) = true := decide_eq_true (by omega)
          have j1' : IntKind.i64.wrap (p : Int) = (p : Int) := IntWalk.i64_in _ (by omega)
          have j2 : (0 : Int) ≤ (p : Int) := by omega
          have j3 : (p : Int) < (n : Int) := by omega
          cases hlt2 : F.ltN Y X.n
          · have hF : R = false := by rw [← HR.out, F.diskB_no]; exact F.not_ok_adj (m := p + 1) (by omega) (by omega) (by rw [HX.out.1]; show F.ltN (L[p]'(by omega)).n X.n = false; rw [HY.out]; exact hlt2)
            subst hF
            have q4 : Op.bytesLess Y.toList X.n.toList = false := hlt2
            clear hrs HVV HX HU HA HR
            go_wp2
            have kq0 := cell_regrown (w := (wr.alloc (.cells #[.string X.n, .string X.t, .int .i64 X.k] 130))) z0
            have kq1 := cell_regrown (w := (wr.alloc (.cells #[.string X.n, .string X.t, .int .i64 X.k] 130))) z1
            have kq2 := cell_regrown (w := (wr.alloc (.cells #[.string X.n, .string X.t, .int .i64 X.k] 130))) z2
            have kq3 := cell_regrown (w := (wr.alloc (.cells #[.string X.n, .string X.t, .int .i64 X.k] 130))) z3
            have kq4 := cell_regrown (w := (wr.alloc (.cells #[.string X.n, .string X.t, .int .i64 X.k] 130))) z4
            have cq0 := fun d os => Calls.regrown_of (w := (wr.alloc (.cells #[.string X.n, .string X.t, .int .i64 X.k] 130))) (d := d) (os := os) (HOK.out _)
            refine wp_region_quiet_below (by kernel_rfl) (by kernel_rfl) ?_
            repeat (go_big_quiet_step (first | exact cq0 _ _))
            refine wpQuiet_nil ?_
            rintro _ ⟨⟨dq, osq⟩, rfl⟩
            have hb6 := below_regrown ((wr.alloc (.cells #[.string X.n, .string X.t, .int .i64 X.k] 130))) dq osq
            generalize grow (redrawn ((wr.alloc (.cells #[.string X.n, .string X.t, .int .i64 X.k] 130))) dq) osq = w6 at *
            clear kq0 kq1 kq2 kq3 kq4 cq0
            have hb7 := HB.out.trans ((HBW.out.trans (hb6.mono HBS)).mono (by omega))
            go_wp2
            try rw [Exit.noGoto_ret]
            go_ret
            exact ⟨rfl, hb7⟩
          · have HU2 : Hid (F.Upto L (p + 1 + 1)) := HU.out.step (by omega) (by rw [HX.out.1]; exact HX.out.2) (fun h => by rw [HX.out.1]; show F.ltN (L[p]'(by omega)).n X.n = true; rw [HY.out]; exact hlt2)
            have q4 : Op.bytesLess Y.toList X.n.toList = true := hlt2
            clear hrs HVV HX HU HA HR
            go_wp2
            have kq0 := cell_regrown (w := (wr.alloc (.cells #[.string X.n, .string X.t, .int .i64 X.k] 130))) z0
            have kq1 := cell_regrown (w := (wr.alloc (.cells #[.string X.n, .string X.t, .int .i64 X.k] 130))) z1
            have kq2 := cell_regrown (w := (wr.alloc (.cells #[.string X.n, .string X.t, .int .i64 X.k] 130))) z2
            have kq3 := cell_regrown (w := (wr.alloc (.cells #[.string X.n, .string X.t, .int .i64 X.k] 130))) z3
            have kq4 := cell_regrown (w := (wr.alloc (.cells #[.string X.n, .string X.t, .int .i64 X.k] 130))) z4
            have cq0 := fun d os => Calls.regrown_of (w := (wr.alloc (.cells #[.string X.n, .string X.t, .int .i64 X.k] 130))) (d := d) (os := os) (HOK.out _)
            refine wp_region_quiet_below (by kernel_rfl) (by kernel_rfl) ?_
            repeat (go_big_quiet_step (first | exact cq0 _ _))
            refine wpQuiet_nil ?_
            rintro _ ⟨⟨dq, osq⟩, rfl⟩
            have hb6 := below_regrown ((wr.alloc (.cells #[.string X.n, .string X.t, .int .i64 X.k] 130))) dq osq
            generalize grow (redrawn ((wr.alloc (.cells #[.string X.n, .string X.t, .int .i64 X.k] 130))) dq) osq = w6 at *
            clear kq0 kq1 kq2 kq3 kq4 cq0
            have hb7 := HBW.out.trans (hb6.mono HBS)
            go_wp2
            go_roundw
            case rel => exact ⟨p + 1 + 1, by omega, by go_num, HU2, hb7⟩
            case measure => simp [intOf]; omega
    · have hme : m = n := by omega
      have hF : R = true := by rw [← HR.out, F.diskB_iff]; exact F.Upto.ok (by rw [hn, ← hme]; exact HU.out) (by omega)
      subst hF
      subst hme
      clear HU HR HVV HA
      go_wp2
      go_ret
      exact ⟨rfl, HB.out.trans (hbel.mono (by omega))⟩

set_option maxRecDepth 100000 in
set_option maxHeartbeats 1000000 in
theorem sDiskOk_any (v : Value) (ga oa : Nat) (L : List Fl) (w : World) (hv : RS 3 fcs w v ga oa L) :
    Calls Tryz.prog 88 #[.agg #[v]] w fun e w' => e = .returned (.bool (F.diskB L)) ∧ Below w.heap.size w w' := by
  obtain ⟨R, hR⟩ : ∃ R, F.diskB L = R := ⟨_, rfl⟩
  have HV := hv.alloc (.cells #[v] 36)
  obtain ⟨a, cap, rfl, hl, hA, hc⟩ := hv
  obtain ⟨n, hn⟩ : ∃ n, L.length = n := ⟨_, rfl⟩
  have HB : Hid (Below w.heap.size w (w.alloc (.cells #[.slice a n cap] 36))) := (Below.refl _ _).alloc (Nat.le_refl _) _
  rw [hn] at hl hA HV ⊢
  rw [hR]
  have HVV : Hid (RS 3 fcs (w.alloc (.cells #[.slice a n cap] 36)) (.slice a n cap) ga oa L) := HV
  have HA : Hid (0 < n → a = some ⟨ga, oa, none⟩) := fun h => (hA h).1
  have HR : Hid (F.diskB L = R) := hR
  have HST : Hid (DkR L (w.heap.size + 1) (w.alloc (.cells #[.slice a n cap] 36)) (.int .i64 0) (w.alloc (.cells #[.slice a n cap] 36))) := ⟨0, by omega, rfl, F.Upto.zero L, Below.refl _ _⟩
  clear hc hA hR HV
  by_cases h30 : 30 < n
  · have q : (30 : Int) < (n : Int) := by omega
    have hF : R = false := by rw [← HR.out, F.diskB_no]; exact fun h => by have := h.1; omega
    subst hF
    go_enter Tryz.func88, Tryz.ntmps88
    go_wp2
    go_ret
    exact ⟨rfl, HB.out⟩
  have q : ¬ (30 : Int) < (n : Int) := by omega
  go_enter Tryz.func88, Tryz.ntmps88
  go_wp2
  go_loopw [3] (fun i wr => DkR L (w.heap.size + 1) (w.alloc (.cells #[.slice a n cap] 36)) i wr) (fun i _ => n - (intOf i).toNat)
  case atStart => exact HST.out
  case round =>
    obtain ⟨m, hm, rfl, HU, hbel⟩ := hrel
    rw [hn] at hm
    clear HST
    have d0 : wr.cell? ⟨w.heap.size, 0, none⟩ = some (.slice a n cap) := by
      rw [hbel.cell (p := ⟨w.heap.size, 0, none⟩) (by simp)]
      simp
    by_cases hlt : m < n
    · have ea := HA.out (by omega)
      subst ea
      have hrs := HVV.out.later (by simpa using hbel)
      obtain ⟨c0, c1, c2⟩ := hrs.file m (by omega)
      have i1 : (m : Int) < (n : Int) := by omega
      have i2 : (0 : Int) ≤ (m : Int) := by omega
      have hws : w.heap.size < wr.heap.size := by have := hbel.size; simp at this; omega
      have hgs : ga < wr.heap.size := lt_of_cell c0
      obtain ⟨X, hX⟩ : ∃ X, L[m]'(by omega) = X := ⟨_, rfl⟩
      rw [hX] at c0 c1 c2
      obtain ⟨b, hb⟩ : ∃ b, F.nmB X.n = b := ⟨_, rfl⟩
      obtain ⟨b2, hb2⟩ : ∃ b2, decide (0 ≤ X.k ∧ X.k ≤ (X.t.size : Int)) = b2 := ⟨_, rfl⟩
      have HNM : Hid (∀ W, Calls Tryz.prog 130 #[.string X.n] W fun e w' => e = .returned (.bool b) ∧ Below W.heap.size W w') := fun W => hb ▸ (l06Name_any X.n W).mono fun e w' ⟨he, hw⟩ => ⟨he, hw ▸ Below.refl _ _⟩
      have HIN : Hid (∀ W, Calls Tryz.prog 36 #[.int .i64 X.k, .int .i64 0, .int .i64 (X.t.size : Int)] W fun e w' => e = .returned (.bool b2) ∧ Below W.heap.size W w') := fun W => hb2 ▸ (l01In_any X.k 0 (X.t.size : Int) W).mono fun e w' ⟨he, hw⟩ => ⟨he, hw ▸ Below.refl _ _⟩
      have HX : Hid (L[m]'(by omega) = X ∧ F.flB X = (b && (decide (X.t.size ≤ 20000) && b2))) := ⟨hX, by rw [← hb, ← hb2]; simp [F.flB]⟩
      have HBW : Hid (Below (w.heap.size + 1) (w.alloc (.cells #[.slice (some ⟨ga, oa, none⟩) n cap] 36)) (wr.alloc (.cells #[.string X.n, .string X.t, .int .i64 X.k] 130))) := hbel.alloc (by omega) _
      have HBS : w.heap.size + 1 ≤ (wr.alloc (.cells #[.string X.n, .string X.t, .int .i64 X.k] 130)).heap.size := by simp; omega
      clear hX hb hb2 hbel
      have z0 : (wr.alloc (.cells #[.string X.n, .string X.t, .int .i64 X.k] 130)).cell? ⟨wr.heap.size, 0, none⟩ = some (.string X.n) := by simp
      have z1 : (wr.alloc (.cells #[.string X.n, .string X.t, .int .i64 X.k] 130)).cell? ⟨wr.heap.size, 1, none⟩ = some (.string X.t) := by simp
      have z2 : (wr.alloc (.cells #[.string X.n, .string X.t, .int .i64 X.k] 130)).cell? ⟨wr.heap.size, 2, none⟩ = some (.int .i64 X.k) := by simp
      have z3 : (wr.alloc (.cells #[.string X.n, .string X.t, .int .i64 X.k] 130)).cell? ⟨w.heap.size, 0, none⟩ = some (.slice (some ⟨ga, oa, none⟩) n cap) := (cell_kept (Below.heap_alloc _ _ w.heap.size hws)).trans d0
      cases hfl : F.flB X
      · have hF : R = false := by rw [← HR.out, F.diskB_no]; exact F.not_ok_fl (m := m) (by omega) (by rw [HX.out.1]; exact hfl)
        subst hF
        rw [HX.out.2] at hfl
        clear hrs HVV HX HU HA HR
        cases b
        · clear hfl
          go_wp2
          have kq0 := cell_regrown (w := (wr.alloc (.cells #[.string X.n, .string X.t, .int .i64 X.k] 130))) z0
          have kq1 := cell_regrown (w := (wr.alloc (.cells #[.string X.n, .string X.t, .int .i64 X.k] 130))) z1
          have kq2 := cell_regrown (w := (wr.alloc (.cells #[.string X.n, .string X.t, .int .i64 X.k] 130))) z2
          have kq3 := cell_regrown (w := (wr.alloc (.cells #[.string X.n, .string X.t, .int .i64 X.k] 130))) z3
          have cq0 := fun d os => Calls.regrown_of (w := (wr.alloc (.cells #[.string X.n, .string X.t, .int .i64 X.k] 130))) (d := d) (os := os) (HNM.out _)
          have cq1 := fun d os => Calls.regrown_of (w := (wr.alloc (.cells #[.string X.n, .string X.t, .int .i64 X.k] 130))) (d := d) (os := os) (HIN.out _)
          refine wp_region_quiet_below (by kernel_rfl) (by kernel_rfl) ?_
          repeat (go_big_quiet_step (first | exact cq0 _ _ | exact cq1 _ _))
          refine wpQuiet_nil ?_
          rintro _ ⟨⟨dq, osq⟩, rfl⟩
          have hb6 := below_regrown ((wr.alloc (.cells #[.string X.n, .string X.t, .int .i64 X.k] 130))) dq osq
          generalize grow (redrawn ((wr.alloc (.cells #[.string X.n, .string X.t, .int .i64 X.k] 130))) dq) osq = w6 at *
          clear kq0 kq1 kq2 kq3 cq0 cq1
          have hb7 := HB.out.trans ((HBW.out.trans (hb6.mono HBS)).mono (by omega))
          go_wp2
          try rw [Exit.noGoto_ret]
          go_ret
          exact ⟨rfl, hb7⟩
        · by_cases h2 : X.t.size ≤ 20000
          · obtain rfl : b2 = false := by simpa [h2] using hfl
            have q2 : ¬ (20000 : Int) < (X.t.size : Int) := by omega
            have q2' : decide ((20000 : Int) < (X.t.size : Int)) = false := decide_eq_false (by omega)
            clear hfl
            go_wp2
            have kq0 := cell_regrown (w := (wr.alloc (.cells #[.string X.n, .string X.t, .int .i64 X.k] 130))) z0
            have kq1 := cell_regrown (w := (wr.alloc (.cells #[.string X.n, .string X.t, .int .i64 X.k] 130))) z1
            have kq2 := cell_regrown (w := (wr.alloc (.cells #[.string X.n, .string X.t, .int .i64 X.k] 130))) z2
            have kq3 := cell_regrown (w := (wr.alloc (.cells #[.string X.n, .string X.t, .int .i64 X.k] 130))) z3
            have cq0 := fun d os => Calls.regrown_of (w := (wr.alloc (.cells #[.string X.n, .string X.t, .int .i64 X.k] 130))) (d := d) (os := os) (HNM.out _)
            have cq1 := fun d os => Calls.regrown_of (w := (wr.alloc (.cells #[.string X.n, .string X.t, .int .i64 X.k] 130))) (d := d) (os := os) (HIN.out _)
            refine wp_region_quiet_below (by kernel_rfl) (by kernel_rfl) ?_
            repeat (go_big_quiet_step (first | exact cq0 _ _ | exact cq1 _ _))
            refine wpQuiet_nil ?_
            rintro _ ⟨⟨dq, osq⟩, rfl⟩
            have hb6 := below_regrown ((wr.alloc (.cells #[.string X.n, .string X.t, .int .i64 X.k] 130))) dq osq
            generalize grow (redrawn ((wr.alloc (.cells #[.string X.n, .string X.t, .int .i64 X.k] 130))) dq) osq = w6 at *
            clear kq0 kq1 kq2 kq3 cq0 cq1
            have hb7 := HB.out.trans ((HBW.out.trans (hb6.mono HBS)).mono (by omega))
            go_wp2
            try rw [Exit.noGoto_ret]
            go_ret
            exact ⟨rfl, hb7⟩
          · have q2 : (20000 : Int) < (X.t.size : Int) := by omega
            have q2' : decide ((20000 : Int) < (X.t.size : Int)) = true := decide_eq_true (by omega)
            clear hfl
            go_wp2
            have kq0 := cell_regrown (w := (wr.alloc (.cells #[.string X.n, .string X.t, .int .i64 X.k] 130))) z0
            have kq1 := cell_regrown (w := (wr.alloc (.cells #[.string X.n, .string X.t, .int .i64 X.k] 130))) z1
            have kq2 := cell_regrown (w := (wr.alloc (.cells #[.string X.n, .string X.t, .int .i64 X.k] 130))) z2
            have kq3 := cell_regrown (w := (wr.alloc (.cells #[.string X.n, .string X.t, .int .i64 X.k] 130))) z3
            have cq0 := fun d os => Calls.regrown_of (w := (wr.alloc (.cells #[.string X.n, .string X.t, .int .i64 X.k] 130))) (d := d) (os := os) (HNM.out _)
            have cq1 := fun d os => Calls.regrown_of (w := (wr.alloc (.cells #[.string X.n, .string X.t, .int .i64 X.k] 130))) (d := d) (os := os) (HIN.out _)
            refine wp_region_quiet_below (by kernel_rfl) (by kernel_rfl) ?_
            repeat (go_big_quiet_step (first | exact cq0 _ _ | exact cq1 _ _))
            refine wpQuiet_nil ?_
            rintro _ ⟨⟨dq, osq⟩, rfl⟩
            have hb6 := below_regrown ((wr.alloc (.cells #[.string X.n, .string X.t, .int .i64 X.k] 130))) dq osq
            generalize grow (redrawn ((wr.alloc (.cells #[.string X.n, .string X.t, .int .i64 X.k] 130))) dq) osq = w6 at *
            clear kq0 kq1 kq2 kq3 cq0 cq1
            have hb7 := HB.out.trans ((HBW.out.trans (hb6.mono HBS)).mono (by omega))
            go_wp2
            try rw [Exit.noGoto_ret]
            go_ret
            exact ⟨rfl, hb7⟩
      · have hfl2 := hfl
        rw [HX.out.2] at hfl2
        simp only [Bool.and_eq_true, decide_eq_true_eq] at hfl2
        obtain ⟨rfl, h2, rfl⟩ := hfl2
        have q2 : ¬ (20000 : Int) < (X.t.size : Int) := by omega
        have q2' : decide ((20000 : Int) < (X.t.size : Int)) = false := decide_eq_false (by omega)
        by_cases h0 : m = 0
        · have HU2 : Hid (F.Upto L (m + 1)) := HU.out.step (by omega) (by rw [HX.out.1]; exact hfl) (fun h => by omega)
          have q0 : ¬ (0 : Int) < (m : Int) := by omega
          have q0' : decide (0 < m) = false := decide_eq_false (by omega)
          clear hrs HVV HX HU HA HR h0 hfl
          go_wp2
          have kq0 := cell_regrown (w := (wr.alloc (.cells #[.string X.n, .string X.t, .int .i64 X.k] 130))) z0
          have kq1 := cell_regrown (w := (wr.alloc (.cells #[.string X.n, .string X.t, .int .i64 X.k] 130))) z1
          have kq2 := cell_regrown (w := (wr.alloc (.cells #[.string X.n, .string X.t, .int .i64 X.k] 130))) z2
          have kq3 := cell_regrown (w := (wr.alloc (.cells #[.string X.n, .string X.t, .int .i64 X.k] 130))) z3
          have cq0 := fun d os => Calls.regrown_of (w := (wr.alloc (.cells #[.string X.n, .string X.t, .int .i64 X.k] 130))) (d := d) (os := os) (HNM.out _)
          have cq1 := fun d os => Calls.regrown_of (w := (wr.alloc (.cells #[.string X.n, .string X.t, .int .i64 X.k] 130))) (d := d) (os := os) (HIN.out _)
          refine wp_region_quiet_below (by kernel_rfl) (by kernel_rfl) ?_
          repeat (go_big_quiet_step (first | exact cq0 _ _ | exact cq1 _ _))
          refine wpQuiet_nil ?_
          rintro _ ⟨⟨dq, osq⟩, rfl⟩
          have hb6 := below_regrown ((wr.alloc (.cells #[.string X.n, .string X.t, .int .i64 X.k] 130))) dq osq
          generalize grow (redrawn ((wr.alloc (.cells #[.string X.n, .string X.t, .int .i64 X.k] 130))) dq) osq = w6 at *
          clear kq0 kq1 kq2 kq3 cq0 cq1
          have hb7 := HBW.out.trans (hb6.mono HBS)
          go_wp2
          go_roundw
          case rel => exact ⟨m + 1, by omega, by go_num, HU2, hb7⟩
          case measure => simp [intOf]; omega
        · obtain ⟨p, rfl⟩ : ∃ p, m = p + 1 := ⟨m - 1, by omega⟩
          obtain ⟨e0, _, _⟩ := hrs.file p (by omega)
          obtain ⟨Y, hY⟩ : ∃ Y, (L[p]'(by omega)).n = Y := ⟨_, rfl⟩
          rw [hY] at e0
          have HY : Hid ((L[p]'(by omega)).n = Y) := hY
          clear hY
          have z4 : (wr.alloc (.cells #[.string X.n, .string X.t, .int .i64 X.k] 130)).cell? ⟨ga, oa + p * 3, none⟩ = some (.string Y) := (cell_kept (Below.heap_alloc _ _ ga hgs)).trans e0
          have q0 : (0 : Int) < ((p + 1 : Nat) : Int) := by omega
          have q0' : decide ((0 : Int) < ((p + 1 : Nat) : Int)) = true := decide_eq_true q0
          have q0'' : decide ((0 : Int) < (p : Int) + 1) = true := decide_eq_true (by omega)
          have j1' : IntKind.i64.wrap (p : Int) = (p : Int) := IntWalk.i64_in _ (by omega)
          have j2 : (0 : Int) ≤ (p : Int) := by omega
          have j3 : (p : Int) < (n : Int) := by omega
          cases hlt2 : F.ltN Y X.n
          · have hF : R = false := by rw [← HR.out, F.diskB_no]; exact F.not_ok_adj (m := p + 1) (by omega) (by omega) (by rw [HX.out.1]; show F.ltN (L[p]'(by omega)).n X.n = false; rw [HY.out]; exact hlt2)
            subst hF
            have q4 : Op.bytesLess Y.toList X.n.toList = false := hlt2
            clear hrs HVV HX HU HA HR hfl
            go_wp2
            have kq0 := cell_regrown (w := (wr.alloc (.cells #[.string X.n, .string X.t, .int .i64 X.k] 130))) z0
            have kq1 := cell_regrown (w := (wr.alloc (.cells #[.string X.n, .string X.t, .int .i64 X.k] 130))) z1
            have kq2 := cell_regrown (w := (wr.alloc (.cells #[.string X.n, .string X.t, .int .i64 X.k] 130))) z2
            have kq3 := cell_regrown (w := (wr.alloc (.cells #[.string X.n, .string X.t, .int .i64 X.k] 130))) z3
            have kq4 := cell_regrown (w := (wr.alloc (.cells #[.string X.n, .string X.t, .int .i64 X.k] 130))) z4
            have cq0 := fun d os => Calls.regrown_of (w := (wr.alloc (.cells #[.string X.n, .string X.t, .int .i64 X.k] 130))) (d := d) (os := os) (HNM.out _)
            have cq1 := fun d os => Calls.regrown_of (w := (wr.alloc (.cells #[.string X.n, .string X.t, .int .i64 X.k] 130))) (d := d) (os := os) (HIN.out _)
            refine wp_region_quiet_below (by kernel_rfl) (by kernel_rfl) ?_
            repeat (go_big_quiet_step (first | exact cq0 _ _ | exact cq1 _ _))
            refine wpQuiet_nil ?_
            rintro _ ⟨⟨dq, osq⟩, rfl⟩
            have hb6 := below_regrown ((wr.alloc (.cells #[.string X.n, .string X.t, .int .i64 X.k] 130))) dq osq
            generalize grow (redrawn ((wr.alloc (.cells #[.string X.n, .string X.t, .int .i64 X.k] 130))) dq) osq = w6 at *
            clear kq0 kq1 kq2 kq3 kq4 cq0 cq1
            have hb7 := HB.out.trans ((HBW.out.trans (hb6.mono HBS)).mono (by omega))
            go_wp2
            try rw [Exit.noGoto_ret]
            go_ret
            exact ⟨rfl, hb7⟩
          · have HU2 : Hid (F.Upto L (p + 1 + 1)) := HU.out.step (by omega) (by rw [HX.out.1]; exact hfl) (fun h => by rw [HX.out.1]; show F.ltN (L[p]'(by omega)).n X.n = true; rw [HY.out]; exact hlt2)
            have q4 : Op.bytesLess Y.toList X.n.toList = true := hlt2
            clear hrs HVV HX HU HA HR hfl
            go_wp2
            have kq0 := cell_regrown (w := (wr.alloc (.cells #[.string X.n, .string X.t, .int .i64 X.k] 130))) z0
            have kq1 := cell_regrown (w := (wr.alloc (.cells #[.string X.n, .string X.t, .int .i64 X.k] 130))) z1
            have kq2 := cell_regrown (w := (wr.alloc (.cells #[.string X.n, .string X.t, .int .i64 X.k] 130))) z2
            have kq3 := cell_regrown (w := (wr.alloc (.cells #[.string X.n, .string X.t, .int .i64 X.k] 130))) z3
            have kq4 := cell_regrown (w := (wr.alloc (.cells #[.string X.n, .string X.t, .int .i64 X.k] 130))) z4
            have cq0 := fun d os => Calls.regrown_of (w := (wr.alloc (.cells #[.string X.n, .string X.t, .int .i64 X.k] 130))) (d := d) (os := os) (HNM.out _)
            have cq1 := fun d os => Calls.regrown_of (w := (wr.alloc (.cells #[.string X.n, .string X.t, .int .i64 X.k] 130))) (d := d) (os := os) (HIN.out _)
            refine wp_region_quiet_below (by kernel_rfl) (by kernel_rfl) ?_
            repeat (go_big_quiet_step (first | exact cq0 _ _ | exact cq1 _ _))
            refine wpQuiet_nil ?_
            rintro _ ⟨⟨dq, osq⟩, rfl⟩
            have hb6 := below_regrown ((wr.alloc (.cells #[.string X.n, .string X.t, .int .i64 X.k] 130))) dq osq
            generalize grow (redrawn ((wr.alloc (.cells #[.string X.n, .string X.t, .int .i64 X.k] 130))) dq) osq = w6 at *
            clear kq0 kq1 kq2 kq3 kq4 cq0 cq1
            have hb7 := HBW.out.trans (hb6.mono HBS)
            go_wp2
            go_roundw
            case rel => exact ⟨p + 1 + 1, by omega, by go_num, HU2, hb7⟩
            case measure => simp [intOf]; omega
    · have hme : m = n := by omega
      have hF : R = true := by rw [← HR.out, F.diskB_iff]; exact F.Upto.ok (by rw [hn, ← hme]; exact HU.out) (by omega)
      subst hF
      subst hme
      clear HU HR HVV HA
      go_wp2
      go_ret
      exact ⟨rfl, HB.out.trans (hbel.mono (by omega))⟩

end Go.Proofs.YtklpanjedolkdaaGreatDoor
