/-
  What figuresOf answers: what each byte counts as a figure, or none.
-/
import Derived.Test.YtihdpbdfadpahaaDoorHex
import Derived.Deep.LoopGhost
namespace Go.Proofs.YtihdpbdfadpahaaDoor
open Go.RowKit
set_option linter.unusedVariables false

def figV (base : Nat) (b : UInt8) : Option Nat := (List.range base).find? (fun v => fig v == b)

theorem fig_inj : ∀ x y : Fin 16, fig x.val = fig y.val → x = y := by decide

theorem figV_some (base v : Nat) (b : UInt8) (hb : base ≤ 16) (hv : v < base) (h : fig v = b) : figV base b = some v := by
  unfold figV
  cases hf : (List.range base).find? (fun v => fig v == b) with
  | none =>
    have := List.find?_eq_none.1 hf v (List.mem_range.2 hv)
    simp [h] at this
  | some u =>
    have h1 := List.find?_some hf
    have h2 := List.mem_of_find?_eq_some hf
    have h3 := List.mem_range.1 h2
    simp at h1
    have h4 := fig_inj ⟨u, by omega⟩ ⟨v, by omega⟩ (by rw [h1, h])
    simp at h4
    rw [h4]

theorem figV_none (base : Nat) (b : UInt8) (h : ∀ v, v < base → fig v ≠ b) : figV base b = none := by
  unfold figV
  rw [List.find?_eq_none]
  intro v hv
  simp
  exact h v (List.mem_range.1 hv)

theorem figV_lt (base v : Nat) (b : UInt8) (h : figV base b = some v) : v < base ∧ fig v = b := by
  unfold figV at h
  have h1 := List.find?_some h
  have h2 := List.mem_of_find?_eq_some h
  exact ⟨List.mem_range.1 h2, by simpa using h1⟩

def vals (base : Nat) : List UInt8 → Option (List Nat)
  | [] => some []
  | b :: r => (figV base b).bind fun v => (vals base r).map (v :: ·)

theorem vals_step (base k v : Nat) (l : List UInt8) (vs : List Nat) (b : UInt8) (hk : l[k]? = some b) (hv : figV base b = some v)
    (h : vals base l = (vals base (l.drop k)).map (vs ++ ·)) : vals base l = (vals base (l.drop (k + 1))).map ((vs ++ [v]) ++ ·) := by
  obtain ⟨hlt, he⟩ := List.getElem?_eq_some_iff.1 hk
  rw [h, List.drop_eq_getElem_cons hlt, he, vals, hv]
  cases vals base (l.drop (k + 1)) <;> simp

theorem vals_fail (base k : Nat) (l : List UInt8) (vs : List Nat) (b : UInt8) (hk : l[k]? = some b) (hv : figV base b = none)
    (h : vals base l = (vals base (l.drop k)).map (vs ++ ·)) : vals base l = none := by
  obtain ⟨hlt, he⟩ := List.getElem?_eq_some_iff.1 hk
  rw [h, List.drop_eq_getElem_cons hlt, he, vals, hv]
  rfl

/-- v owns the numbers l, in blocks from B on; below B all is as it was in w0 -/
def OI (B : Nat) (w0 w : World) (v : Value) (l : List Nat) : Prop :=
  w.ownsRow B 3 1 v l.length (l.map (fun n : Nat => Value.int .i64 (n : Int))) ∧ Below B w0 w ∧ B ≤ w.heap.size

theorem OI.alloc {B : Nat} {w0 w : World} {v : Value} {l : List Nat} (h : OI B w0 w v l) (o : Obj) : OI B w0 (w.alloc o) v l :=
  ⟨h.1.alloc o, h.2.1.alloc h.2.2 o, by have := h.2.2; simp; omega⟩
theorem OI.drew {B : Nat} {w0 w : World} {v : Value} {l : List Nat} (h : OI B w0 w v l) : OI B w0 w.drew v l :=
  ⟨h.1.drew, h.2.1.drew, h.2.2⟩
theorem below_drn {B : Nat} {a w : World} (h : Below B a w) (n : Nat) : Below B a (w.drewN n) := h.trans ⟨rfl, rfl, rfl, Nat.le_refl _, fun _ _ => rfl⟩
theorem OI.drewN {B : Nat} {w0 w : World} {v : Value} {l : List Nat} (h : OI B w0 w v l) (n : Nat) : OI B w0 (w.drewN n) v l :=
  ⟨h.1, below_drn h.2.1 n, h.2.2⟩

theorem run_mkI (n : Nat) (h : n ≤ 1000000000) (W : World) : ∃ M : Array Value, (Instr.makeSlice 39 (.int .i64 0) (.int .i64 (n : Int))).run Tryd.prog W = .ok (.slice (some ⟨W.heap.size, 0, none⟩) 0 n) (W.alloc (.cells M 3)) ∧ OI W.heap.size W (W.alloc (.cells M 3)) (.slice (some ⟨W.heap.size, 0, none⟩) 0 n) [] := by
  obtain ⟨i0, hi, hz0, hz1, hz2⟩ := info_parts Tryd.info3
  have h1 := run_make (P := Tryd.prog) W 39 3 i0 (.int .i64 0) Tryd.underlying39 hi hz0 .i64 .i64 0 (n : Int) (by omega) (by omega) (by rw [hz2]; omega) (by omega)
  refine ⟨madeCells (Value.int .i64 0).cells (((n : Nat) : Int).toNat * i0.size), by simpa using h1, ?_⟩
  refine ⟨World.ownsRow_made W _ n (Nat.le_refl _) (by unfold maxLen; omega) ?_, (Below.refl _ _).alloc (Nat.le_refl _) _, by simp⟩
  rw [size_madeCells, hz1]
  simp

theorem wp_appI {w : World} {ops : Array Oper} {rest : List Oper} {o : Oper} {a : Act} {Q : Exit → Act → World → Prop} (hgd : o.guard = none) (s x : Operand)
    (ho : o.op = .call { callee := .builtin .append, args := #[s, x], argTypes := #[39, 39] })
    (B : Nat) (w0 : World) (v : Value) (l : List Nat) (hs : a.eval s = v) (hown : OI B w0 w v l)
    (ad : Addr) (n : Nat) (hx : a.eval x = .slice (some ad) 1 1) (hnews : w.cell? ad = some (.int .i64 (n : Int))) (hlen : l.length ≤ 1000000000)
    (h : ∀ v' w', OI B w0 w' v' (l ++ [n]) → wpList Tryd.prog ops Q rest (a.put o.dst v') w') : wpList Tryd.prog ops Q (o :: rest) a w := by
  obtain ⟨i0, hi, hz0, hz1, hz2⟩ := info_parts Tryd.info3
  refine wpList_append_own _ hgd s x 39 ho B 3 i0 (.int .i64 0) 1 8 Tryd.underlying39 hi hz0 hz1 hz2 rfl (by decide) v l.length (l.map (fun n : Nat => Value.int .i64 (n : Int))) hs hown.1 ad 1 1 [.int .i64 (n : Int)] hx rfl ?_
    (fun u hu => by simp at hu; subst hu; rfl) (by unfold maxLen; omega) (by omega) hown.2.2 ?_
  · intro j u hj
    match j, hj with
    | 0, hj =>
      simp at hj
      subst hj
      have : ad.add 0 = ad := by unfold Addr.add; split <;> simp_all
      rw [this]
      exact hnews
  · intro v' w' h1 h2 _
    refine h v' w' ⟨by simpa using h1, hown.2.1.grown h2 hown.2.2 (fun k hk => (hown.1.lt k hk).1), ?_⟩
    exact Nat.le_trans hown.2.2 h2.size

theorem run_figj (x : Nat) (h1 : x < 16) (w : World) : (Instr.index 9 (.string ⟨#[48, 49, 50, 51, 52, 53, 54, 55, 56, 57, 97, 98, 99, 100, 101, 102]⟩) (.int .i64 (x : Int))).run Tryd.prog w = .ok (.int .u8 ((fig x).toNat : Int)) w := by
  have h2 := figs_at ⟨x, h1⟩
  have h3 : figs.size = 16 := rfl
  show (Instr.index 9 (.string figs) (.int .i64 (x : Int))).run Tryd.prog w = _
  rw [run_index_string (P := Tryd.prog) (w := w) 9 figs .i64 _ Tryd.underlying9]
  rw [dif_pos ⟨by omega, by rw [h3]; omega⟩]
  simp only [Int.toNat_natCast] at h2 ⊢
  have h4 : figs[x]? = some (figs[x]'(by rw [h3]; omega)) := getElem?_pos ..
  rw [h4] at h2
  simp only [Option.some.injEq] at h2
  rw [h2]

end Go.Proofs.YtihdpbdfadpahaaDoor
