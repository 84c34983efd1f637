/-
  Texts laid together: Dsi.
-/
import Derived.Test.YtaejeemjndmjcaaDoorPkS44
/-
  A row of numbers that a call owns, looked through.
-/
namespace Go.Proofs.YtaejeemjndmjcaaDoor
open Go.RowKit
set_option linter.unusedVariables false
set_option linter.unusedSimpArgs false

theorem ints_shape {w : World} {B : Nat} {v : Value} {l : List Nat} (ho : w.ownsRow B 3 1 v l.length (iv l)) : ∃ a cap g, v = .slice a l.length cap ∧ ∀ j, (h : j < l.length) → a = some ⟨g, 0, none⟩ ∧ w.cell? ⟨g, j, none⟩ = some (.int .i64 (l[j] : Int)) := by
  rcases Nat.eq_zero_or_pos l.length with h0 | h0
  · rcases ho.2 with ⟨hv, _⟩ | ⟨g, cap, cur, hv, _⟩
    · exact ⟨none, 0, 0, by rw [hv, h0], fun j h => by omega⟩
    · exact ⟨_, cap, g, hv, fun j h => by omega⟩
  · obtain ⟨g, cap, rfl, _⟩ := World.ownsRow.form ho h0
    refine ⟨_, cap, g, rfl, fun j h => ⟨rfl, ?_⟩⟩
    rw [ho.cellAt j (by omega)]
    simp [iv, List.getElem?_eq_getElem h]

def InR (l : List Nat) (w : World) (i : Value) (wr : World) : Prop := ∃ m : Nat, m ≤ l.length ∧ i = .int .i64 m ∧ wr = w
set_option maxRecDepth 100000 in
set_option maxHeartbeats 1000000 in
theorem in_no (B : Nat) (v : Value) (l : List Nat) (x : Nat) (w : World) (ho : w.ownsRow B 3 1 v l.length (iv l)) (hl : l.length ≤ 100) (hx : x ∉ l) :
    Calls Tryd.prog 22 #[v, .int .i64 (x : Int)] w fun e w' => e = .returned (.bool false) ∧ w' = w := by
  obtain ⟨a, cap, g, rfl, hc⟩ := ints_shape ho
  have HC : Hid (∀ j, (h : j < l.length) → a = some ⟨g, 0, none⟩ ∧ w.cell? ⟨g, j, none⟩ = some (.int .i64 (l[j] : Int))) := hc
  have HN : Hid (∀ j, (h : j < l.length) → ((l[j] : Int) == (x : Int)) = false) := fun j h => by
    rw [beq_eq_false_iff_ne]
    intro he
    apply hx
    have : l[j] = x := by exact_mod_cast he
    rw [← this]
    exact List.getElem_mem _
  have HST : Hid (InR l w (.int .i64 0) w) := ⟨0, by omega, rfl, rfl⟩
  obtain ⟨n, hn⟩ : ∃ n, l.length = n := ⟨_, rfl⟩
  have HL : Hid (l.length = n) := hn
  rw [hn] at hl ⊢
  clear hc hx ho hn
  go_enter Tryd.func22, Tryd.ntmps22
  go_wp2
  go_loopw [5] (fun i wr => InR l w i wr) (fun i _ => n - (intOf i).toNat)
  case atStart => exact HST.out
  case round =>
    obtain ⟨m, hm, rfl, rfl⟩ := hrel
    clear HST
    by_cases hlt : m < n
    · obtain ⟨rfl, hc⟩ := HC.out m (by rw [HL.out]; exact hlt)
      have hne := HN.out m (by rw [HL.out]; exact hlt)
      generalize l[m]'(by rw [HL.out]; exact hlt) = y at *
      have HN2 : Hid (InR l wr (.int .i64 ((m : Int) + 1)) wr) := ⟨m + 1, by rw [HL.out]; omega, by go_num, rfl⟩
      clear HC HN
      go_wp2
      go_roundw
      case rel => exact HN2.out
      case measure => simp [intOf] <;> omega
    · have hme : ¬ (m : Int) < (n : Int) := by omega
      clear HC HN
      go_wp2
      go_ret
      exact ⟨rfl, rfl⟩

end Go.Proofs.YtaejeemjndmjcaaDoor
