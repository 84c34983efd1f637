/-
  The law FnExactShaBlock, walked.
-/
import Derived.Test.YtjfdgidhgijheaaDoorSbs
import Derived.ProofKit
import Derived.OpenShut
import Derived.ChangeOld
namespace Go.Proofs.YtjfdgidhgijheaaDoor
open Go.RowKit Go.BigFrame
set_option linter.unusedVariables false

/-- what ShaBlock answers -/
def AnsR (l : List Int) (b : ByteArray) (r : List Int) : Prop := (fitB l b → r = outI l b) ∧ (¬ fitB l b → r = l)
theorem ans_ex (l : List Int) (b : ByteArray) : ∃ r, AnsR l b r ∧ r.length = l.length := by
  by_cases h : fitB l b
  · exact ⟨outI l b, ⟨fun _ => rfl, fun hn => absurd h hn⟩, by rw [outI, stI_len]; exact h.1.symm⟩
  · exact ⟨l, ⟨fun hf => absurd hf h, fun _ => rfl⟩, rfl⟩

theorem sShaBlock_all (g n c : Nat) (l r : List Int) (b : ByteArray) (w : World) (hn : l.length = n) (hr : AnsR l b r) (hl : n ≤ 1100000) (hbs : b.size ≤ 1100000) (hi : IB w g l) :
    Calls Tryd.prog 14 #[.slice (some ⟨g, 0, none⟩) n c, .string b] w fun e w' => Ans w w' e r := by
  refine (sShaBlock_any g 0 n c l b w hn hl hbs hi.lt (fun j hj => by rw [Nat.zero_add]; exact hi.cell j hj)).mono fun e w' h => ?_
  by_cases hf : fitB l b
  · rw [hr.1 hf]; exact h.1 hf
  · rw [hr.2 hf]; exact h.2 hf
theorem ShaBlock_all (g n c : Nat) (l r : List Int) (b : ByteArray) (w : World) (hn : l.length = n) (hr : AnsR l b r) (hl : n ≤ 1100000) (hbs : b.size ≤ 1100000) (hi : IB w g l) (hK : TabK w) :
    Calls Tryd.prog 8 #[.slice (some ⟨g, 0, none⟩) n c, .string b] w fun e w' => Ans w w' e r := by
  have hc : ∀ j (h : j < l.length), w.cell? ⟨g, 0 + j, none⟩ = some (.int .i64 l[j]) := fun j hj => by rw [Nat.zero_add]; exact hi.cell j hj
  by_cases hf : fitB l b
  · rw [hr.1 hf]
    have h8 : n = 8 := by rw [← hn]; exact hf.1
    subst h8
    exact ShaBlock_yes g 0 c l b w hf hi.lt hc hK
  · rw [hr.2 hf]
    exact ShaBlock_no g 0 n c l b w hn hf hl hbs hi.lt hc

theorem IB.keep {w w' : World} {g : Nat} {l : List Int} (h : IB w g l) (e : w'.heap[g]? = w.heap[g]?) : IB w' g l := by
  obtain ⟨cur, h1, h2⟩ := h
  exact ⟨cur, by rw [e]; exact h1, h2⟩
def Only (g : Nat) (w w' : World) : Prop := ∀ k, k ≠ g → w'.heap[k]? = w.heap[k]?
def MkO (l : List Int) (w : World) (g B : Nat) (k i : Value) (wr : World) : Prop := ∃ m : Nat, m ≤ l.length ∧ i = .int .i64 m ∧ k = .int .i64 ((m : Int) + 1) ∧ IB wr g (mrow l m) ∧ Below B w wr ∧ Only g w wr

def IsRowI (w : World) (a : Option Addr) (len cap : Nat) (zs : List Int) : Prop :=
  (a = none ∧ len = 0 ∧ cap = 0 ∧ zs = []) ∨
  ∃ x, a = some x ∧ len ≤ cap ∧ cap ≤ maxLen ∧ zs.length = cap ∧ (∀ i, i < zs.length → w.cell? (x.add i) = some (.int .i64 (zs.getD i 0)))
theorem IsRowI.len {w : World} {a : Option Addr} {len cap : Nat} {zs : List Int} (h : IsRowI w a len cap zs) : len ≤ maxLen := by
  rcases h with ⟨_, rfl, _⟩ | ⟨x, _, h1, h2, _⟩
  · omega
  · omega
theorem sv_of_row {w : World} {a : Option Addr} {len cap : Nat} {zs : List Int} (h : IsRowI w a len cap zs) (hl : len ≤ 1048576) : ∃ (g o : Nat) (l : List Int), l.length = len ∧ SV w (.slice a len cap) g o l ∧ (0 < l.length → g < w.heap.size) := by
  rcases h with ⟨rfl, rfl, rfl, rfl⟩ | ⟨x, rfl, h1, h2, h3, hc⟩
  · exact ⟨0, 0, [], rfl, ⟨none, 0, rfl, by simp, fun h => absurd h (by simp), fun j hj => absurd hj (by simp)⟩, fun h => absurd h (by simp)⟩
  · have hlen : (zs.take len).length = len := by simp; omega
    have hadd : ∀ j, 0 < len → x.add j = ⟨x.block, x.off + j, none⟩ := fun j h0 => by
      have h4 := hc 0 (by omega)
      have e : x.add 0 = x := by unfold Addr.add; simp
      rw [e] at h4
      have hs := World.cell?_spot h4
      cases x
      simp at hs
      subst hs
      unfold Addr.add
      split <;> simp_all
    refine ⟨x.block, x.off, zs.take len, hlen, ⟨some x, cap, by rw [hlen], by omega, fun h0 => ?_, fun j hj => ?_⟩, fun h0 => ?_⟩
    · have := hadd 0 (by omega)
      have e : x.add 0 = x := by unfold Addr.add; simp
      rw [e] at this
      rw [this]
    · have h4 := hc j (by omega)
      rw [hadd j (by omega)] at h4
      rw [h4]
      simp [List.getD, List.getElem?_eq_getElem (show j < zs.length by omega)]
    · have h4 := hc 0 (by omega)
      have e : x.add 0 = x := by unfold Addr.add; simp
      rw [e] at h4
      rcases Nat.lt_or_ge x.block w.heap.size with hlt | hge
      · exact hlt
      · simp [World.cell?, Array.getElem?_eq_none hge] at h4

end Go.Proofs.YtjfdgidhgijheaaDoor
