/-
  A leaf looked for, a leaf and a row of leaves copied: the program's and the specification's answers.
-/
import Derived.Test.YtiabodhgjeoejaaLo
namespace Go.Proofs.Ytiabodhgjeoejaa
open Go.RowKit Go.BigFrame Go.Sort
set_option linter.unusedVariables false
set_option linter.unusedSimpArgs false

namespace LV
/-- none of the first m has this name -/
def NotIn (L : List Le) (x : ByteArray) (m : Nat) : Prop := ∀ j (h : j < L.length), j < m → L[j].n ≠ x
theorem NotIn.zero (L : List Le) (x : ByteArray) : NotIn L x 0 := fun j _ h => by omega
theorem NotIn.step {L : List Le} {x : ByteArray} {m : Nat} (h : NotIn L x m) (hm : m < L.length) (hne : L[m].n ≠ x) : NotIn L x (m + 1) := by
  intro j hj hlt
  rcases Nat.lt_or_ge j m with h1 | h1
  · exact h j hj h1
  · have : j = m := by omega
    subst this
    exact hne
theorem NotIn.here {L : List Le} {x : ByteArray} {m : Nat} (h : NotIn L x m) (hm : m < L.length) (he : L[m].n = x) : find L x = some L[m] := by
  have h1 : L = L.take m ++ L[m] :: L.drop (m + 1) := by simp
  unfold find
  rw [List.find?_eq_some_iff_append]
  refine ⟨by simpa using he, L.take m, L.drop (m + 1), by simp, fun a ha => ?_⟩
  obtain ⟨j, hj, rfl⟩ := List.getElem_of_mem ha
  rw [List.length_take] at hj
  rw [List.getElem_take]
  simpa using h j (by omega) (by omega)
theorem NotIn.none {L : List Le} {x : ByteArray} (h : NotIn L x L.length) : find L x = none := by
  unfold find
  rw [List.find?_eq_none]
  intro a ha
  obtain ⟨j, hj, rfl⟩ := List.getElem_of_mem ha
  simpa using h j hj hj
theorem get_some {L : List Le} {x : ByteArray} {f : Le} (h : find L x = some f) : getV L x = f.v ∧ getB L x = true := by
  unfold getV getB
  rw [h]
  exact ⟨rfl, rfl⟩
theorem get_none {L : List Le} {x : ByteArray} (h : find L x = none) : getV L x = ⟨#[]⟩ ∧ getB L x = false := by
  unfold getV getB
  rw [h]
  exact ⟨rfl, rfl⟩
theorem bytes_ne {a b : ByteArray} (h : a ≠ b) : (a.toList == b.toList) = false := by
  rw [beq_eq_false_iff_ne]
  exact fun e => h (F.toList_inj e)
end LV

def LgR (L : List Le) (x : ByteArray) (w : World) (i : Value) (wr : World) : Prop := ∃ m : Nat, m ≤ L.length ∧ i = .int .i64 m ∧ Hid (LV.NotIn L x m) ∧ Below w.heap.size w wr

set_option maxRecDepth 100000 in
set_option maxHeartbeats 1000000 in
theorem LeafGet_any (v : Value) (ga oa : Nat) (L : List Le) (x : ByteArray) (w : World) (hv : RS 2 lcs w v ga oa L) (hsm : SmallL L) :
    Calls Try.prog 16 #[v, .string x] w fun e w' => e = .returned (.tuple #[.string (LV.getV L x), .bool (LV.getB L x)]) ∧ Below w.heap.size w w' := by
  obtain ⟨R, hR⟩ : ∃ R, LV.getV L x = R := ⟨_, rfl⟩
  obtain ⟨b, hb⟩ : ∃ b, LV.getB L x = b := ⟨_, rfl⟩
  have HVV : Hid (RS 2 lcs w v ga oa L) := hv
  obtain ⟨a, cap, rfl, hl, hA, hc⟩ := hv
  obtain ⟨n, hn⟩ : ∃ n, L.length = n := ⟨_, rfl⟩
  have HA : Hid (0 < n → a = some ⟨ga, oa, none⟩) := by rw [← hn]; exact fun h => (hA h).1
  have HSM : Hid (SmallL L) := hsm
  have HR : Hid (LV.getV L x = R ∧ LV.getB L x = b) := ⟨hR, hb⟩
  have HST : Hid (LgR L x w (.int .i64 0) w) := ⟨0, by omega, rfl, LV.NotIn.zero L x, Below.refl _ _⟩
  rw [hR, hb]
  rw [hn] at hl ⊢
  clear hc hA hR hb hsm
  go_enter Try.func16, Try.ntmps16
  go_wp2
  go_loopw [10] (fun i wr => LgR L x w i wr) (fun i _ => n - (intOf i).toNat)
  case atStart => exact HST.out
  case round =>
    obtain ⟨m, hm, rfl, HU, hbel⟩ := hrel
    rw [hn] at hm
    clear HST
    by_cases hlt : m < n
    · have ea := HA.out (by omega)
      subst ea
      have hrs := HVV.out.later hbel
      obtain ⟨c0, c1⟩ := hrs.leaf m (by omega)
      have i1 : (m : Int) < (n : Int) := by omega
      have i2 : (0 : Int) ≤ (m : Int) := by omega
      obtain ⟨X, hX⟩ : ∃ X, L[m]'(by omega) = X := ⟨_, rfl⟩
      rw [hX] at c0 c1
      have hxs := HSM.out X (by rw [← hX]; exact List.getElem_mem _)
      have hbw : Below w.heap.size w (wr.alloc (.cells #[.string X.n, .string X.v] 73)) := hbel.alloc hbel.size _
      clear HSM HVV hrs HA
      by_cases he : X.n = x
      · have hF := LV.get_some (HU.out.here (by omega) (by rw [hX]; exact he))
        rw [hX, HR.out.1, HR.out.2] at hF
        obtain ⟨rfl, rfl⟩ := hF
        have q : (X.n.toList == x.toList) = true := by rw [he]; simp
        clear HU HR hX he
        go_wp2_with fail
        refine (Clone_any X.v _ hxs.2).mono ?_
        rintro e w1 ⟨rfl, hb1⟩
        have hb2 := hbw.trans (hb1.mono hbw.size)
        go_wp2
        try rw [Exit.noGoto_ret]
        go_ret2
        exact ⟨rfl, hb2⟩
      · have HU2 : Hid (LV.NotIn L x (m + 1)) := HU.out.step (by omega) (by rw [hX]; exact he)
        have q : (X.n.toList == x.toList) = false := LV.bytes_ne he
        clear HU HR hX he
        go_wp2
        go_roundw
        case rel => exact ⟨m + 1, by omega, by go_num, HU2, hbw⟩
        case measure => simp [intOf]; omega
    · have hme : m = n := by omega
      have hF := LV.get_none (L := L) (x := x) (LV.NotIn.none (by rw [hn, ← hme]; exact HU.out))
      rw [HR.out.1, HR.out.2] at hF
      obtain ⟨rfl, rfl⟩ := hF
      subst hme
      clear HU HR HVV HA HSM
      go_wp2
      go_ret2
      exact ⟨rfl, hbel⟩

set_option maxRecDepth 100000 in
set_option maxHeartbeats 1000000 in
theorem sLeafGet_any (v : Value) (ga oa : Nat) (L : List Le) (x : ByteArray) (w : World) (hv : RS 2 lcs w v ga oa L) :
    Calls Try.prog 90 #[v, .string x] w fun e w' => e = .returned (.tuple #[.string (LV.getV L x), .bool (LV.getB L x)]) ∧ Below w.heap.size w w' := by
  obtain ⟨R, hR⟩ : ∃ R, LV.getV L x = R := ⟨_, rfl⟩
  obtain ⟨b, hb⟩ : ∃ b, LV.getB L x = b := ⟨_, rfl⟩
  have HVV : Hid (RS 2 lcs w v ga oa L) := hv
  obtain ⟨a, cap, rfl, hl, hA, hc⟩ := hv
  obtain ⟨n, hn⟩ : ∃ n, L.length = n := ⟨_, rfl⟩
  have HA : Hid (0 < n → a = some ⟨ga, oa, none⟩) := by rw [← hn]; exact fun h => (hA h).1
  have HR : Hid (LV.getV L x = R ∧ LV.getB L x = b) := ⟨hR, hb⟩
  have HST : Hid (LgR L x w (.int .i64 0) w) := ⟨0, by omega, rfl, LV.NotIn.zero L x, Below.refl _ _⟩
  rw [hR, hb]
  rw [hn] at hl ⊢
  clear hc hA hR hb
  go_enter Try.func90, Try.ntmps90
  go_wp2
  go_loopw [6] (fun i wr => LgR L x w i wr) (fun i _ => n - (intOf i).toNat)
  case atStart => exact HST.out
  case round =>
    obtain ⟨m, hm, rfl, HU, hbel⟩ := hrel
    rw [hn] at hm
    clear HST
    by_cases hlt : m < n
    · have ea := HA.out (by omega)
      subst ea
      have hrs := HVV.out.later hbel
      obtain ⟨c0, c1⟩ := hrs.leaf m (by omega)
      have i1 : (m : Int) < (n : Int) := by omega
      have i2 : (0 : Int) ≤ (m : Int) := by omega
      obtain ⟨X, hX⟩ : ∃ X, L[m]'(by omega) = X := ⟨_, rfl⟩
      rw [hX] at c0 c1
      clear HVV hrs HA
      by_cases he : X.n = x
      · have hF := LV.get_some (HU.out.here (by omega) (by rw [hX]; exact he))
        rw [hX, HR.out.1, HR.out.2] at hF
        obtain ⟨rfl, rfl⟩ := hF
        have q : (X.n.toList == x.toList) = true := by rw [he]; simp
        clear HU HR hX he
        go_wp2
        try rw [Exit.noGoto_ret]
        go_ret2
        exact ⟨rfl, hbel⟩
      · have HU2 : Hid (LV.NotIn L x (m + 1)) := HU.out.step (by omega) (by rw [hX]; exact he)
        have q : (X.n.toList == x.toList) = false := LV.bytes_ne he
        clear HU HR hX he
        go_wp2
        go_roundw
        case rel => exact ⟨m + 1, by omega, by go_num, HU2, hbel⟩
        case measure => simp [intOf]; omega
    · have hme : m = n := by omega
      have hF := LV.get_none (L := L) (x := x) (LV.NotIn.none (by rw [hn, ← hme]; exact HU.out))
      rw [HR.out.1, HR.out.2] at hF
      obtain ⟨rfl, rfl⟩ := hF
      subst hme
      clear HU HR HVV HA
      go_wp2
      go_ret2
      exact ⟨rfl, hbel⟩

end Go.Proofs.Ytiabodhgjeoejaa
