/-
  A leaf dropped from a list: the specification's answer.
-/
import Derived.Test.YtofdlkfihhjlgaaDoorNb
namespace Go.Proofs.YtofdlkfihhjlgaaDoor
open Go.RowKit Go.BigFrame Go.Sort
set_option linter.unusedVariables false
set_option linter.unusedSimpArgs false

set_option maxRecDepth 100000 in
set_option maxHeartbeats 2000000 in
theorem sLeafDrop_any (p : Option Addr) (cap : Nat) (ga oa : Nat) (L : List Le) (x : ByteArray) (w : World) (hv : RS 2 lcs w (.slice p L.length cap) ga oa L) (hnil : p = none → cap = 0) (hsm : SmallL L) (hL : L.length ≤ 1048576) :
    Calls Tryd.prog 10 #[.slice p L.length cap, .string x] w (LqP (LV.dropR L x) (LV.dropB L x) w) := by
  have HV : Hid (RS 2 lcs w (.slice p L.length cap) ga oa L ∧ SmallL L) := ⟨hv, hsm⟩
  have h0 := sLeafGet_any _ ga oa L x w hv
  have HDB : Hid (LV.dropB L x = (LV.leavesB L && LV.getB L x)) := rfl
  have HNO : Hid (∀ W v', OL w.heap.size w W v' L → LV.dropB L x = false → LqP (LV.dropR L x) (LV.dropB L x) w (.returned (.tuple #[v', .bool false])) W) := fun W v' ho hf => by
    rw [dropR_no hf, hf]
    obtain ⟨gz, hrz, hgz, _⟩ := ho.rw (by omega)
    obtain ⟨az, cz, rfl⟩ := ho.shape
    exact ⟨az, cz, gz, rfl, hrz, hgz, ho.2.1⟩
  have HYE : Hid (∀ V W v', Below w.heap.size w V → OL V.heap.size V W v' (LV.wout L x) → LV.dropB L x = true → LqP (LV.dropR L x) (LV.dropB L x) w (.returned (.tuple #[v', .bool true])) W) := fun V W v' hV ho hf => by
    rw [dropR_yes hf, hf]
    obtain ⟨gz, hrz, hgz, _⟩ := ho.rw (by have := LV.len_wout_le L x; omega)
    obtain ⟨az, cz, rfl⟩ := ho.shape
    exact ⟨az, cz, gz, rfl, hrz, by have := hV.size; omega, hV.trans (ho.2.1.mono hV.size)⟩
  have HOK : Hid (∀ W, Below w.heap.size w W → Calls Tryd.prog 18 #[.slice p L.length cap] W fun e w' => e = .returned (.bool (LV.leavesB L)) ∧ Below W.heap.size W w') := fun W hW => sLeavesOk_any _ ga oa L W (hv.later hW) hsm
  have HWO : Hid (∀ W, Below w.heap.size w W → Calls Tryd.prog 35 #[.slice p L.length cap, .string x] W fun e w' => ∃ u, e = .returned u ∧ OL W.heap.size W w' u (LV.wout L x)) := fun W hW => l09Without_any _ ga oa L x W (hv.later hW)
  clear hv hsm
  generalize LV.getV L x = T at *
  go_enter Tryd.func10, Tryd.ntmps10
  go_wp2_with fail
  refine h0.mono ?_
  rintro e w1 ⟨rfl, hb1⟩
  clear h0
  go_wp2_with fail
  refine (HOK.out _ hb1).mono ?_
  rintro e w2 ⟨rfl, hb2⟩
  have b2 := hb1.trans (hb2.mono hb1.size)
  clear hb1 hb2 HOK
  have ho6 : OL w.heap.size w (w2.alloc (.cells #[] 54)) (.slice (some ⟨w2.heap.size, 0, none⟩) 0 0) [] := OL.made _ w w2 b2 b2.size
  have hrs6 := HV.out.1.later (b2.alloc b2.size (.cells #[] 54))
  cases hR1 : LV.leavesB L
  · rw [hR1, Bool.false_and] at HDB
    clear HWO HV
    go_wp2_with (at_builtin; refine wp_rowL rfl _ _ rfl w.heap.size w w2.heap.size rfl ho6 p ga oa cap L rfl hrs6 hnil ?_)
    intro v' w7 ho7
    have HF2 : Hid (LqP (LV.dropR L x) (LV.dropB L x) w (.returned (.tuple #[v', .bool false])) w7) := HNO.out w7 v' ho7 HDB.out
    clear ho7 ho6 hrs6 HNO HYE b2
    go_wp2
    go_ret2
    exact HF2.out
  · rw [hR1, Bool.true_and] at HDB
    cases hR2 : LV.getB L x
    · rw [hR2] at HDB
      clear HWO HV
      go_wp2_with (at_builtin; refine wp_rowL rfl _ _ rfl w.heap.size w w2.heap.size rfl ho6 p ga oa cap L rfl hrs6 hnil ?_)
      intro v' w7 ho7
      have HF2 : Hid (LqP (LV.dropR L x) (LV.dropB L x) w (.returned (.tuple #[v', .bool false])) w7) := HNO.out w7 v' ho7 HDB.out
      clear ho7 ho6 hrs6 HNO HYE b2
      go_wp2
      go_ret2
      exact HF2.out
    · rw [hR2] at HDB
      clear ho6 hrs6 HV
      go_wp2_with fail
      refine (HWO.out _ b2).mono ?_
      rintro e w3 ⟨u, rfl, ho3⟩
      have HF2 : Hid (LqP (LV.dropR L x) (LV.dropB L x) w (.returned (.tuple #[u, .bool true])) w3) := HYE.out w2 w3 u b2 ho3 HDB.out
      clear ho3 HNO HYE b2 HWO
      go_wp2
      go_ret2
      exact HF2.out

end Go.Proofs.YtofdlkfihhjlgaaDoor
