/-
  What SignText answers where it doesn't sign, the program's and the specification's.
-/
import Derived.Test.YtdifilcdiacbpaaDoorSgv
import Derived.Deep.RegionLaw
import Derived.Deep.CutRange
import Derived.Deep.RegionHeld
import Derived.Test.YtdifilcdiacbpaaDoorSgu
namespace Go.Proofs.YtdifilcdiacbpaaDoor
open Go.RowKit Go.BigFrame
set_option linter.unusedVariables false
set_option linter.unusedSimpArgs false

theorem zSig_new (w : World) : Below w.heap.size w (w.alloc (.cells zSig 26)) ∧ SgM (w.alloc (.cells zSig 26)) w.heap.size 0 (.slice none 0 0) (.slice none 0 0) (.slice none 0 0) := ⟨(Below.refl _ _).alloc (Nat.le_refl _) _, SgM.new w 0 _ _ _⟩

set_option maxRecDepth 100000 in
set_option maxHeartbeats 1000000 in
theorem sSignText_len (s t : ByteArray) (x : Option Addr) (n cap : Nat) (a : Int) (w : World) (h : n ≠ 16) (hn : n ≤ 1100000) :
    Calls Tryd.prog 54 #[.string s, .slice x n cap, .int .i64 a, .string t] w fun e w' => e = .returned (.tuple #[.agg zSig, .bool false]) ∧ Below w.heap.size w w' := by
  have H0 : Hid _ := zSig_new w
  have q : ((n : Int) != 16) = true := by simp; omega
  clear h
  go_enter Tryd.func54, Tryd.ntmps54
  go_wp2_with (refine wp_storeSig rfl _ _ rfl w.heap.size 0 0 _ _ _ (.slice none 0 0) (.slice none 0 0) (.slice none 0 0) H0.out.2 rfl rfl rfl rfl rfl ?_; intro hfin)
  refine ret_sig2 8 9 w.heap.size 0 _ _ _ _ rfl rfl rfl rfl hfin ?_
  exact ⟨rfl, below_setRow H0.out.1 (Nat.le_refl _)⟩

set_option maxRecDepth 100000 in
set_option maxHeartbeats 1000000 in
theorem sSignText_off (s t : ByteArray) (x : Option Addr) (cap : Nat) (a : Int) (w : World) (ha : decide (0 ≤ a ∧ a ≤ 15) = false ∨ (decide (0 ≤ a ∧ a ≤ 15) = true ∧ 200 < t.size)) (ht : t.size ≤ 1100000) :
    Calls Tryd.prog 54 #[.string s, .slice x 16 cap, .int .i64 a, .string t] w fun e w' => e = .returned (.tuple #[.agg zSig, .bool false]) ∧ Below w.heap.size w w' := by
  have H0 : Hid _ := zSig_new w
  have HA : Hid _ := ha
  clear ha
  go_enter Tryd.func54, Tryd.ntmps54
  go_wp2_with fail
  refine (l01In_any _ _ _ _).mono ?_
  rintro e w1 ⟨rfl, rfl⟩
  rcases HA.out with hd | ⟨hd, hlong⟩
  · rw [hd]
    go_wp2_with (refine wp_storeSig rfl _ _ rfl w.heap.size 0 0 _ _ _ (.slice none 0 0) (.slice none 0 0) (.slice none 0 0) H0.out.2 rfl rfl rfl rfl rfl ?_; intro hfin)
    refine ret_sig2 8 9 w.heap.size 0 _ _ _ _ rfl rfl rfl rfl hfin ?_
    exact ⟨rfl, below_setRow H0.out.1 (Nat.le_refl _)⟩
  · rw [hd]
    have i1 : (200 : Int) < (t.size : Int) := by omega
    go_wp2_with (refine wp_storeSig rfl _ _ rfl w.heap.size 0 0 _ _ _ (.slice none 0 0) (.slice none 0 0) (.slice none 0 0) H0.out.2 rfl rfl rfl rfl rfl ?_; intro hfin)
    refine ret_sig2 8 9 w.heap.size 0 _ _ _ _ rfl rfl rfl rfl hfin ?_
    exact ⟨rfl, below_setRow H0.out.1 (Nat.le_refl _)⟩

set_option maxRecDepth 100000 in
set_option maxHeartbeats 1000000 in
theorem sSignText_key (s t : ByteArray) (v : Value) (ga oa a : Nat) (l : List ByteArray) (w : World) (hv : SS w v ga oa l) (hl : l.length = 16) (ha : a ≤ 15) (hs : s.size ≤ 100) (ht : t.size ≤ 200) (hk : gB l a ≠ pubB s a) :
    Calls Tryd.prog 54 #[.string s, v, .int .i64 a, .string t] w fun e w' => e = .returned (.tuple #[.agg zSig, .bool false]) ∧ Below w.heap.size w w' := by
  have H0 : Hid _ := zSig_new w
  have hpc := sPublicOf_yes s a (w.alloc (.cells zSig 26)) hs ha
  have hps := pubB_size s a hs
  have hnn := not_nil (D := pubB s a) (by omega)
  have HCL : Hid (∀ W, Below w.heap.size w W → W.cell? ⟨ga, oa + a, none⟩ = some (.string (gB l a))) := fun W hW => by
    obtain ⟨_, _, _, _, _, hc⟩ := hv.below hW hv.lt
    have := hc a (by omega)
    rw [gB_eq] at this
    exact this
  obtain ⟨x, cap, rfl, _, hA, hcc⟩ := hv
  have ea := hA (by omega)
  subst ea
  rw [hl]
  have hne : ((pubB s a).toList == (gB l a).toList) = false := by
    rw [beq_eq_false_iff_ne]
    intro he
    rw [ByteArray.toList_eq, ByteArray.toList_eq] at he
    exact hk (ByteArray.ext (Array.toList_inj.1 he)).symm
  have hd : decide ((0 : Int) ≤ (a : Int) ∧ (a : Int) ≤ 15) = true := by simp; omega
  clear hA hcc hl hk
  generalize pubB s a = K at *
  generalize gB l a = Y at *
  go_enter Tryd.func54, Tryd.ntmps54
  go_wp2_with fail
  refine (l01In_any _ _ _ _).mono ?_
  rintro e w1 ⟨rfl, rfl⟩
  go_wp2_with fail
  refine hpc.mono ?_
  rintro e w2 ⟨rfl, hb2⟩
  have b2 := H0.out.1.trans (hb2.mono H0.out.1.size)
  have hS2 := H0.out.2.later hb2
  have c0 := HCL.out w2 b2
  have i1 : (a : Int) < 16 := by omega
  have i2 : (0 : Int) ≤ (a : Int) := by omega
  clear hpc H0 hb2 HCL
  go_wp2_with (refine wp_storeSig rfl _ _ rfl w.heap.size 0 0 _ _ _ (.slice none 0 0) (.slice none 0 0) (.slice none 0 0) hS2 rfl rfl rfl rfl rfl ?_; intro hfin)
  refine ret_sig2 8 9 w.heap.size 0 _ _ _ _ rfl rfl rfl rfl hfin ?_
  exact ⟨rfl, below_setRow b2 (Nat.le_refl _)⟩

end Go.Proofs.YtdifilcdiacbpaaDoor
