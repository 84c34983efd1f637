/-
  What SigText answers of every signature, the program's and the specification's.
-/
import Derived.Test.YtmfoliocibjdnaaStx
namespace Go.Proofs.Ytmfoliocibjdnaa
open Go.RowKit Go.BigFrame
set_option linter.unusedVariables false

theorem SigText_all (a : Int) (vo vs vd : Value) (g1 o1 g2 o2 g3 o3 : Nat) (o s d : List ByteArray) (w : World) (ho : SS w vo g1 o1 o) (hs : SS w vs g2 o2 s) (hd : SS w vd g3 o3 d) :
    Calls Try.prog 31 #[.agg #[.int .i64 a, vo, vs, vd]] w fun e w' => e = .returned (.tuple #[.string (sigB a o s d), .bool (formB a o s d)]) ∧ Below w.heap.size w w' := by
  unfold sigB
  cases hf : formB a o s d with
  | false => exact SigText_no a vo vs vd g1 o1 g2 o2 g3 o3 o s d w ho hs hd hf
  | true =>
    obtain ⟨hA, _⟩ := formB_parts hf
    obtain ⟨a, rfl⟩ := Int.eq_ofNat_of_zero_le hA.1
    exact SigText_yes a vo vs vd g1 o1 g2 o2 g3 o3 o s d w ho hs hd hf

theorem sSigText_all (a : Int) (vo vs vd : Value) (g1 o1 g2 o2 g3 o3 : Nat) (o s d : List ByteArray) (w : World) (ho : SS w vo g1 o1 o) (hs : SS w vs g2 o2 s) (hd : SS w vd g3 o3 d) :
    Calls Try.prog 26 #[.agg #[.int .i64 a, vo, vs, vd]] w fun e w' => e = .returned (.tuple #[.string (sigB a o s d), .bool (formB a o s d)]) ∧ Below w.heap.size w w' := by
  unfold sigB
  cases hf : formB a o s d with
  | false => exact sSigText_no a vo vs vd g1 o1 g2 o2 g3 o3 o s d w ho hs hd hf
  | true =>
    obtain ⟨hA, _⟩ := formB_parts hf
    obtain ⟨a, rfl⟩ := Int.eq_ofNat_of_zero_le hA.1
    exact sSigText_yes a vo vs vd g1 o1 g2 o2 g3 o3 o s d w ho hs hd hf

theorem sigB_size (a : Int) (o s d : List ByteArray) : (sigB a o s d).size ≤ 321 := by
  unfold sigB
  split
  · rename_i hf
    obtain ⟨_, ⟨h1, l1⟩, ⟨h2, l2⟩, ⟨h3, l3⟩⟩ := formB_parts hf
    rw [kyB_size, kyL_len _ _ (kwB_append (kwB_append h1 h2) h3)]
    simp [l1, l2, l3]
  · exact Nat.zero_le _

end Go.Proofs.Ytmfoliocibjdnaa
