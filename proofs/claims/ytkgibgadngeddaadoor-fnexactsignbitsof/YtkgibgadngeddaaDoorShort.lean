/-
  What ShortText answers, the program's and the specification's: varL of the length, and the text.
-/
import Derived.Test.YtkgibgadngeddaaDoorVar
namespace Go.Proofs.YtkgibgadngeddaaDoor
open Go.RowKit

theorem varA_size (n : Nat) : (⟨(M.varL n).toArray⟩ : ByteArray).size ≤ 10 := by
  have := M.varL_len n
  show (M.varL n).toArray.size ≤ 10
  simpa using this

theorem Short_yes (s : ByteArray) (w : World) (hs : s.size ≤ 20000) :
    Calls Tryd.prog 42 #[.string s] w fun e w' => e = .returned (.tuple #[.string (⟨(M.varL s.size).toArray⟩ ++ s), .bool true]) ∧ Below w.heap.size w w' := by
  have hz := varA_size s.size
  go_enter Tryd.func42, Tryd.ntmps42
  go_wp2_with fail
  refine (VarText_yes s.size _ (by omega)).mono ?_
  rintro e w' ⟨rfl, hb⟩
  go_wp2
  go_ret2
  exact ⟨rfl, hb⟩

theorem Short_no (s : ByteArray) (w : World) (hs : 20000 < s.size) (hm : s.size ≤ 1048576) :
    Calls Tryd.prog 42 #[.string s] w fun e w' => e = .returned (.tuple #[.string ⟨#[]⟩, .bool false]) ∧ Below w.heap.size w w' := by
  go_enter Tryd.func42, Tryd.ntmps42
  go_wp2
  go_ret2
  exact ⟨rfl, Below.refl _ _⟩

end Go.Proofs.YtkgibgadngeddaaDoor
