/-
  What ShortText answers, the program's and the specification's: varL of the length, and the text.
-/
import Derived.Test.YteejjnpemaghcaaVar
namespace Go.Proofs.Yteejjnpemaghcaa
open Go.RowKit

theorem varA_size (n : Nat) : (⟨(M.varL n).toArray⟩ : ByteArray).size ≤ 10 := by
  have := M.varL_len n
  show (M.varL n).toArray.size ≤ 10
  simpa using this

end Go.Proofs.Yteejjnpemaghcaa
