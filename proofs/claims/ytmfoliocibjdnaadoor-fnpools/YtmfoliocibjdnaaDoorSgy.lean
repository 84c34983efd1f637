/-
  What impl.SignText answers at any argument of the drawn laws.
-/
import Derived.Test.YtmfoliocibjdnaaDoorSgq
namespace Go.Proofs.YtmfoliocibjdnaaDoor
open Go.RowKit Go.BigFrame
set_option linter.unusedVariables false
set_option linter.unusedSimpArgs false

theorem SignText_any (s t : ByteArray) (x : Option Addr) (n c g o : Nat) (l : List ByteArray) (y : Int) (w : World) (hs : s.size ≤ 100) (ht : t.size ≤ 1000) (hln : l.length = n) (hn : n ≤ 16) (hsz : ∀ j, (gB l j).size ≤ 1048576) (hv : SS w (.slice x n c) g o l) (hT : Tb w) :
    Calls Tryd.prog 37 #[.string s, .slice x n c, .int .i64 y, .string t] w (SgAns s t l y w) := by
  by_cases h1 : l.length = 16
  · by_cases h2 : 0 ≤ y ∧ y ≤ 15
    · by_cases h3 : t.size ≤ 200
      · obtain ⟨a, rfl⟩ := Int.eq_ofNat_of_zero_le h2.1
        by_cases h4 : gB l a = pubB s a
        · have hok : okG s t l a = true := decide_eq_true ⟨h1, h2, h3, h4⟩
          exact (SignText_yes s t _ g o a l w hv h1 (by omega) hs h3 hsz h4 hT).mono fun e w' h => ans_yes hok h
        · have hok : okG s t l a = false := decide_eq_false fun h => h4 h.2.2.2
          exact (SignText_key s t _ g o a l w hv h1 (by omega) hs h3 h4 hT).mono fun e w' h => ans_no hok h
      · have hok : okG s t l y = false := decide_eq_false fun h => h3 h.2.2.1
        exact (SignText_off s t _ g o y l w hv h1 (.inr ⟨decide_eq_true h2, by omega⟩) (by omega)).mono fun e w' h => ans_no hok h
    · have hok : okG s t l y = false := decide_eq_false fun h => h2 h.2.1
      exact (SignText_off s t _ g o y l w hv h1 (.inl (decide_eq_false h2)) (by omega)).mono fun e w' h => ans_no hok h
  · have hok : okG s t l y = false := decide_eq_false fun h => h1 h.1
    exact (SignText_len s t x n c y w (by omega) (by omega)).mono fun e w' h => ans_no hok h

end Go.Proofs.YtmfoliocibjdnaaDoor
