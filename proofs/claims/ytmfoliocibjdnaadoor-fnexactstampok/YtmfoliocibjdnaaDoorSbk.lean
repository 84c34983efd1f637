/-
  Plain facts: what is written as a signature is read back.
-/
import Derived.Test.YtmfoliocibjdnaaDoorPkF
namespace Go.Proofs.YtmfoliocibjdnaaDoor
set_option linter.unusedVariables false

theorem pieces {f : ByteArray → List UInt8} : ∀ (L : List ByteArray) (i : Nat) (h : i < L.length), (∀ p ∈ L, (f p).length = 16) → ((L.flatMap f).drop (i * 16)).take 16 = f L[i]
  | [], i, h, _ => absurd h (by simp)
  | p :: t, 0, h, hl => by
    have := hl p (by simp)
    rw [List.flatMap_cons, Nat.zero_mul, List.drop_zero, List.take_append_of_le_length (by omega), List.take_of_length_le (by omega)]
    rfl
  | p :: t, i + 1, h, hl => by
    have h1 := hl p (by simp)
    have e : (i + 1) * 16 = (f p).length + i * 16 := by omega
    rw [List.flatMap_cons, e, List.drop_append, List.drop_of_length_le (by omega), List.nil_append, Nat.add_sub_cancel_left, pieces t i (by simpa using h) (fun q hq => hl q (by simp [hq]))]
    rfl
theorem flat16 {f : ByteArray → List UInt8} : ∀ (L : List ByteArray), (∀ p ∈ L, (f p).length = 16) → (L.flatMap f).length = L.length * 16
  | [], _ => rfl
  | p :: t, hl => by
    rw [List.flatMap_cons, List.length_append, hl p (by simp), flat16 t (fun q hq => hl q (by simp [hq])), List.length_cons]
    omega
theorem ext_list (t : ByteArray) (i j : Nat) : (t.extract i j).data.toList = (t.data.toList.drop i).take (j - i) := by
  rw [ByteArray.data_extract, Array.toList_extract]
theorem kyB_piece (a : Nat) (L : List ByteArray) (i : Nat) (h : i < L.length) (hl : ∀ p ∈ L, p.size = 16) : (kyB a L).extract (1 + i * 16) (1 + (i + 1) * 16) = L[i] := by
  have hl' : ∀ p ∈ L, (p.data.toList).length = 16 := hl
  have h1 : ((kyB a L).extract (1 + i * 16) (1 + (i + 1) * 16)).data.toList = L[i].data.toList := by
    rw [ext_list, show 1 + (i + 1) * 16 - (1 + i * 16) = 16 by omega]
    have e : (kyB a L).data.toList = UInt8.ofNat a :: L.flatMap (fun p => p.data.toList) := by simp [kyB, kyL]
    rw [e, show 1 + i * 16 = i * 16 + 1 by omega, List.drop_succ_cons]
    exact pieces L i h hl'
  generalize (kyB a L).extract (1 + i * 16) (1 + (i + 1) * 16) = x at *
  generalize L[i] = y at *
  cases x
  cases y
  congr
  exact Array.toList_inj.1 h1
theorem kyB_16 (a : Nat) (L : List ByteArray) (hl : ∀ p ∈ L, p.size = 16) : (kyB a L).size = 1 + L.length * 16 := by
  show (kyL a L).toArray.size = _
  rw [List.size_toArray]
  unfold kyL
  rw [List.length_cons, flat16 L hl]
  omega
theorem kyB_cut (a : Nat) (A M Z : List ByteArray) (hl : ∀ p ∈ A ++ M ++ Z, p.size = 16) : cutL (kyB a (A ++ M ++ Z)) (1 + A.length * 16) M.length = M := by
  refine List.ext_getElem (by simp [cutL]) ?_
  intro i h1 h2
  have hi : A.length + i < (A ++ M ++ Z).length := by simp; omega
  have := kyB_piece a (A ++ M ++ Z) (A.length + i) hi hl
  have e : (A ++ M ++ Z)[A.length + i] = M[i] := by
    rw [List.getElem_append_left (by simp; omega), List.getElem_append_right (by omega)]
    simp
  rw [e] at this
  simp only [cutL, List.getElem_map, List.getElem_range]
  rw [show 1 + A.length * 16 + i * 16 = 1 + (A.length + i) * 16 by omega, show 1 + A.length * 16 + (i + 1) * 16 = 1 + (A.length + i + 1) * 16 by omega]
  exact this
/-- what is written as a signature is read back -/
theorem sig_back (a : Nat) (o s d : List ByteArray) (ha : a ≤ 15) (ho : o.length = 8) (hs : s.length = 8) (hd : d.length = 4) (hl : ∀ p ∈ o ++ s ++ d, p.size = 16) :
    rsOk (kyB a (o ++ s ++ d)) = true ∧ rsA (kyB a (o ++ s ++ d)) = (a : Int) ∧ rsO (kyB a (o ++ s ++ d)) = o ∧ rsS (kyB a (o ++ s ++ d)) = s ∧ rsD (kyB a (o ++ s ++ d)) = d := by
  have hz := kyB_16 a (o ++ s ++ d) hl
  have hb : (b0 (kyB a (o ++ s ++ d))).toNat = a := by
    have : b0 (kyB a (o ++ s ++ d)) = UInt8.ofNat a := by simp [b0, kyB, kyL]
    rw [this]
    simp
    omega
  have hok : rsOk (kyB a (o ++ s ++ d)) = true := by
    unfold rsOk
    rw [hb, hz]
    simp [ho, hs, hd, ha]
  have c1 := kyB_cut a [] o (s ++ d) (by simpa using hl)
  have c2 := kyB_cut a o s d hl
  have c3 := kyB_cut a (o ++ s) d [] (by simpa using hl)
  simp only [List.nil_append, List.length_nil, Nat.zero_mul, ho, hs, hd, List.length_append, List.append_nil, ← List.append_assoc] at c1 c2 c3
  refine ⟨hok, ?_, ?_, ?_, ?_⟩
  · unfold rsA; rw [hok, hb]; rfl
  · unfold rsO; rw [hok]; exact c1
  · unfold rsS; rw [hok]; exact c2
  · unfold rsD; rw [hok]; exact c3

end Go.Proofs.YtmfoliocibjdnaaDoor
