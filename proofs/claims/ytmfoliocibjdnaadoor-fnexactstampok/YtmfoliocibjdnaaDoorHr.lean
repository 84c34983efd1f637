/-
  Plain facts: a head comes back from its text, and a text from its head; another root makes another text.
-/
import Derived.Test.YtmfoliocibjdnaaDoorPkH
namespace Go.Proofs.YtmfoliocibjdnaaDoor
open Go.RowKit Go.BigFrame Go.Sort
set_option linter.unusedVariables false
set_option linter.unusedSimpArgs false

namespace HV
theorem b2T_list (b c : UInt8) (r p : ByteArray) : (b2T b c r p).data.toList = b :: c :: (r.data.toList ++ p.data.toList) := by
  unfold b2T
  simp
theorem ext_list {a b : ByteArray} (h : a.data.toList = b.data.toList) : a = b := ByteArray.ext (Array.toList_inj.1 h)
theorem extract_list (s : ByteArray) (a b : Nat) : (s.extract a b).data.toList = (s.data.toList.drop a).take (b - a) := by
  simp [ByteArray.data_extract, List.extract_eq_take_drop]
theorem b2T_r (b c : UInt8) (r p : ByteArray) (hr : r.size = 16) : (b2T b c r p).extract 2 18 = r := by
  apply ext_list
  rw [extract_list, b2T_list]
  have : r.data.toList.length = 16 := by rw [Array.length_toList]; exact hr
  show (r.data.toList ++ p.data.toList).take 16 = _
  rw [List.take_left' this]
theorem b2T_p (b c : UInt8) (r p : ByteArray) (hr : r.size = 16) : (b2T b c r p).extract 18 (b2T b c r p).size = p := by
  apply ext_list
  rw [extract_list, b2T_size, b2T_list]
  have h1 : r.data.toList.length = 16 := by rw [Array.length_toList]; exact hr
  have h2 : p.data.toList.length = p.size := Array.length_toList
  have h3 : (b :: c :: (r.data.toList ++ p.data.toList)).drop 18 = p.data.toList := by
    show (r.data.toList ++ p.data.toList).drop 16 = _
    rw [List.drop_left' h1]
  rw [h3, List.take_of_length_le (by omega)]
theorem b2T_0 (b c : UInt8) (r p : ByteArray) : bt (b2T b c r p) 0 = b := by
  unfold bt
  rw [b2T_list]
  rfl
theorem b2T_1 (b c : UInt8) (r p : ByteArray) : bt (b2T b c r p) 1 = c := by
  unfold bt
  rw [b2T_list]
  rfl
theorem rd_back {x : Hd} (h : okH x = true) : rdOk (txtH x) = true ∧ rdA (txtH x) = x := by
  obtain ⟨⟨h0, h1⟩, ⟨h2, h3⟩, h4, h5⟩ := okH_iff.1 h
  have e : rdH (txtH x) = x := by
    rw [txtH_b2]
    unfold rdH
    rw [b2T_0, b2T_1, b2T_r _ _ _ _ h4, b2T_p _ _ _ _ h4]
    obtain ⟨a, b, r, p⟩ := x
    simp only at *
    rw [← byte_int a a.toNat (by omega) (by omega), ← byte_int b b.toNat (by omega) (by omega)]
  have hk : rdOk (txtH x) = true := by
    unfold rdOk
    rw [e, h, Bool.and_true]
    refine decide_eq_true ?_
    rw [txtH_b2, b2T_size]
    omega
  refine ⟨hk, ?_⟩
  unfold rdA
  rw [if_pos hk, e]
theorem rd_text {u : ByteArray} (h : rdOk u = true) : textH (rdA u) = u := by
  have h' := h
  unfold rdOk at h'
  rw [Bool.and_eq_true, decide_eq_true_eq] at h'
  obtain ⟨h18, hk⟩ := h'
  have e : rdA u = rdH u := by unfold rdA; rw [if_pos h]
  rw [e]
  unfold textH
  rw [if_pos hk, txtH_b2]
  apply ext_list
  rw [b2T_list]
  unfold rdH
  simp only
  have hl : u.data.toList.length = u.size := Array.length_toList
  have hb : ∀ b : UInt8, UInt8.ofNat ((b.toNat : Int)).toNat = b := fun b => by simp
  rw [hb, hb, extract_list, extract_list]
  obtain ⟨⟨l⟩⟩ := u
  have hl2 : 18 ≤ l.length := by rw [← hl] at h18; exact h18
  match l, hl2 with
  | a :: b :: r, hl2 =>
    unfold bt
    have hr : 16 ≤ r.length := by simp at hl2; omega
    show a :: b :: (r.take 16 ++ (r.drop 16).take ((a :: b :: r).length - 18)) = a :: b :: r
    rw [List.take_of_length_le (l := r.drop 16) (by simp), List.take_append_drop]
theorem txt_ne {x : Hd} {r' : ByteArray} (h : okH x = true) (hz : r'.size = x.r.size) (hne : x.r ≠ r') : textH ⟨x.h, x.e, r', x.p⟩ ≠ txtH x := by
  obtain ⟨h1, h2, h4, h5⟩ := okH_iff.1 h
  have hk : okH ⟨x.h, x.e, r', x.p⟩ = true := okH_iff.2 ⟨h1, h2, by simp only; omega, h5⟩
  unfold textH
  rw [if_pos hk]
  intro he
  have e1 := (rd_back hk).2
  rw [he, (rd_back h).2] at e1
  exact hne (congrArg Hd.r e1)
theorem textH_size (x : Hd) (hr : x.r.size ≤ 20) (hp : x.p.size ≤ 20) : (textH x).size ≤ 42 := by
  unfold textH
  split
  · rw [txtH_b2, b2T_size]
    omega
  · show (⟨#[]⟩ : ByteArray).size ≤ 42
    decide
end HV

end Go.Proofs.YtmfoliocibjdnaaDoor
