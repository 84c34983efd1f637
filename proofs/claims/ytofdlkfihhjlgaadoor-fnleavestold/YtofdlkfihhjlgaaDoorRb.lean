/-
  What was written as leaves is read back; and what is put and dropped is found again, or not.
-/
import Derived.Test.YtofdlkfihhjlgaaDoorLr
import Derived.Test.YtofdlkfihhjlgaaDoorLg
import Derived.Test.YtofdlkfihhjlgaaDoorLt
namespace Go.Proofs.YtofdlkfihhjlgaaDoor
open Go.RowKit
set_option linter.unusedVariables false
namespace LV

theorem drop_at (s l : List UInt8) (k : Nat) (b : UInt8) (h : s.drop k = b :: l) : s[k]? = some b ∧ s.drop (k + 1) = l := by
  constructor
  · have : (s.drop k)[0]? = some b := by rw [h]; rfl
    simpa using this
  · have : (s.drop k).drop 1 = l := by rw [h]; rfl
    simpa [List.drop_drop] using this

/-- what varF wrote is read from there on -/
theorem rv_back (s : List UInt8) (p : Nat) : ∀ (fuel f i N m : Nat) (post : List UInt8), m < 128 ^ fuel → m < 128 ^ (f + 1) → 0 < fuel → (0 < m ∨ i = 0) → N + m * 128 ^ i ≤ 1000000000 → s.drop (p + i) = M.varF f m ++ post →
    M.rv s p fuel i N = some (N + m * 128 ^ i, p + i + (M.varF f m).length)
  | 0, _, _, _, _, _, _, _, h, _, _, _ => by omega
  | fuel + 1, f, i, N, m, post, h1, h2, _, h3, h4, h5 => by
    by_cases hm : m ≤ 127
    · rw [M.varF_small f m hm] at h5 ⊢
      obtain ⟨hb, _⟩ := drop_at _ _ _ _ h5
      have hn : (UInt8.ofNat m).toNat = m := by simp; omega
      rw [M.rv, hb]
      simp only [hn]
      rw [if_neg (by omega), if_neg]
      · have : m % 128 = m := by omega
        rw [this]
        rfl
      · have : m % 128 = m := by omega
        rw [this]
        omega
    · cases f with
      | zero => simp at h2; omega
      | succ f =>
        rw [M.varF_big f m (by omega)] at h5 ⊢
        obtain ⟨hb, hd⟩ := drop_at _ _ _ _ h5
        have hn : (UInt8.ofNat (m % 128 + 128)).toNat = m % 128 + 128 := by simp; omega
        have e1 : m % 128 * 128 ^ i + m / 128 * 128 ^ (i + 1) = m * 128 ^ i := by
          rw [Nat.pow_succ, Nat.mul_comm (128 ^ i) 128, ← Nat.mul_assoc, ← Nat.add_mul]
          congr 1
          omega
        have hfp : 0 < fuel := by
          rcases Nat.eq_zero_or_pos fuel with h0 | h0
          · subst h0; simp at h1; omega
          · exact h0
        rw [M.rv, hb]
        simp only [hn]
        have e2 : (m % 128 + 128) % 128 = m % 128 := by omega
        rw [if_pos (by omega), e2]
        have ih := rv_back s p fuel f (i + 1) (N + m % 128 * 128 ^ i) (m / 128) post (by rw [Nat.pow_succ] at h1; omega) (by rw [Nat.pow_succ] at h2; omega) hfp (.inl (by omega)) (by omega) (by rw [show p + (i + 1) = p + i + 1 by omega]; exact hd)
        rw [ih, Nat.add_assoc N, e1, List.length_cons]
        congr 2
        omega

theorem readVar_back (pre post : List UInt8) (n : Nat) (hn : n ≤ 1000000000) : M.readVar (pre ++ (M.varL n ++ post)) pre.length = some (n, pre.length + (M.varL n).length) := by
  have h := rv_back (pre ++ (M.varL n ++ post)) pre.length 5 9 0 0 n post (by omega) (by omega) (by omega) (.inr rfl) (by simpa using hn) (by simp [M.varL])
  unfold M.readVar
  rw [h]
  simp [M.varL]

theorem toList_len (s : ByteArray) : s.data.toList.length = s.size := Array.length_toList
theorem bytes_eq {a b : ByteArray} (h : a.data.toList = b.data.toList) : a = b := ByteArray.ext (Array.toList_inj.1 h)
theorem shortAt_back (s t : ByteArray) (pre post : List UInt8) (ht : t.size ≤ 20000) (h : s.data.toList = pre ++ ((M.varL t.size ++ t.data.toList) ++ post)) : shortAt s pre.length = some (t, pre.length + (M.varL t.size ++ t.data.toList).length) := by
  have hr : M.readVar s.data.toList pre.length = some (t.size, pre.length + (M.varL t.size).length) := by
    rw [h, List.append_assoc]
    exact readVar_back pre _ t.size (by omega)
  have hsz := toList_len s
  have htl := toList_len t
  have hl : s.size = pre.length + (M.varL t.size).length + t.size + post.length := by
    rw [← hsz, h]
    simp only [List.length_append]
    omega
  rw [shortAt_yes hr ⟨ht, by omega⟩]
  have hp : piece s (pre.length + (M.varL t.size).length) t.size = t := by
    apply bytes_eq
    unfold piece
    rw [extract_cut, h]
    unfold cutL
    have e1 : (pre ++ ((M.varL t.size ++ t.data.toList) ++ post)).drop (pre.length + (M.varL t.size).length) = t.data.toList ++ post := by
      rw [← List.append_assoc, ← List.append_assoc, List.append_assoc (pre ++ M.varL t.size)]
      rw [← List.length_append]
      exact List.drop_left
    rw [e1]
    have e2 : pre.length + (M.varL t.size).length + t.size - (pre.length + (M.varL t.size).length) = t.data.toList.length := by omega
    rw [e2]
    exact List.take_left
  rw [hp]
  congr 2
  simp only [List.length_append]
  omega
theorem leafAt_back (s : ByteArray) (f : Le) (pre post : List UInt8) (h1 : f.n.size ≤ 20000) (h2 : f.v.size ≤ 20000) (h : s.data.toList = pre ++ (leL f ++ post)) : leafAt s pre.length = some (f, pre.length + (leL f).length) := by
  have a1 := shortAt_back s f.n pre ((M.varL f.v.size ++ f.v.data.toList) ++ post) h1 (by rw [h]; simp [leL])
  have a2 := shortAt_back s f.v (pre ++ (M.varL f.n.size ++ f.n.data.toList)) post h2 (by rw [h]; simp [leL])
  rw [List.length_append] at a2
  unfold leafAt
  rw [a1]
  simp only
  rw [a2]
  congr 2
  simp [leL]
  omega
theorem leavesF_back (s : ByteArray) : ∀ (L : List Le) (pre : List UInt8), (∀ f ∈ L, f.n.size ≤ 20000 ∧ f.v.size ≤ 20000) → s.data.toList = pre ++ ltL L → leavesF s L.length pre.length = some (L, s.size)
  | [], pre, _, h => by
    have := toList_len s
    rw [h] at this
    simp [ltL] at this
    simp [leavesF, this]
  | f :: r, pre, hs, h => by
    have hf := hs f (by simp)
    have e : s.data.toList = pre ++ (leL f ++ ltL r) := by rw [h]; simp [ltL]
    have a1 := leafAt_back s f pre (ltL r) hf.1 hf.2 e
    have a2 := leavesF_back s r (pre ++ leL f) (fun g hg => hs g (by simp [hg])) (by rw [e]; simp)
    rw [List.length_append] at a2
    rw [List.length_cons, leavesF, a1]
    simp only
    rw [a2]
theorem rawL_back {L : List Le} (h : LOk L) : rawL ⟨(lvL L).toArray⟩ 0 = some (L, (⟨(lvL L).toArray⟩ : ByteArray).size) := by
  have e : (⟨(lvL L).toArray⟩ : ByteArray).data.toList = M.varL L.length ++ ltL L := by simp [lvL]
  have hr : M.readVar (⟨(lvL L).toArray⟩ : ByteArray).data.toList 0 = some (L.length, (M.varL L.length).length) := by
    have := readVar_back [] (ltL L) L.length (by have := h.1; omega)
    simp only [List.nil_append, List.length_nil, Nat.zero_add] at this
    rw [e]
    exact this
  have h24 := h.1
  rw [rawL_at hr (by omega)]
  exact leavesF_back _ L (M.varL L.length) (fun f hf => by have := leB_sizes (h.2.1 f hf); omega) e
theorem rd_back {L : List Le} (h : leavesB L = true) : rdB (lvT L) = true ∧ rdL (lvT L) = L := by
  have hr := rawL_back (leavesB_iff.1 h)
  rw [lvT_yes h]
  unfold rdB rdL
  rw [hr]
  simp [h]

/-! what is put is there, what is dropped is not, and all else stays -/
theorem find_of {L : List Le} (h : Srt L) {f : Le} (hf : f ∈ L) : find L f.n = some f := by
  cases hq : find L f.n with
  | none => exact absurd rfl (find_none hq f hf)
  | some g => rw [srt_inj h (find_some hq).1 hf (find_some hq).2]
theorem find_not {L : List Le} {x : ByteArray} (h : ∀ f ∈ L, f.n ≠ x) : find L x = none := by
  cases hq : find L x with
  | none => rfl
  | some g => exact absurd (find_some hq).2 (h g (find_some hq).1)
theorem get_of {L : List Le} (h : Srt L) {f : Le} (hf : f ∈ L) : getV L f.n = f.v ∧ getB L f.n = true := get_some (find_of h hf)
theorem get_not {L : List Le} {x : ByteArray} (h : ∀ f ∈ L, f.n ≠ x) : getB L x = false := (get_none (find_not h)).2
theorem wout_put {L : List Le} {f : Le} : ∀ g ∈ wout (put L f) f.n, g.n ≠ f.n := fun g hg => (mem_wout.1 hg).2
theorem len_drop {L : List Le} (h : Srt L) (f : Le) : (wout (put L f) f.n).length + 1 = (put L f).length := len_wout_eq (srt_put h f) (mem_put.2 (.inl rfl))
theorem putB_yes {L : List Le} {f : Le} (h : LOk L) (hl : L.length < 24) (hf : leB f = true) : putB L f = true := by
  unfold putB
  rw [leavesB_iff.2 h, hf, decide_eq_true hl]
  simp
theorem dropB_yes {L : List Le} {f : Le} (h : LOk (put L f)) : dropB (put L f) f.n = true := by
  unfold dropB
  rw [leavesB_iff.2 h, find_of h.2.2 (mem_put.2 (.inl rfl))]
  rfl
end LV
end Go.Proofs.YtofdlkfihhjlgaaDoor
