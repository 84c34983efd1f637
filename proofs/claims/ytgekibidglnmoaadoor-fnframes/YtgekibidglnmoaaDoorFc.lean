/-
  Plain facts on files of frames: the records of frames one behind the other, also of a file that is cut anywhere.
-/
import Derived.Test.YtgekibidglnmoaaDoorFr
namespace Go.Proofs.YtgekibidglnmoaaDoor
open Go.RowKit
set_option linter.unusedVariables false

theorem drop_at (s l : List UInt8) (k : Nat) (b : UInt8) (h : s.drop k = b :: l) : s[k]? = some b ∧ s.drop (k + 1) = l := by
  constructor
  · have : (s.drop k)[0]? = some b := by rw [h]; rfl
    simpa using this
  · have : (s.drop k).drop 1 = l := by rw [h]; rfl
    simpa [List.drop_drop] using this

/-- what varF wrote is read from there on -/
theorem rv_back (s : List UInt8) (p : Nat) : ∀ (fuel f i N m : Nat) (post : List UInt8), m < 128 ^ fuel → m < 128 ^ (f + 1) → 0 < fuel → (0 < m ∨ i = 0) → N + m * 128 ^ i ≤ 1000000000 → s.drop (p + i) = M.varF f m ++ post →
    M.rv s p fuel i N = some (N + m * 128 ^ i, p + i + (M.varF f m).length)
  | 0, _, _, _, _, _, _, _, h, _, _, _ => by omega
  | fuel + 1, f, i, N, m, post, h1, h2, _, h3, h4, h5 => by
    by_cases hm : m ≤ 127
    · rw [M.varF_small f m hm] at h5 ⊢
      obtain ⟨hb, _⟩ := drop_at _ _ _ _ h5
      have hn : (UInt8.ofNat m).toNat = m := by simp; omega
      rw [M.rv, hb]
      simp only [hn]
      rw [if_neg (by omega), if_neg]
      · have : m % 128 = m := by omega
        rw [this]
        rfl
      · have : m % 128 = m := by omega
        rw [this]
        omega
    · cases f with
      | zero => simp at h2; omega
      | succ f =>
        rw [M.varF_big f m (by omega)] at h5 ⊢
        obtain ⟨hb, hd⟩ := drop_at _ _ _ _ h5
        have hn : (UInt8.ofNat (m % 128 + 128)).toNat = m % 128 + 128 := by simp; omega
        have e1 : m % 128 * 128 ^ i + m / 128 * 128 ^ (i + 1) = m * 128 ^ i := by
          rw [Nat.pow_succ, Nat.mul_comm (128 ^ i) 128, ← Nat.mul_assoc, ← Nat.add_mul]
          congr 1
          omega
        have hfp : 0 < fuel := by
          rcases Nat.eq_zero_or_pos fuel with h0 | h0
          · subst h0; simp at h1; omega
          · exact h0
        rw [M.rv, hb]
        simp only [hn]
        have e2 : (m % 128 + 128) % 128 = m % 128 := by omega
        rw [if_pos (by omega), e2]
        have ih := rv_back s p fuel f (i + 1) (N + m % 128 * 128 ^ i) (m / 128) post (by rw [Nat.pow_succ] at h1; omega) (by rw [Nat.pow_succ] at h2; omega) hfp (.inl (by omega)) (by omega) (by rw [show p + (i + 1) = p + i + 1 by omega]; exact hd)
        rw [ih, Nat.add_assoc N, e1, List.length_cons]
        congr 2
        omega

theorem readVar_back (pre post : List UInt8) (n : Nat) (hn : n ≤ 1000000000) : M.readVar (pre ++ (M.varL n ++ post)) pre.length = some (n, pre.length + (M.varL n).length) := by
  have h := rv_back (pre ++ (M.varL n ++ post)) pre.length 5 9 0 0 n post (by omega) (by omega) (by omega) (.inr rfl) (by simpa using hn) (by simp [M.varL])
  unfold M.readVar
  rw [h]
  simp [M.varL]

def frL (t : ByteArray) : List UInt8 := M.varL t.size ++ four (sumN t) ++ t.data.toList
theorem frL_len (t : ByteArray) : (frL t).length = (frB t).size := by
  have h : (frB t).data.toList.length = (frB t).size := Array.length_toList
  rw [← h, frB_list]
  rfl
theorem frL_same {a b : ByteArray} (h : a.size = b.size) : (frL a).length = (frL b).length := by
  unfold frL
  simp [h, four]

theorem cutL_mid (a b c : List UInt8) : cutL (a ++ (b ++ c)) a.length (a.length + b.length) = b := by
  unfold cutL
  simp

theorem toList_len (s : ByteArray) : s.data.toList.length = s.size := Array.length_toList
theorem bytes_eq {a b : ByteArray} (h : a.data.toList = b.data.toList) : a = b := ByteArray.ext (Array.toList_inj.1 h)

/-- a frame that stands there is read -/
theorem recAt_back (s t : ByteArray) (pre post : List UInt8) (h1 : 1 ≤ t.size) (h2 : t.size ≤ 9000) (h : s.data.toList = pre ++ (frL t ++ post)) : recAt s pre.length = some (t, pre.length + (frB t).size) := by
  have hv : M.readVar s.data.toList pre.length = some (t.size, pre.length + (M.varL t.size).length) := by
    rw [h]
    unfold frL
    rw [List.append_assoc, List.append_assoc]
    exact readVar_back pre _ t.size (by omega)
  have hz : s.size = pre.length + (frB t).size + post.length := by
    rw [← toList_len, h, ← frL_len]
    simp
    omega
  have hfs := frB_size t
  have hp4 : piece s (pre.length + (M.varL t.size).length) 4 = fourB (sumN t) := by
    apply bytes_eq
    unfold piece
    rw [extract_cut, h]
    unfold frL
    have := cutL_mid (pre ++ M.varL t.size) (four (sumN t)) (t.data.toList ++ post)
    simp only [List.append_assoc, List.length_append] at this ⊢
    exact this
  have hpt : piece s (pre.length + (M.varL t.size).length + 4) t.size = t := by
    apply bytes_eq
    unfold piece
    rw [extract_cut, h]
    unfold frL
    have := cutL_mid (pre ++ M.varL t.size ++ four (sumN t)) t.data.toList post
    rw [toList_len] at this
    simp only [List.append_assoc, List.length_append] at this ⊢
    have e4 : (four (sumN t)).length = 4 := rfl
    rw [e4] at this
    rw [show pre.length + (M.varL t.size).length + 4 = pre.length + ((M.varL t.size).length + 4) by omega]
    exact this
  have hr := recAt_yes hv ⟨h1, h2, by omega⟩ (by rw [hpt, hp4])
  rw [hr, hpt]
  congr 2
  omega

/-- what is cut off within a frame is none -/
theorem recAt_cut (s t : ByteArray) (pre u r : List UInt8) (h2 : t.size ≤ 9000) (h : s.data.toList = pre ++ u) (hu : frL t = u ++ r) (hr : 0 < r.length) : recAt s pre.length = none := by
  cases hc : recAt s pre.length with
  | none => rfl
  | some x =>
    exfalso
    obtain ⟨t', q⟩ := x
    obtain ⟨n, b, hv, hn, hs, rfl, rfl⟩ := recAt_some hc
    have hz : s.size = pre.length + u.length := by rw [← toList_len, h]; simp
    have hf := (frame_iff (by omega) hv hn.2.2).2 hs
    have hps := piece_len s (b + 4) n hn.2.2
    have hlt := read_past _ _ _ _ hv
    generalize piece s (b + 4) n = t' at *
    have hl : frL t' = u.take (b + 4 + n - pre.length) := by
      have h3 : (frB t').data.toList = (s.extract pre.length (b + 4 + n)).data.toList := by rw [hf]
      rw [frB_list, extract_cut, h] at h3
      unfold frL
      rw [h3]
      unfold cutL
      simp
    have h4 : frL t = frL t' ++ (u.drop (b + 4 + n - pre.length) ++ r) := by
      rw [hu, hl, ← List.append_assoc, List.take_append_drop]
    have v1 := readVar_back [] (four (sumN t) ++ t.data.toList) t.size (by omega)
    have v2 := readVar_back [] (four (sumN t') ++ t'.data.toList ++ (u.drop (b + 4 + n - pre.length) ++ r)) t'.size (by omega)
    have e1 : [] ++ (M.varL t.size ++ (four (sumN t) ++ t.data.toList)) = frL t := by unfold frL; simp
    have e2 : [] ++ (M.varL t'.size ++ (four (sumN t') ++ t'.data.toList ++ (u.drop (b + 4 + n - pre.length) ++ r))) = frL t := by rw [h4]; unfold frL; simp
    rw [e1] at v1
    rw [e2, v1] at v2
    have h5 : t.size = t'.size := by simp at v2; exact v2.1
    have h6 := frL_same h5
    have h7 : (frL t).length = u.length + r.length := by rw [hu]; simp
    have h8 : (frL t').length ≤ u.length := by rw [hl]; simp; omega
    omega

def allL (ts : List ByteArray) : List UInt8 := (ts.map frL).flatten
def lenL (ts : List ByteArray) : Nat := (allL ts).length
def withEnds : Nat → List ByteArray → List (ByteArray × Nat)
  | _, [] => []
  | p, t :: ts => (t, p + (frB t).size) :: withEnds (p + (frB t).size) ts
theorem withEnds_texts : ∀ (p : Nat) (ts : List ByteArray), textsOf (withEnds p ts) = ts
  | _, [] => rfl
  | p, t :: ts => by
    have := withEnds_texts (p + (frB t).size) ts
    unfold textsOf at this ⊢
    simp [withEnds, this]
theorem endOf_cons (x : ByteArray × Nat) (l : List (ByteArray × Nat)) : endOf (x :: l) = if l = [] then x.2 else endOf l := by
  cases l with
  | nil => rfl
  | cons y l => simp [endOf, List.getLast?_cons_cons]
theorem withEnds_end : ∀ (p : Nat) (ts : List ByteArray), ts ≠ [] → endOf (withEnds p ts) = p + lenL ts
  | _, [], h => absurd rfl h
  | p, [t], _ => by simp [withEnds, endOf, lenL, allL, frL_len]
  | p, t :: u :: ts, _ => by
    have ih := withEnds_end (p + (frB t).size) (u :: ts) (by simp)
    rw [withEnds, endOf_cons, if_neg (by simp [withEnds]), ih]
    simp [lenL, allL, frL_len]
    omega
theorem withEnds_end0 (ts : List ByteArray) : endOf (withEnds 0 ts) = lenL ts := by
  cases ts with
  | nil => rfl
  | cons t ts => rw [withEnds_end 0 _ (by simp)]; omega

theorem frames_pre (s : ByteArray) : ∀ (ts : List ByteArray) (pre u r : List UInt8) (f : Nat), s.data.toList = pre ++ u → allL ts = u ++ r → (∀ t ∈ ts, 1 ≤ t.size ∧ t.size ≤ 9000) → s.size - pre.length < f →
    ∃ m, m ≤ ts.length ∧ framesF s f pre.length = withEnds pre.length (ts.take m) ∧ pre.length + lenL (ts.take m) ≤ s.size ∧ (m = ts.length ∨ s.size < pre.length + lenL (ts.take (m + 1)))
  | [], pre, u, r, f, h, hu, hok, hf => by
    have hu0 : u = [] := by
      have : u ++ r = [] := by rw [← hu]; rfl
      simpa using (List.append_eq_nil_iff.1 this).1
    subst hu0
    have hz : s.size = pre.length := by rw [← toList_len, h]; simp
    refine ⟨0, by simp, ?_, by simp [lenL, allL]; omega, .inl rfl⟩
    cases f with
    | zero => rfl
    | succ f => rw [framesF, ← hz, recAt_end]; rfl
  | t :: ts, pre, u, r, f, h, hu, hok, hf => by
    have hz : s.size = pre.length + u.length := by rw [← toList_len, h]; simp
    have hall : allL (t :: ts) = frL t ++ allL ts := by simp [allL]
    have hok0 := hok t (by simp)
    by_cases hc : (frL t).length ≤ u.length
    · obtain ⟨u', rfl⟩ : ∃ u', u = frL t ++ u' := by
        have h1 : frL t = u.take (frL t).length := by
          have h2 : (frL t ++ allL ts).take (frL t).length = (u ++ r).take (frL t).length := by rw [← hall, hu]
          rw [List.take_left, List.take_append_of_le_length hc] at h2
          exact h2
        exact ⟨u.drop (frL t).length, by conv => lhs; rw [← List.take_append_drop (frL t).length u, ← h1]⟩
      rw [hall, List.append_assoc] at hu
      have hu2 := List.append_cancel_left hu
      have hrec := recAt_back s t pre u' hok0.1 hok0.2 h
      have hpl : (pre ++ frL t).length = pre.length + (frB t).size := by rw [List.length_append, frL_len]
      cases f with
      | zero => omega
      | succ f =>
        have hfs := frB_size t
        rw [List.length_append, frL_len] at hz
        obtain ⟨m, hm, h3, h4, h5⟩ := frames_pre s ts (pre ++ frL t) u' r f (by rw [h]; simp) hu2 (fun x hx => hok x (by simp [hx])) (by rw [hpl]; omega)
        rw [hpl] at h3 h4 h5
        have hlen : ∀ j, lenL ((t :: ts).take (j + 1)) = (frB t).size + lenL (ts.take j) := by
          intro j
          simp [lenL, allL, frL_len]
        refine ⟨m + 1, by simp; omega, ?_, by rw [hlen]; omega, ?_⟩
        · rw [framesF, hrec]
          simp only
          rw [h3]
          simp [withEnds]
        · rcases h5 with h5 | h5
          · left; simp; omega
          · right; rw [hlen]; omega
    · obtain ⟨r', hr'⟩ : ∃ r', frL t = u ++ r' := by
        have h1 : u = (frL t).take u.length := by
          have h2 : (frL t ++ allL ts).take u.length = (u ++ r).take u.length := by rw [← hall, hu]
          rw [List.take_left, List.take_append_of_le_length (by omega)] at h2
          exact h2.symm
        exact ⟨(frL t).drop u.length, by conv => lhs; rw [← List.take_append_drop u.length (frL t), ← h1]⟩
      have hl : (frL t).length = u.length + r'.length := by rw [hr']; simp
      have hrec := recAt_cut s t pre u r' hok0.2 h hr' (by omega)
      refine ⟨0, by simp, ?_, by simp [lenL, allL]; omega, .inr ?_⟩
      · cases f with
        | zero => rfl
        | succ f => rw [framesF, hrec]; rfl
      · simp [lenL, allL]
        omega

theorem frames_cut (s : ByteArray) (ts : List ByteArray) (r : List UInt8) (h : allL ts = s.data.toList ++ r) (hok : ∀ t ∈ ts, 1 ≤ t.size ∧ t.size ≤ 9000) :
    ∃ m, m ≤ ts.length ∧ frames s = withEnds 0 (ts.take m) ∧ lenL (ts.take m) ≤ s.size ∧ (m = ts.length ∨ s.size < lenL (ts.take (m + 1))) := by
  obtain ⟨m, h1, h2, h3, h4⟩ := frames_pre s ts [] s.data.toList r (s.size + 1) rfl h hok (by simp)
  exact ⟨m, h1, h2, by simpa using h3, by simpa using h4⟩

end Go.Proofs.YtgekibidglnmoaaDoor
