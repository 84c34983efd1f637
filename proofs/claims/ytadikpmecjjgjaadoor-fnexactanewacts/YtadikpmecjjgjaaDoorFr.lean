/-
  Plain facts on frames: which record stands at a place of a file, and all records of the whole frames that it begins with.
-/
import Derived.Test.YtadikpmecjjgjaaDoorRshort
import Derived.Test.YtadikpmecjjgjaaDoorFour
namespace Go.Proofs.YtadikpmecjjgjaaDoor
open Go.RowKit
set_option linter.unusedVariables false

def frB (t : ByteArray) : ByteArray := varB t.size ++ fourB (sumN t) ++ t

/-- the record whose frame stands at p, and the place behind it -/
def recAt (s : ByteArray) (p : Nat) : Option (ByteArray × Nat) :=
  match M.readVar s.data.toList p with
  | none => none
  | some (n, q) => if (1 ≤ n ∧ n ≤ 9000 ∧ q + 4 + n ≤ s.size) ∧ (fourB (sumN (piece s (q + 4) n))).data.toList = (piece s q 4).data.toList then some (piece s (q + 4) n, q + 4 + n) else none

theorem recAt_none {s : ByteArray} {p : Nat} (h : M.readVar s.data.toList p = none) : recAt s p = none := by unfold recAt; rw [h]
theorem recAt_no {s : ByteArray} {p n q : Nat} (h : M.readVar s.data.toList p = some (n, q)) (hn : ¬ (1 ≤ n ∧ n ≤ 9000 ∧ q + 4 + n ≤ s.size)) : recAt s p = none := by
  unfold recAt
  rw [h]
  exact if_neg (fun h => hn h.1)
theorem recAt_other {s : ByteArray} {p n q : Nat} (h : M.readVar s.data.toList p = some (n, q)) (hn : ¬ fourB (sumN (piece s (q + 4) n)) = piece s q 4) : recAt s p = none := by
  unfold recAt
  rw [h]
  exact if_neg (fun h => hn (ByteArray.ext (Array.toList_inj.1 h.2)))
theorem recAt_yes {s : ByteArray} {p n q : Nat} (h : M.readVar s.data.toList p = some (n, q)) (hn : 1 ≤ n ∧ n ≤ 9000 ∧ q + 4 + n ≤ s.size) (he : fourB (sumN (piece s (q + 4) n)) = piece s q 4) : recAt s p = some (piece s (q + 4) n, q + 4 + n) := by
  unfold recAt
  rw [h]
  exact if_pos ⟨hn, by rw [he]⟩

theorem rv_past (s : List UInt8) (p : Nat) : ∀ (f i n a q : Nat), M.rv s p f i n = some (a, q) → p + i < q
  | 0, _, _, _, _, h => by simp [M.rv] at h
  | f + 1, i, n, a, q, h => by
    rw [M.rv] at h
    cases hb : s[p + i]? with
    | none => rw [hb] at h; simp at h
    | some b =>
      rw [hb] at h
      simp only at h
      split at h
      · have := rv_past s p f (i + 1) _ a q h
        omega
      · split at h
        · simp at h
        · simp at h
          omega
theorem read_past (s : List UInt8) (p n q : Nat) (h : M.readVar s p = some (n, q)) : p < q := by
  have := rv_past s p 5 0 0 n q h
  omega

theorem recAt_some {s : ByteArray} {p q : Nat} {t : ByteArray} (h : recAt s p = some (t, q)) :
    ∃ n b, M.readVar s.data.toList p = some (n, b) ∧ (1 ≤ n ∧ n ≤ 9000 ∧ b + 4 + n ≤ s.size) ∧ fourB (sumN (piece s (b + 4) n)) = piece s b 4 ∧ t = piece s (b + 4) n ∧ q = b + 4 + n := by
  unfold recAt at h
  cases hv : M.readVar s.data.toList p with
  | none => rw [hv] at h; simp at h
  | some x =>
    obtain ⟨n, b⟩ := x
    rw [hv] at h
    simp only at h
    split at h
    · rename_i hc
      simp only [Option.some.injEq, Prod.mk.injEq] at h
      exact ⟨n, b, rfl, hc.1, ByteArray.ext (Array.toList_inj.1 hc.2), h.1.symm, h.2.symm⟩
    · simp at h
theorem recAt_lt {s : ByteArray} {p q : Nat} {t : ByteArray} (h : recAt s p = some (t, q)) : p < q ∧ q ≤ s.size := by
  obtain ⟨n, b, hv, hn, _, _, rfl⟩ := recAt_some h
  have := read_past _ _ _ _ hv
  omega
theorem recAt_end (s : ByteArray) : recAt s s.size = none := by
  refine recAt_none ?_
  have h1 : s.data.toList.length = s.size := Array.length_toList
  unfold M.readVar
  rw [M.rv]
  have : s.data.toList[s.size + 0]? = none := by rw [List.getElem?_eq_none_iff]; omega
  rw [this]

/-- the records from a place on, each with the place behind its frame -/
def framesF (s : ByteArray) : Nat → Nat → List (ByteArray × Nat)
  | 0, _ => []
  | f + 1, p => match recAt s p with
    | none => []
    | some x => x :: framesF s f x.2
def frames (s : ByteArray) : List (ByteArray × Nat) := framesF s (s.size + 1) 0
def endOf (l : List (ByteArray × Nat)) : Nat := (l.getLast?.map Prod.snd).getD 0
def textsOf (l : List (ByteArray × Nat)) : List ByteArray := l.map Prod.fst
theorem endOf_snoc (l : List (ByteArray × Nat)) (x : ByteArray × Nat) : endOf (l ++ [x]) = x.2 := by simp [endOf]
theorem textsOf_snoc (l : List (ByteArray × Nat)) (x : ByteArray × Nat) : textsOf (l ++ [x]) = textsOf l ++ [x.1] := by simp [textsOf]
theorem textsOf_len (l : List (ByteArray × Nat)) : (textsOf l).length = l.length := by simp [textsOf]

/-- so many have come, and the next one begins at p -/
def FI (s : ByteArray) (p : Nat) (pre : List (ByteArray × Nat)) : Prop := ∃ f, s.size - p < f ∧ pre ++ framesF s f p = frames s ∧ pre.length ≤ p ∧ p ≤ s.size ∧ endOf pre = p
theorem FI.start (s : ByteArray) : FI s 0 [] := ⟨s.size + 1, by omega, rfl, by simp, by omega, rfl⟩
theorem FI.len {s : ByteArray} {p : Nat} {pre : List (ByteArray × Nat)} (h : FI s p pre) : pre.length ≤ p ∧ p ≤ s.size := by
  obtain ⟨f, _, _, h1, h2, _⟩ := h
  exact ⟨h1, h2⟩
theorem FI.ends {s : ByteArray} {p : Nat} {pre : List (ByteArray × Nat)} (h : FI s p pre) : endOf pre = p := by
  obtain ⟨f, _, _, _, _, h3⟩ := h
  exact h3
theorem FI.step {s : ByteArray} {p q : Nat} {t : ByteArray} {pre : List (ByteArray × Nat)} (h : FI s p pre) (hr : recAt s p = some (t, q)) : FI s q (pre ++ [(t, q)]) := by
  obtain ⟨f, hf, he, hl, hp, _⟩ := h
  obtain ⟨h1, h2⟩ := recAt_lt hr
  cases f with
  | zero => omega
  | succ f =>
    refine ⟨f, by omega, ?_, by simp; omega, h2, endOf_snoc _ _⟩
    rw [← he, framesF, hr]
    simp
theorem FI.stop {s : ByteArray} {p : Nat} {pre : List (ByteArray × Nat)} (h : FI s p pre) (hr : recAt s p = none) : frames s = pre := by
  obtain ⟨f, hf, he, hl, hp, _⟩ := h
  cases f with
  | zero => omega
  | succ f =>
    rw [← he, framesF, hr]
    simp

/-- a piece of a list -/
def cutL (l : List UInt8) (a b : Nat) : List UInt8 := (l.drop a).take (b - a)
theorem extract_cut (s : ByteArray) (a b : Nat) : (s.extract a b).data.toList = cutL s.data.toList a b := by
  unfold cutL
  simp [ByteArray.data_extract, List.extract_eq_take_drop]
theorem cutL_join (l : List UInt8) (a b c : Nat) (h1 : a ≤ b) (h2 : b ≤ c) : cutL l a b ++ cutL l b c = cutL l a c := by
  unfold cutL
  have e : c - a = (b - a) + (c - b) := by omega
  rw [e, List.take_add, List.drop_drop]
  have e2 : a + (b - a) = b := by omega
  rw [e2]
theorem cutL_len (l : List UInt8) (a b : Nat) (h1 : a ≤ b) (h2 : b ≤ l.length) : (cutL l a b).length = b - a := by
  unfold cutL
  rw [List.length_take, List.length_drop]
  omega

/-- what was read stands there just as it is written -/
theorem rv_canon (s : ByteArray) (p : Nat) : ∀ (f k N n q : Nat), f + k = 5 → p + k ≤ s.size → (∀ b ∈ got s p k, 127 < b.toNat) → N = M.val (got s p k) → M.rv s.data.toList p f k N = some (n, q) → cutL s.data.toList p q = M.varL n
  | 0, _, _, _, _, _, _, _, _, h => by simp [M.rv] at h
  | f + 1, k, N, n, q, hf, hk, ha, hN, h => by
    rw [M.rv] at h
    cases hb : s.data.toList[p + k]? with
    | none => rw [hb] at h; simp at h
    | some b =>
      have hlt : p + k < s.size := by
        obtain ⟨h1, _⟩ := List.getElem?_eq_some_iff.1 hb
        rw [Array.length_toList] at h1
        exact h1
      have hbb : b = s[p + k] := by
        have := get_l s (p + k) hlt
        rw [hb] at this
        exact Option.some.inj this
      rw [hb] at h
      simp only at h
      have hv : M.val (got s p (k + 1)) = N + b.toNat % 128 * 128 ^ k := by
        rw [got_succ s p k hlt, val_snoc, got_len s p k (by omega), ← hN, hbb]
      split at h
      · rename_i h1
        refine rv_canon s p f (k + 1) _ n q (by omega) (by omega) ?_ hv.symm h
        rw [got_succ s p k hlt]
        intro x hx
        rcases List.mem_append.1 hx with h2 | h2
        · exact ha x h2
        · simp at h2
          subst h2
          rw [← hbb]
          omega
      · rename_i h1
        split at h
        · simp at h
        · rename_i h2
          simp only [Option.some.injEq, Prod.mk.injEq] at h
          obtain ⟨rfl, rfl⟩ := h
          have hc := M.canon 9 (got s p k ++ [s[p + k]]) (shaped_snoc _ _ ha (by rw [← hbb]; omega)) (by simp [got_len s p k (by omega)]; omega)
          rw [← got_succ s p k hlt, hv] at hc
          have h3 := hc.2 (by
            by_cases hk0 : k = 0
            · left
              rw [got_len s p (k + 1) (by omega)]
              omega
            · right
              rw [got_succ s p k hlt]
              simp only [List.getLast?_append, List.getLast?_singleton, Option.some_or, ne_eq, Option.some.injEq]
              intro h0
              apply h2
              left
              rw [hbb, h0]
              exact ⟨rfl, by omega⟩)
          have e : cutL s.data.toList p (p + k + 1) = got s p (k + 1) := by
            unfold cutL got
            have : p + k + 1 - p = k + 1 := by omega
            rw [this]
          rw [e]
          exact h3.symm
theorem read_canon {s : ByteArray} {p n q : Nat} (hp : p ≤ s.size) (h : M.readVar s.data.toList p = some (n, q)) : cutL s.data.toList p q = M.varL n :=
  rv_canon s p 5 0 0 n q rfl (by omega) (by simp [got]) (by simp [got, M.val]) h

theorem piece_len (s : ByteArray) (q n : Nat) (h : q + n ≤ s.size) : (piece s q n).size = n := by
  unfold piece
  rw [ByteArray.size_extract]
  omega
theorem frB_list (t : ByteArray) : (frB t).data.toList = M.varL t.size ++ four (sumN t) ++ t.data.toList := by
  unfold frB varB fourB
  simp [ByteArray.data_append]
theorem frB_size (t : ByteArray) : (frB t).size = (M.varL t.size).length + 4 + t.size := by
  have h : (frB t).data.toList.length = (frB t).size := Array.length_toList
  rw [← h, frB_list]
  simp [four]
  omega

/-- the frame of what was cut out is what it was cut out of just when the sums are the same -/
theorem frame_iff {s : ByteArray} {p n q : Nat} (hp : p ≤ s.size) (h : M.readVar s.data.toList p = some (n, q)) (hq : q + 4 + n ≤ s.size) :
    frB (piece s (q + 4) n) = s.extract p (q + 4 + n) ↔ fourB (sumN (piece s (q + 4) n)) = piece s q 4 := by
  have hlt := read_past _ _ _ _ h
  have hc := read_canon hp h
  have hL : s.data.toList.length = s.size := Array.length_toList
  have e1 : (s.extract p (q + 4 + n)).data.toList = M.varL n ++ cutL s.data.toList q (q + 4) ++ (piece s (q + 4) n).data.toList := by
    rw [extract_cut, ← hc]
    unfold piece
    rw [extract_cut, cutL_join _ p q (q + 4) (by omega) (by omega), cutL_join _ p (q + 4) (q + 4 + n) (by omega) (by omega)]
  have e2 : (piece s q 4).data.toList = cutL s.data.toList q (q + 4) := by unfold piece; rw [extract_cut]
  have e3 := frB_list (piece s (q + 4) n)
  rw [piece_len s (q + 4) n (by omega)] at e3
  constructor
  · intro he
    have h1 : (frB (piece s (q + 4) n)).data.toList = (s.extract p (q + 4 + n)).data.toList := by rw [he]
    rw [e1, e3] at h1
    have h2 := List.append_cancel_right h1
    have h3 := List.append_cancel_left h2
    apply ByteArray.ext
    apply Array.toList_inj.1
    rw [e2, ← h3]
    simp [fourB]
  · intro he
    apply ByteArray.ext
    apply Array.toList_inj.1
    rw [e3, e1, ← e2, ← he]
    simp [fourB]

end Go.Proofs.YtadikpmecjjgjaaDoor
