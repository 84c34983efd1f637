/-
  Texts laid together: Cln, Rshort, Ra, Rv.
-/
import Derived.Test.YthlgohplljcgfaaGreatDoorPkESN0
import Derived.Test.YthlgohplljcgfaaGreatDoorPkESN2
/-
  A text is cloned.
-/
namespace Go.Proofs.YthlgohplljcgfaaGreatDoor
open Go.RowKit
set_option linter.unusedVariables false

theorem Clone_any (s : ByteArray) (w : World) (h : s.size ≤ 1048576) : Calls Tryz.prog 110 #[.string s] w fun e w' => e = .returned (.string s) ∧ Below w.heap.size w w' := by
  go_enter Tryz.func110, Tryz.ntmps110
  go_wp2_with fail
  refine (Tryz.stringslite_Clone s _ (by omega)).mono ?_
  rintro e w' ⟨rfl, hb⟩
  go_wp2
  go_ret
  exact ⟨rfl, hb⟩

end Go.Proofs.YthlgohplljcgfaaGreatDoor
/-
  What ReadShort answers, the program's and the specification's.
-/
namespace Go.Proofs.YthlgohplljcgfaaGreatDoor
open Go.RowKit
set_option linter.unusedVariables false

theorem rv_bound (s : List UInt8) (p : Nat) : ∀ (f i n a q : Nat), M.rv s p f i n = some (a, q) → q ≤ s.length ∧ a ≤ 1000000000
  | 0, _, _, _, _, h => by simp [M.rv] at h
  | f + 1, i, n, a, q, h => by
    rw [M.rv] at h
    cases hb : s[p + i]? with
    | none => rw [hb] at h; simp at h
    | some b =>
      rw [hb] at h
      simp only at h
      split at h
      · exact rv_bound s p f (i + 1) _ a q h
      · split at h
        · simp at h
        · obtain ⟨hi, _⟩ := List.getElem?_eq_some_iff.1 hb
          simp at h
          obtain ⟨rfl, rfl⟩ := h
          omega

theorem read_bound (s : ByteArray) (p n q : Nat) (h : M.readVar s.data.toList p = some (n, q)) : q ≤ s.size ∧ n ≤ 1000000000 := by
  have := rv_bound _ _ _ _ _ _ _ h
  rw [Array.length_toList] at this
  exact this

/-- the piece of the text that stands there -/
def piece (s : ByteArray) (q n : Nat) : ByteArray := s.extract q (q + n)
theorem piece_size (s : ByteArray) (q n : Nat) : (piece s q n).size ≤ s.size := by
  unfold piece
  rw [ByteArray.size_extract]
  omega

theorem run_piece (s : ByteArray) (q n : Nat) (h : q + n ≤ s.size) (w : World) :
    (Instr.slice 9 (.string s) (some (.int .i64 (q : Int))) (some (.int .i64 ((q : Int) + (n : Int)))) none).run Tryz.prog w = .ok (.string (piece s q n)) w := by
  rw [run_slice_string w 9 s .i64 .i64 _ _ Tryz.underlying9 (by omega) (by omega) (by omega)]
  have e : ((q : Int) + (n : Int)).toNat = q + n := by omega
  rw [e]
  rfl

theorem ReadShort_yes (s : ByteArray) (p : Int) (n q : Nat) (w : World) (hs : s.size ≤ 1048576) (h : Hid (0 ≤ p ∧ p ≤ (s.size : Int))) (ho : Hid (M.readVar s.data.toList p.toNat = some (n, q))) (hn : n ≤ 20000) (hq : q + n ≤ s.size) :
    Calls Tryz.prog 160 #[.string s, .int .i64 p] w fun e w' => e = .returned (.tuple #[.string (piece s q n), .int .i64 ((q : Int) + (n : Int)), .bool true]) ∧ Below w.heap.size w w' := by
  have hpc := run_piece s q n hq
  have hps := piece_size s q n
  have hn1 : ¬ ((20000 : Int) < (n : Int)) := by omega
  have hn2 : ¬ ((s.size : Int) - (q : Int) < (n : Int)) := by omega
  go_enter Tryz.func160, Tryz.ntmps160
  go_wp2_with fail
  refine (ReadVar_some s p n q _ hs (unhide h) (unhide ho)).mono ?_
  rintro e w1 ⟨rfl, rfl⟩
  go_wp2_with fail
  refine (Clone_any _ _ (by omega)).mono ?_
  rintro e w2 ⟨rfl, hb2⟩
  go_wp2
  go_ret3
  exact ⟨rfl, hb2⟩

theorem ReadShort_no (s : ByteArray) (p : Int) (n q : Nat) (w : World) (hs : s.size ≤ 1048576) (h : Hid (0 ≤ p ∧ p ≤ (s.size : Int))) (ho : Hid (M.readVar s.data.toList p.toNat = some (n, q))) (hq : q ≤ s.size) (hN : n ≤ 1000000000) (hn : ¬ (n ≤ 20000 ∧ q + n ≤ s.size)) :
    Calls Tryz.prog 160 #[.string s, .int .i64 p] w fun e w' => e = .returned (.tuple #[.string ⟨#[]⟩, .int .i64 0, .bool false]) ∧ Below w.heap.size w w' := by
  by_cases hn1 : (20000 : Int) < (n : Int)
  · go_enter Tryz.func160, Tryz.ntmps160
    go_wp2_with fail
    refine (ReadVar_some s p n q _ hs (unhide h) (unhide ho)).mono ?_
    rintro e w1 ⟨rfl, rfl⟩
    go_wp2
    go_ret3
    exact ⟨rfl, Below.refl _ _⟩
  · have hn2 : (s.size : Int) - (q : Int) < (n : Int) := by omega
    go_enter Tryz.func160, Tryz.ntmps160
    go_wp2_with fail
    refine (ReadVar_some s p n q _ hs (unhide h) (unhide ho)).mono ?_
    rintro e w1 ⟨rfl, rfl⟩
    go_wp2
    go_ret3
    exact ⟨rfl, Below.refl _ _⟩

theorem ReadShort_none (s : ByteArray) (p : Int) (w : World) (hs : s.size ≤ 1048576) (h : Hid (¬ (0 ≤ p ∧ p ≤ (s.size : Int)) ∨ (0 ≤ p ∧ p ≤ (s.size : Int)) ∧ M.readVar s.data.toList p.toNat = none)) :
    Calls Tryz.prog 160 #[.string s, .int .i64 p] w fun e w' => e = .returned (.tuple #[.string ⟨#[]⟩, .int .i64 0, .bool false]) ∧ Below w.heap.size w w' := by
  go_enter Tryz.func160, Tryz.ntmps160
  go_wp2_with fail
  refine (ReadVar_none s p _ hs (unhide h)).mono ?_
  rintro e w1 ⟨rfl, rfl⟩
  go_wp2
  go_ret3
  exact ⟨rfl, Below.refl _ _⟩

theorem sReadShort_yes (s : ByteArray) (p : Int) (n q : Nat) (w : World) (hs : s.size ≤ 1048576) (h : Hid (0 ≤ p ∧ p ≤ (s.size : Int))) (ho : Hid (M.readVar s.data.toList p.toNat = some (n, q))) (hn : n ≤ 20000) (hq : q + n ≤ s.size) :
    Calls Tryz.prog 132 #[.string s, .int .i64 p] w fun e w' => e = .returned (.tuple #[.string (piece s q n), .int .i64 ((q : Int) + (n : Int)), .bool true]) ∧ Below w.heap.size w w' := by
  have hpc := run_piece s q n hq
  have hps := piece_size s q n
  have hn1 : ¬ ((20000 : Int) < (n : Int)) := by omega
  have hn2 : ¬ ((s.size : Int) - (q : Int) < (n : Int)) := by omega
  go_enter Tryz.func132, Tryz.ntmps132
  go_wp2_with fail
  refine (sReadVar_some s p n q _ hs (unhide h) (unhide ho)).mono ?_
  rintro e w1 ⟨rfl, hb1⟩
  go_wp2
  go_ret3
  exact ⟨rfl, hb1⟩

theorem sReadShort_no (s : ByteArray) (p : Int) (n q : Nat) (w : World) (hs : s.size ≤ 1048576) (h : Hid (0 ≤ p ∧ p ≤ (s.size : Int))) (ho : Hid (M.readVar s.data.toList p.toNat = some (n, q))) (hq : q ≤ s.size) (hN : n ≤ 1000000000) (hn : ¬ (n ≤ 20000 ∧ q + n ≤ s.size)) :
    Calls Tryz.prog 132 #[.string s, .int .i64 p] w fun e w' => e = .returned (.tuple #[.string ⟨#[]⟩, .int .i64 0, .bool false]) ∧ Below w.heap.size w w' := by
  by_cases hn1 : (20000 : Int) < (n : Int)
  · go_enter Tryz.func132, Tryz.ntmps132
    go_wp2_with fail
    refine (sReadVar_some s p n q _ hs (unhide h) (unhide ho)).mono ?_
    rintro e w1 ⟨rfl, hb1⟩
    go_wp2
    go_ret3
    exact ⟨rfl, hb1⟩
  · have hn2 : (s.size : Int) - (q : Int) < (n : Int) := by omega
    go_enter Tryz.func132, Tryz.ntmps132
    go_wp2_with fail
    refine (sReadVar_some s p n q _ hs (unhide h) (unhide ho)).mono ?_
    rintro e w1 ⟨rfl, hb1⟩
    go_wp2
    go_ret3
    exact ⟨rfl, hb1⟩

theorem sReadShort_none (s : ByteArray) (p : Int) (w : World) (hs : s.size ≤ 1048576) (h : Hid (¬ (0 ≤ p ∧ p ≤ (s.size : Int)) ∨ (0 ≤ p ∧ p ≤ (s.size : Int)) ∧ M.readVar s.data.toList p.toNat = none)) :
    Calls Tryz.prog 132 #[.string s, .int .i64 p] w fun e w' => e = .returned (.tuple #[.string ⟨#[]⟩, .int .i64 0, .bool false]) ∧ Below w.heap.size w w' := by
  go_enter Tryz.func132, Tryz.ntmps132
  go_wp2_with fail
  refine (sReadVar_none s p _ hs (unhide h)).mono ?_
  rintro e w1 ⟨rfl, hb1⟩
  go_wp2
  go_ret3
  exact ⟨rfl, hb1⟩

end Go.Proofs.YthlgohplljcgfaaGreatDoor
/-
  What was read of a text stands there just as it is written.
-/
namespace Go.Proofs.YthlgohplljcgfaaGreatDoor
open Go.RowKit
set_option linter.unusedVariables false
namespace LV

theorem rv_past (s : List UInt8) (p : Nat) : ∀ (f i n a q : Nat), M.rv s p f i n = some (a, q) → p + i < q
  | 0, _, _, _, _, h => by simp [M.rv] at h
  | f + 1, i, n, a, q, h => by
    rw [M.rv] at h
    cases hb : s[p + i]? with
    | none => rw [hb] at h; simp at h
    | some b =>
      rw [hb] at h
      simp only at h
      split at h
      · have := rv_past s p f (i + 1) _ a q h
        omega
      · split at h
        · simp at h
        · simp at h
          omega
theorem read_past (s : List UInt8) (p n q : Nat) (h : M.readVar s p = some (n, q)) : p < q := by
  have := rv_past s p 5 0 0 n q h
  omega

/-- a piece of a list -/
def cutL (l : List UInt8) (a b : Nat) : List UInt8 := (l.drop a).take (b - a)
theorem extract_cut (s : ByteArray) (a b : Nat) : (s.extract a b).data.toList = cutL s.data.toList a b := by
  unfold cutL
  simp [ByteArray.data_extract, List.extract_eq_take_drop]
theorem cutL_join (l : List UInt8) (a b c : Nat) (h1 : a ≤ b) (h2 : b ≤ c) : cutL l a b ++ cutL l b c = cutL l a c := by
  unfold cutL
  have e : c - a = (b - a) + (c - b) := by omega
  rw [e, List.take_add, List.drop_drop]
  have e2 : a + (b - a) = b := by omega
  rw [e2]
theorem cutL_len (l : List UInt8) (a b : Nat) (h1 : a ≤ b) (h2 : b ≤ l.length) : (cutL l a b).length = b - a := by
  unfold cutL
  rw [List.length_take, List.length_drop]
  omega

/-- what was read stands there just as it is written -/
theorem rv_canon (s : ByteArray) (p : Nat) : ∀ (f k N n q : Nat), f + k = 5 → p + k ≤ s.size → (∀ b ∈ got s p k, 127 < b.toNat) → N = M.val (got s p k) → M.rv s.data.toList p f k N = some (n, q) → cutL s.data.toList p q = M.varL n
  | 0, _, _, _, _, _, _, _, _, h => by simp [M.rv] at h
  | f + 1, k, N, n, q, hf, hk, ha, hN, h => by
    rw [M.rv] at h
    cases hb : s.data.toList[p + k]? with
    | none => rw [hb] at h; simp at h
    | some b =>
      have hlt : p + k < s.size := by
        obtain ⟨h1, _⟩ := List.getElem?_eq_some_iff.1 hb
        rw [Array.length_toList] at h1
        exact h1
      have hbb : b = s[p + k] := by
        have := get_l s (p + k) hlt
        rw [hb] at this
        exact Option.some.inj this
      rw [hb] at h
      simp only at h
      have hv : M.val (got s p (k + 1)) = N + b.toNat % 128 * 128 ^ k := by
        rw [got_succ s p k hlt, val_snoc, got_len s p k (by omega), ← hN, hbb]
      split at h
      · rename_i h1
        refine rv_canon s p f (k + 1) _ n q (by omega) (by omega) ?_ hv.symm h
        rw [got_succ s p k hlt]
        intro x hx
        rcases List.mem_append.1 hx with h2 | h2
        · exact ha x h2
        · simp at h2
          subst h2
          rw [← hbb]
          omega
      · rename_i h1
        split at h
        · simp at h
        · rename_i h2
          simp only [Option.some.injEq, Prod.mk.injEq] at h
          obtain ⟨rfl, rfl⟩ := h
          have hc := M.canon 9 (got s p k ++ [s[p + k]]) (shaped_snoc _ _ ha (by rw [← hbb]; omega)) (by simp [got_len s p k (by omega)]; omega)
          rw [← got_succ s p k hlt, hv] at hc
          have h3 := hc.2 (by
            by_cases hk0 : k = 0
            · left
              rw [got_len s p (k + 1) (by omega)]
              omega
            · right
              rw [got_succ s p k hlt]
              simp only [List.getLast?_append, List.getLast?_singleton, Option.some_or, ne_eq, Option.some.injEq]
              intro h0
              apply h2
              left
              rw [hbb, h0]
              exact ⟨rfl, by omega⟩)
          have e : cutL s.data.toList p (p + k + 1) = got s p (k + 1) := by
            unfold cutL got
            have : p + k + 1 - p = k + 1 := by omega
            rw [this]
          rw [e]
          exact h3.symm
theorem read_canon {s : ByteArray} {p n q : Nat} (hp : p ≤ s.size) (h : M.readVar s.data.toList p = some (n, q)) : cutL s.data.toList p q = M.varL n :=
  rv_canon s p 5 0 0 n q rfl (by omega) (by simp [got]) (by simp [got, M.val]) h

theorem piece_len (s : ByteArray) (q n : Nat) (h : q + n ≤ s.size) : (piece s q n).size = n := by
  unfold piece
  rw [ByteArray.size_extract]
  omega
end LV
end Go.Proofs.YthlgohplljcgfaaGreatDoor
/-
  A number that was written is read back from there on.
-/
namespace Go.Proofs.YthlgohplljcgfaaGreatDoor
set_option linter.unusedVariables false
namespace LV

theorem drop_at (s l : List UInt8) (k : Nat) (b : UInt8) (h : s.drop k = b :: l) : s[k]? = some b ∧ s.drop (k + 1) = l := by
  constructor
  · have : (s.drop k)[0]? = some b := by rw [h]; rfl
    simpa using this
  · have : (s.drop k).drop 1 = l := by rw [h]; rfl
    simpa [List.drop_drop] using this

/-- what varF wrote is read from there on -/
theorem rv_back (s : List UInt8) (p : Nat) : ∀ (fuel f i N m : Nat) (post : List UInt8), m < 128 ^ fuel → m < 128 ^ (f + 1) → 0 < fuel → (0 < m ∨ i = 0) → N + m * 128 ^ i ≤ 1000000000 → s.drop (p + i) = M.varF f m ++ post →
    M.rv s p fuel i N = some (N + m * 128 ^ i, p + i + (M.varF f m).length)
  | 0, _, _, _, _, _, _, _, h, _, _, _ => by omega
  | fuel + 1, f, i, N, m, post, h1, h2, _, h3, h4, h5 => by
    by_cases hm : m ≤ 127
    · rw [M.varF_small f m hm] at h5 ⊢
      obtain ⟨hb, _⟩ := drop_at _ _ _ _ h5
      have hn : (UInt8.ofNat m).toNat = m := by simp; omega
      rw [M.rv, hb]
      simp only [hn]
      rw [if_neg (by omega), if_neg]
      · have : m % 128 = m := by omega
        rw [this]
        rfl
      · have : m % 128 = m := by omega
        rw [this]
        omega
    · cases f with
      | zero => simp at h2; omega
      | succ f =>
        rw [M.varF_big f m (by omega)] at h5 ⊢
        obtain ⟨hb, hd⟩ := drop_at _ _ _ _ h5
        have hn : (UInt8.ofNat (m % 128 + 128)).toNat = m % 128 + 128 := by simp; omega
        have e1 : m % 128 * 128 ^ i + m / 128 * 128 ^ (i + 1) = m * 128 ^ i := by
          rw [Nat.pow_succ, Nat.mul_comm (128 ^ i) 128, ← Nat.mul_assoc, ← Nat.add_mul]
          congr 1
          omega
        have hfp : 0 < fuel := by
          rcases Nat.eq_zero_or_pos fuel with h0 | h0
          · subst h0; simp at h1; omega
          · exact h0
        rw [M.rv, hb]
        simp only [hn]
        have e2 : (m % 128 + 128) % 128 = m % 128 := by omega
        rw [if_pos (by omega), e2]
        have ih := rv_back s p fuel f (i + 1) (N + m % 128 * 128 ^ i) (m / 128) post (by rw [Nat.pow_succ] at h1; omega) (by rw [Nat.pow_succ] at h2; omega) hfp (.inl (by omega)) (by omega) (by rw [show p + (i + 1) = p + i + 1 by omega]; exact hd)
        rw [ih, Nat.add_assoc N, e1, List.length_cons]
        congr 2
        omega

theorem readVar_back (pre post : List UInt8) (n : Nat) (hn : n ≤ 1000000000) : M.readVar (pre ++ (M.varL n ++ post)) pre.length = some (n, pre.length + (M.varL n).length) := by
  have h := rv_back (pre ++ (M.varL n ++ post)) pre.length 5 9 0 0 n post (by omega) (by omega) (by omega) (.inr rfl) (by simpa using hn) (by simp [M.varL])
  unfold M.readVar
  rw [h]
  simp [M.varL]

end LV
end Go.Proofs.YthlgohplljcgfaaGreatDoor
