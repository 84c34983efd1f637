/-
  Texts laid together: Ya, Jhk, Ti.
-/
import Derived.Test.YtklpanjedolkdaaGreatDoorPkELS26
import Derived.Test.YtklpanjedolkdaaGreatDoorPkELS16
import Derived.Deep.RegionHeld3
import Derived.Test.YtklpanjedolkdaaGreatDoorPkELS19
import Derived.Test.YtklpanjedolkdaaGreatDoorPkELS8
import Derived.Test.YtklpanjedolkdaaGreatDoorPkELS5
/-
  Which shard a name is in: the program's answer and the specification's.
-/
namespace Go.Proofs.YtklpanjedolkdaaGreatDoor
open Go.RowKit Go.BigFrame
set_option linter.unusedVariables false
set_option linter.unusedSimpArgs false

/-- the k highest bits of a byte -/
def shQ (N : Nat) (k : Int) : Nat := if 0 ≤ k ∧ k ≤ 2 then N / 2 ^ (8 - k).toNat else 0
theorem shQ_0 (N : Nat) : shQ N 0 = N / 256 := rfl
theorem shQ_1 (N : Nat) : shQ N 1 = N / 128 := rfl
theorem shQ_2 (N : Nat) : shQ N 2 = N / 64 := rfl
/-- the k highest bits of a name's index -/
def shN (t : ByteArray) (k : Int) : Nat := shQ (idxN t) k
/-- how many shards there are -/
def shC (k : Int) : Nat := if 0 ≤ k ∧ k ≤ 2 then 2 ^ k.toNat else 1
theorem idxN_lt (t : ByteArray) : idxN t < 256 := (byte0 (digB t)).toNat_lt
theorem shC_cases (k : Int) : shC k = 1 ∨ shC k = 2 ∨ shC k = 4 := by
  unfold shC
  split
  · rename_i h
    have : k = 0 ∨ k = 1 ∨ k = 2 := by omega
    rcases this with rfl | rfl | rfl
    · exact .inl rfl
    · exact .inr (.inl rfl)
    · exact .inr (.inr rfl)
  · exact .inl rfl
theorem shQ_lt (N : Nat) (k : Int) (hN : N < 256) : shQ N k < shC k := by
  unfold shQ shC
  split
  · rename_i h
    have : k = 0 ∨ k = 1 ∨ k = 2 := by omega
    rcases this with rfl | rfl | rfl
    · show N / 256 < 1; omega
    · show N / 128 < 2; omega
    · show N / 64 < 4; omega
  · omega
theorem shN_lt (t : ByteArray) (k : Int) : shN t k < shC k := shQ_lt _ k (idxN_lt t)

theorem splitOk_any (k : Int) (w : World) : Calls Tryz.prog 42 #[.int .i64 k] w fun e w' => e = .returned (.bool (decide (0 ≤ k ∧ k ≤ 2))) ∧ w' = w := by
  by_cases h1 : 0 ≤ k
  · by_cases h2 : k ≤ 2
    · go_enter Tryz.func42, Tryz.ntmps42
      go_wp2
      go_ret
      exact ⟨by simp [h1, h2], rfl⟩
    · go_enter Tryz.func42, Tryz.ntmps42
      go_wp2
      go_ret
      exact ⟨by simp [h2], rfl⟩
  · go_enter Tryz.func42, Tryz.ntmps42
    go_wp2
    go_ret
    exact ⟨by simp; omega, rfl⟩

theorem shardCount_any (k : Int) (w : World) : Calls Tryz.prog 43 #[.int .i64 k] w fun e w' => e = .returned (.int .i64 (shC k : Int)) ∧ w' = w := by
  by_cases h : 0 ≤ k ∧ k ≤ 2
  · have hd : decide (0 ≤ k ∧ k ≤ 2) = true := by simpa using h
    have : k = 0 ∨ k = 1 ∨ k = 2 := by omega
    rcases this with rfl | rfl | rfl
    all_goals
      go_enter Tryz.func43, Tryz.ntmps43
      go_wp2_with fail
      refine (splitOk_any _ _).mono ?_
      rintro e w1 ⟨rfl, rfl⟩
      rw [hd]
      go_wp2
      go_ret
      exact ⟨rfl, rfl⟩
  · have hd : decide (0 ≤ k ∧ k ≤ 2) = false := by simpa using h
    have e1 : shC k = 1 := by unfold shC; rw [if_neg h]
    rw [e1]
    clear h e1
    go_enter Tryz.func43, Tryz.ntmps43
    go_wp2_with fail
    refine (splitOk_any _ _).mono ?_
    rintro e w1 ⟨rfl, rfl⟩
    rw [hd]
    go_wp2
    go_ret
    exact ⟨rfl, rfl⟩

theorem ShardOf_any (t : ByteArray) (k : Int) (w : World) (ht : t.size ≤ 1048576) (hT : Tb w) :
    Calls Tryz.prog 114 #[.string t, .int .i64 k] w fun e w' => e = .returned (.int .i64 (shN t k : Int)) ∧ Below w.heap.size w w' := by
  by_cases h : 0 ≤ k ∧ k ≤ 2
  · have hd : decide (0 ≤ k ∧ k ≤ 2) = true := by simpa using h
    have hc := IndexOf_any t w ht hT.1 hT.2
    change Calls Tryz.prog 119 _ _ (fun e w' => e = .returned (.int .i64 (idxN t : Int)) ∧ Below _ _ w') at hc
    have hlt := idxN_lt t
    have : k = 0 ∨ k = 1 ∨ k = 2 := by omega
    have e0 : shN t 0 = idxN t / 256 := shQ_0 _
    have e1 : shN t 1 = idxN t / 128 := shQ_1 _
    have e2 : shN t 2 = idxN t / 64 := shQ_2 _
    clear hT h
    rcases this with rfl | rfl | rfl
    · rw [e0]
      clear e0 e1 e2
      generalize idxN t = N at *
      go_enter Tryz.func114, Tryz.ntmps114
      go_wp2_with fail
      refine (splitOk_any _ _).mono ?_
      rintro e w1 ⟨rfl, rfl⟩
      rw [hd]
      go_wp2_with fail
      refine hc.mono ?_
      rintro e w2 ⟨rfl, hb⟩
      go_wp2
      go_ret
      exact ⟨by simp, hb⟩
    · rw [e1]
      clear e0 e1 e2
      generalize idxN t = N at *
      go_enter Tryz.func114, Tryz.ntmps114
      go_wp2_with fail
      refine (splitOk_any _ _).mono ?_
      rintro e w1 ⟨rfl, rfl⟩
      rw [hd]
      go_wp2_with fail
      refine hc.mono ?_
      rintro e w2 ⟨rfl, hb⟩
      go_wp2
      go_ret
      exact ⟨by simp, hb⟩
    · rw [e2]
      clear e0 e1 e2
      generalize idxN t = N at *
      go_enter Tryz.func114, Tryz.ntmps114
      go_wp2_with fail
      refine (splitOk_any _ _).mono ?_
      rintro e w1 ⟨rfl, rfl⟩
      rw [hd]
      go_wp2_with fail
      refine hc.mono ?_
      rintro e w2 ⟨rfl, hb⟩
      go_wp2
      go_ret
      exact ⟨by simp, hb⟩
  · have hd : decide (0 ≤ k ∧ k ≤ 2) = false := by simpa using h
    have e1 : shN t k = 0 := by unfold shN shQ; rw [if_neg h]
    rw [e1]
    clear h e1
    go_enter Tryz.func114, Tryz.ntmps114
    go_wp2_with fail
    refine (splitOk_any _ _).mono ?_
    rintro e w1 ⟨rfl, rfl⟩
    rw [hd]
    go_wp2
    go_ret
    exact ⟨rfl, Below.refl _ _⟩

theorem sShardOf_any (t : ByteArray) (k : Int) (w : World) (ht : t.size ≤ 1048576) :
    Calls Tryz.prog 64 #[.string t, .int .i64 k] w fun e w' => e = .returned (.int .i64 (shN t k : Int)) ∧ Below w.heap.size w w' := by
  by_cases h : 0 ≤ k ∧ k ≤ 2
  · have hd : decide (0 ≤ k ∧ k ≤ 2) = true := by simpa using h
    have hc := sIndexOf_any t w ht
    change Calls Tryz.prog 109 _ _ (fun e w' => e = .returned (.int .i64 (idxN t : Int)) ∧ Below _ _ w') at hc
    have hlt := idxN_lt t
    have : k = 0 ∨ k = 1 ∨ k = 2 := by omega
    have e0 : shN t 0 = idxN t / 256 := shQ_0 _
    have e1 : shN t 1 = idxN t / 128 := shQ_1 _
    have e2 : shN t 2 = idxN t / 64 := shQ_2 _
    clear h
    rcases this with rfl | rfl | rfl
    · rw [e0]
      clear e0 e1 e2
      generalize idxN t = N at *
      go_enter Tryz.func64, Tryz.ntmps64
      go_wp2_with fail
      refine (l01In_any _ _ _ _).mono ?_
      rintro e w1 ⟨rfl, rfl⟩
      rw [hd]
      go_wp2_with fail
      refine hc.mono ?_
      rintro e w2 ⟨rfl, hb⟩
      go_wp2
      go_ret
      exact ⟨by simp, hb⟩
    · rw [e1]
      clear e0 e1 e2
      generalize idxN t = N at *
      go_enter Tryz.func64, Tryz.ntmps64
      go_wp2_with fail
      refine (l01In_any _ _ _ _).mono ?_
      rintro e w1 ⟨rfl, rfl⟩
      rw [hd]
      go_wp2_with fail
      refine hc.mono ?_
      rintro e w2 ⟨rfl, hb⟩
      go_wp2
      go_ret
      exact ⟨by simp, hb⟩
    · rw [e2]
      clear e0 e1 e2
      generalize idxN t = N at *
      go_enter Tryz.func64, Tryz.ntmps64
      go_wp2_with fail
      refine (l01In_any _ _ _ _).mono ?_
      rintro e w1 ⟨rfl, rfl⟩
      rw [hd]
      go_wp2_with fail
      refine hc.mono ?_
      rintro e w2 ⟨rfl, hb⟩
      go_wp2
      go_ret
      exact ⟨by simp, hb⟩
  · have hd : decide (0 ≤ k ∧ k ≤ 2) = false := by simpa using h
    have e1 : shN t k = 0 := by unfold shN shQ; rw [if_neg h]
    rw [e1]
    clear h e1
    go_enter Tryz.func64, Tryz.ntmps64
    go_wp2_with fail
    refine (l01In_any _ _ _ _).mono ?_
    rintro e w1 ⟨rfl, rfl⟩
    rw [hd]
    go_wp2
    go_ret
    exact ⟨rfl, Below.refl _ _⟩

end Go.Proofs.YtklpanjedolkdaaGreatDoor
/-
  Is a name of this shard? The program's answer.
-/
namespace Go.Proofs.YtklpanjedolkdaaGreatDoor
open Go.RowKit Go.BigFrame Go.Sort
set_option linter.unusedVariables false
set_option linter.unusedSimpArgs false

set_option maxRecDepth 100000 in
set_option maxHeartbeats 1000000 in
theorem keeps_any (a k : Int) (x2 x3 x4 x5 x6 x7 x8 x9 x10 : Value) (p : Nat) (nm : ByteArray) (w : World) (h : Box 41 w p [.int .i64 a, .int .i64 k, x2, x3, x4, x5, x6, x7, x8, x9, x10]) (ht : nm.size ≤ 1048576) (hT : Tb w) :
    Calls Tryz.prog 66 #[.pointer (some ⟨p, 0, none⟩), .string nm] w fun e w' => e = .returned (.bool (decide ((shN nm k : Int) = a))) ∧ Below w.heap.size w w' := by
  have HK : Hid (∀ W, Below w.heap.size w W → W.cell? ⟨p, 0, none⟩ = some (.int .i64 a) ∧ W.cell? ⟨p, 1, none⟩ = some (.int .i64 k)) := fun W hW => ⟨(h.later hW).at 0 _ rfl, (h.later hW).at 1 _ rfl⟩
  have HC : Hid (∀ W, Below w.heap.size w W → Calls Tryz.prog 114 #[.string nm, .int .i64 k] W fun e w' => e = .returned (.int .i64 (shN nm k : Int)) ∧ Below W.heap.size W w') := fun W hW => ShardOf_any nm k W ht (hT.later hW)
  have hb0 : Below w.heap.size w w.drew := (Below.refl _ _).drew
  generalize (shN nm k : Int) = z at *
  clear h hT
  go_enter Tryz.func66, Tryz.ntmps66
  go_wp2
  go_region_held3 (fun W => W.cell? ⟨p, 0, none⟩ = some (.int .i64 a) ∧ W.cell? ⟨p, 1, none⟩ = some (.int .i64 k)) (first | (go_keep; done) | exact HK.out _ hb0) (first | (go_at_call 114; refine (HC.out _ hb0).mono ?_; rintro e w2 ⟨rfl, hb2⟩; have hb0 := hb0.trans (hb2.mono hb0.size)) | fail)
  try rename_i hHeld
  try clear hHeld
  go_wp2
  go_ret
  exact ⟨rfl, hb0⟩

end Go.Proofs.YtklpanjedolkdaaGreatDoor
/-
  Plain facts of tagged texts: two of them are alike only where kind and parts are; of two chains of digested texts that end alike and differ, the last two that differ have one digest.
-/
namespace Go.Proofs.YtklpanjedolkdaaGreatDoor.TR
set_option linter.unusedVariables false

theorem var_inj {n m : Nat} {s t : List UInt8} (hn : n ≤ 1000000000) (hm : m ≤ 1000000000) (h : M.varL n ++ s = M.varL m ++ t) : n = m ∧ s = t := by
  have a := LV.readVar_back [] s n hn
  have b := LV.readVar_back [] t m hm
  simp only [List.nil_append, List.length_nil, Nat.zero_add] at a b
  rw [h, b] at a
  have e : m = n := by simpa using congrArg (fun o => o.map Prod.fst) a
  subst e
  exact ⟨rfl, List.append_cancel_left h⟩
theorem var_ne (n : Nat) : M.varL n ≠ [] := by
  unfold M.varL
  by_cases h : n ≤ 127
  · rw [M.varF_small 9 n h]; simp
  · rw [M.varF_big 8 n (by omega)]; simp
theorem part_inj {p q : ByteArray} {s t : List UInt8} (hp : p.size ≤ 1000000000) (hq : q.size ≤ 1000000000) (h : tagP p ++ s = tagP q ++ t) : p = q ∧ s = t := by
  unfold tagP at h
  rw [List.append_assoc, List.append_assoc] at h
  obtain ⟨e, h2⟩ := var_inj hp hq h
  have hl : p.data.toList.length = q.data.toList.length := by
    have h1 : p.data.toList.length = p.size := rfl
    have h3 : q.data.toList.length = q.size := rfl
    omega
  obtain ⟨e1, e2⟩ := List.append_inj h2 hl
  refine ⟨?_, e2⟩
  cases p
  cases q
  congr
  exact Array.toList_inj.1 e1
theorem parts_inj : ∀ {l l' : List ByteArray}, (∀ x ∈ l, x.size ≤ 1000000000) → (∀ x ∈ l', x.size ≤ 1000000000) → l.flatMap tagP = l'.flatMap tagP → l = l'
  | [], [], _, _, _ => rfl
  | [], q :: t, _, _, h => by
    rw [List.flatMap_nil, List.flatMap_cons] at h
    have := (List.append_eq_nil_iff.1 h.symm).1
    unfold tagP at this
    exact absurd (List.append_eq_nil_iff.1 this).1 (var_ne _)
  | p :: t, [], _, _, h => by
    rw [List.flatMap_nil, List.flatMap_cons] at h
    have := (List.append_eq_nil_iff.1 h).1
    unfold tagP at this
    exact absurd (List.append_eq_nil_iff.1 this).1 (var_ne _)
  | p :: s, q :: t, h1, h2, h => by
    rw [List.flatMap_cons, List.flatMap_cons] at h
    obtain ⟨e, h3⟩ := part_inj (h1 p (by simp)) (h2 q (by simp)) h
    rw [e, parts_inj (fun x hx => h1 x (by simp [hx])) (fun x hx => h2 x (by simp [hx])) h3]
/-- **two tagged texts are alike only where kind and parts are** -/
theorem tag_inj {k k' : Nat} {l l' : List ByteArray} (hk : k ≤ 255) (hk' : k' ≤ 255) (h1 : ∀ x ∈ l, x.size ≤ 1000000000) (h2 : ∀ x ∈ l', x.size ≤ 1000000000) (h : tagS k l = tagS k' l') : k = k' ∧ l = l' := by
  have e : tagL k l = tagL k' l' := by
    have := congrArg (fun b : ByteArray => b.data.toList) h
    simpa [tagS] using this
  unfold tagL at e
  obtain ⟨e1, e2⟩ := List.cons.inj e
  refine ⟨?_, parts_inj h1 h2 e2⟩
  have := congrArg UInt8.toNat e1
  simp at this
  omega
/-- the parts of a bucket's text -/
def bkp (L : List Le) : List ByteArray := L.flatMap fun f => [f.n, f.v]
theorem bkp_inj : ∀ {L M : List Le}, bkp L = bkp M → L = M
  | [], [], _ => rfl
  | [], g :: t, h => by simp [bkp] at h
  | f :: s, [], h => by simp [bkp] at h
  | f :: s, g :: t, h => by
    have h' : f.n :: f.v :: bkp s = g.n :: g.v :: bkp t := h
    obtain ⟨e1, h2⟩ := List.cons.inj h'
    obtain ⟨e2, h3⟩ := List.cons.inj h2
    have : f = g := by cases f; cases g; simp at e1 e2; rw [e1, e2]
    rw [this, bkp_inj h3]
theorem bkp_len (L : List Le) : (bkp L).length = 2 * L.length := by
  induction L with
  | nil => rfl
  | cons f t ih => unfold bkp at ih ⊢; rw [List.flatMap_cons, List.length_append, ih]; simp; omega

/-- of two chains: from the last one on back the first two that differ, have they one digest? -/
def clB {τ δ : Type} [DecidableEq τ] [DecidableEq δ] (d : τ → δ) (a b : Nat → τ) : Nat → Bool
  | 0 => false
  | n + 1 => if a n = b n then clB d a b n else decide (d (a n) = d (b n))
theorem clB_yes {τ δ : Type} [DecidableEq τ] [DecidableEq δ] {d : τ → δ} {a b : Nat → τ} : ∀ n, (∃ i, i < n ∧ a i ≠ b i) → d (a (n - 1)) = d (b (n - 1)) → (∀ i, i + 1 < n → a (i + 1) = b (i + 1) → d (a i) = d (b i)) → clB d a b n = true
  | 0, ⟨i, hi, _⟩, _, _ => absurd hi (by omega)
  | n + 1, ⟨i, hi, hne⟩, hl, hs => by
    unfold clB
    by_cases h : a n = b n
    · rw [if_pos h]
      have hin : i < n := by
        rcases Nat.lt_or_ge i n with h1 | h1
        · exact h1
        · have : i = n := by omega
          subst this
          exact absurd h hne
      refine clB_yes n ⟨i, hin, hne⟩ (hs (n - 1) (by omega) ?_) (fun j hj => hs j (by omega))
      rw [show n - 1 + 1 = n by omega]
      exact h
    · rw [if_neg h]
      simpa using hl

end Go.Proofs.YtklpanjedolkdaaGreatDoor.TR
