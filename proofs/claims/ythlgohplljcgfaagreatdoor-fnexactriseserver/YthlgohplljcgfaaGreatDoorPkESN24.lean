/-
  Texts laid together: Lit, Tbl, Ya, Ce.
-/
import Derived.Test.YthlgohplljcgfaaGreatDoorPkESN5
import Derived.Test.YthlgohplljcgfaaGreatDoorPkESN23
import Derived.Test.YthlgohplljcgfaaGreatDoorPkESN14
import Derived.Test.YthlgohplljcgfaaGreatDoorPkESN18
import Derived.Test.YthlgohplljcgfaaGreatDoorPkESN2
/-
  Rows of texts that are written out.
-/
namespace Go.Proofs.YthlgohplljcgfaaGreatDoor
open Go.RowKit
set_option linter.unusedVariables false

/-- texts that are written out -/
theorem ss_lits (w : World) (l : List ByteArray) (cs : Array Value) (n : Nat) (hn : l.length = n) (hl : n ≤ 1100000) (hc : cs = (svs l).toArray) : SS (w.alloc (.cells cs 9)) (.slice (some ⟨w.heap.size, 0, none⟩) n n) w.heap.size 0 l := by
  subst hc
  subst hn
  refine ⟨_, _, rfl, hl, fun _ => rfl, fun j hj => ?_⟩
  rw [Nat.zero_add, World.cell?_alloc_at _ _ _ _ rfl]
  simp [svs, List.getElem?_eq_getElem hj]

end Go.Proofs.YthlgohplljcgfaaGreatDoor
/-
  Tagged hashes of texts that are written out, at any width.
-/
namespace Go.Proofs.YthlgohplljcgfaaGreatDoor
open Go.RowKit Go.BigFrame
set_option linter.unusedVariables false

/-- the two tables lie as the program's text lays them -/
def Tb (w : World) : Prop := TabK w ∧ TabF w
theorem Tb.later {w w' : World} (h : Tb w) (hb : Below w.heap.size w w') : Tb w' := ⟨h.1.later hb h.1.pos, h.2.later hb h.2.pos⟩
theorem Tb.alloc {w : World} (h : Tb w) (o : Obj) : Tb (w.alloc o) := h.later ((Below.refl _ _).alloc (Nat.le_refl _) _)

end Go.Proofs.YthlgohplljcgfaaGreatDoor
/-
  Which shard a name is in: the program's answer and the specification's.
-/
namespace Go.Proofs.YthlgohplljcgfaaGreatDoor
open Go.RowKit Go.BigFrame
set_option linter.unusedVariables false
set_option linter.unusedSimpArgs false

/-- the k highest bits of a byte -/
def shQ (N : Nat) (k : Int) : Nat := if 0 ≤ k ∧ k ≤ 2 then N / 2 ^ (8 - k).toNat else 0
theorem shQ_0 (N : Nat) : shQ N 0 = N / 256 := rfl
theorem shQ_1 (N : Nat) : shQ N 1 = N / 128 := rfl
theorem shQ_2 (N : Nat) : shQ N 2 = N / 64 := rfl
/-- the k highest bits of a name's index -/
def shN (t : ByteArray) (k : Int) : Nat := shQ (idxN t) k
/-- how many shards there are -/
def shC (k : Int) : Nat := if 0 ≤ k ∧ k ≤ 2 then 2 ^ k.toNat else 1
theorem idxN_lt (t : ByteArray) : idxN t < 256 := (byte0 (digB t)).toNat_lt
theorem shC_cases (k : Int) : shC k = 1 ∨ shC k = 2 ∨ shC k = 4 := by
  unfold shC
  split
  · rename_i h
    have : k = 0 ∨ k = 1 ∨ k = 2 := by omega
    rcases this with rfl | rfl | rfl
    · exact .inl rfl
    · exact .inr (.inl rfl)
    · exact .inr (.inr rfl)
  · exact .inl rfl
theorem shQ_lt (N : Nat) (k : Int) (hN : N < 256) : shQ N k < shC k := by
  unfold shQ shC
  split
  · rename_i h
    have : k = 0 ∨ k = 1 ∨ k = 2 := by omega
    rcases this with rfl | rfl | rfl
    · show N / 256 < 1; omega
    · show N / 128 < 2; omega
    · show N / 64 < 4; omega
  · omega
theorem shN_lt (t : ByteArray) (k : Int) : shN t k < shC k := shQ_lt _ k (idxN_lt t)

theorem splitOk_any (k : Int) (w : World) : Calls Tryz.prog 59 #[.int .i64 k] w fun e w' => e = .returned (.bool (decide (0 ≤ k ∧ k ≤ 2))) ∧ w' = w := by
  by_cases h1 : 0 ≤ k
  · by_cases h2 : k ≤ 2
    · go_enter Tryz.func59, Tryz.ntmps59
      go_wp2
      go_ret
      exact ⟨by simp [h1, h2], rfl⟩
    · go_enter Tryz.func59, Tryz.ntmps59
      go_wp2
      go_ret
      exact ⟨by simp [h2], rfl⟩
  · go_enter Tryz.func59, Tryz.ntmps59
    go_wp2
    go_ret
    exact ⟨by simp; omega, rfl⟩

theorem shardCount_any (k : Int) (w : World) : Calls Tryz.prog 60 #[.int .i64 k] w fun e w' => e = .returned (.int .i64 (shC k : Int)) ∧ w' = w := by
  by_cases h : 0 ≤ k ∧ k ≤ 2
  · have hd : decide (0 ≤ k ∧ k ≤ 2) = true := by simpa using h
    have : k = 0 ∨ k = 1 ∨ k = 2 := by omega
    rcases this with rfl | rfl | rfl
    all_goals
      go_enter Tryz.func60, Tryz.ntmps60
      go_wp2_with fail
      refine (splitOk_any _ _).mono ?_
      rintro e w1 ⟨rfl, rfl⟩
      rw [hd]
      go_wp2
      go_ret
      exact ⟨rfl, rfl⟩
  · have hd : decide (0 ≤ k ∧ k ≤ 2) = false := by simpa using h
    have e1 : shC k = 1 := by unfold shC; rw [if_neg h]
    rw [e1]
    clear h e1
    go_enter Tryz.func60, Tryz.ntmps60
    go_wp2_with fail
    refine (splitOk_any _ _).mono ?_
    rintro e w1 ⟨rfl, rfl⟩
    rw [hd]
    go_wp2
    go_ret
    exact ⟨rfl, rfl⟩

theorem ShardOf_any (t : ByteArray) (k : Int) (w : World) (ht : t.size ≤ 1048576) (hT : Tb w) :
    Calls Tryz.prog 140 #[.string t, .int .i64 k] w fun e w' => e = .returned (.int .i64 (shN t k : Int)) ∧ Below w.heap.size w w' := by
  by_cases h : 0 ≤ k ∧ k ≤ 2
  · have hd : decide (0 ≤ k ∧ k ≤ 2) = true := by simpa using h
    have hc := IndexOf_any t w ht hT.1 hT.2
    change Calls Tryz.prog 165 _ _ (fun e w' => e = .returned (.int .i64 (idxN t : Int)) ∧ Below _ _ w') at hc
    have hlt := idxN_lt t
    have : k = 0 ∨ k = 1 ∨ k = 2 := by omega
    have e0 : shN t 0 = idxN t / 256 := shQ_0 _
    have e1 : shN t 1 = idxN t / 128 := shQ_1 _
    have e2 : shN t 2 = idxN t / 64 := shQ_2 _
    clear hT h
    rcases this with rfl | rfl | rfl
    · rw [e0]
      clear e0 e1 e2
      generalize idxN t = N at *
      go_enter Tryz.func140, Tryz.ntmps140
      go_wp2_with fail
      refine (splitOk_any _ _).mono ?_
      rintro e w1 ⟨rfl, rfl⟩
      rw [hd]
      go_wp2_with fail
      refine hc.mono ?_
      rintro e w2 ⟨rfl, hb⟩
      go_wp2
      go_ret
      exact ⟨by simp, hb⟩
    · rw [e1]
      clear e0 e1 e2
      generalize idxN t = N at *
      go_enter Tryz.func140, Tryz.ntmps140
      go_wp2_with fail
      refine (splitOk_any _ _).mono ?_
      rintro e w1 ⟨rfl, rfl⟩
      rw [hd]
      go_wp2_with fail
      refine hc.mono ?_
      rintro e w2 ⟨rfl, hb⟩
      go_wp2
      go_ret
      exact ⟨by simp, hb⟩
    · rw [e2]
      clear e0 e1 e2
      generalize idxN t = N at *
      go_enter Tryz.func140, Tryz.ntmps140
      go_wp2_with fail
      refine (splitOk_any _ _).mono ?_
      rintro e w1 ⟨rfl, rfl⟩
      rw [hd]
      go_wp2_with fail
      refine hc.mono ?_
      rintro e w2 ⟨rfl, hb⟩
      go_wp2
      go_ret
      exact ⟨by simp, hb⟩
  · have hd : decide (0 ≤ k ∧ k ≤ 2) = false := by simpa using h
    have e1 : shN t k = 0 := by unfold shN shQ; rw [if_neg h]
    rw [e1]
    clear h e1
    go_enter Tryz.func140, Tryz.ntmps140
    go_wp2_with fail
    refine (splitOk_any _ _).mono ?_
    rintro e w1 ⟨rfl, rfl⟩
    rw [hd]
    go_wp2
    go_ret
    exact ⟨rfl, Below.refl _ _⟩

theorem sShardOf_any (t : ByteArray) (k : Int) (w : World) (ht : t.size ≤ 1048576) :
    Calls Tryz.prog 68 #[.string t, .int .i64 k] w fun e w' => e = .returned (.int .i64 (shN t k : Int)) ∧ Below w.heap.size w w' := by
  by_cases h : 0 ≤ k ∧ k ≤ 2
  · have hd : decide (0 ≤ k ∧ k ≤ 2) = true := by simpa using h
    have hc := sIndexOf_any t w ht
    change Calls Tryz.prog 108 _ _ (fun e w' => e = .returned (.int .i64 (idxN t : Int)) ∧ Below _ _ w') at hc
    have hlt := idxN_lt t
    have : k = 0 ∨ k = 1 ∨ k = 2 := by omega
    have e0 : shN t 0 = idxN t / 256 := shQ_0 _
    have e1 : shN t 1 = idxN t / 128 := shQ_1 _
    have e2 : shN t 2 = idxN t / 64 := shQ_2 _
    clear h
    rcases this with rfl | rfl | rfl
    · rw [e0]
      clear e0 e1 e2
      generalize idxN t = N at *
      go_enter Tryz.func68, Tryz.ntmps68
      go_wp2_with fail
      refine (l01In_any _ _ _ _).mono ?_
      rintro e w1 ⟨rfl, rfl⟩
      rw [hd]
      go_wp2_with fail
      refine hc.mono ?_
      rintro e w2 ⟨rfl, hb⟩
      go_wp2
      go_ret
      exact ⟨by simp, hb⟩
    · rw [e1]
      clear e0 e1 e2
      generalize idxN t = N at *
      go_enter Tryz.func68, Tryz.ntmps68
      go_wp2_with fail
      refine (l01In_any _ _ _ _).mono ?_
      rintro e w1 ⟨rfl, rfl⟩
      rw [hd]
      go_wp2_with fail
      refine hc.mono ?_
      rintro e w2 ⟨rfl, hb⟩
      go_wp2
      go_ret
      exact ⟨by simp, hb⟩
    · rw [e2]
      clear e0 e1 e2
      generalize idxN t = N at *
      go_enter Tryz.func68, Tryz.ntmps68
      go_wp2_with fail
      refine (l01In_any _ _ _ _).mono ?_
      rintro e w1 ⟨rfl, rfl⟩
      rw [hd]
      go_wp2_with fail
      refine hc.mono ?_
      rintro e w2 ⟨rfl, hb⟩
      go_wp2
      go_ret
      exact ⟨by simp, hb⟩
  · have hd : decide (0 ≤ k ∧ k ≤ 2) = false := by simpa using h
    have e1 : shN t k = 0 := by unfold shN shQ; rw [if_neg h]
    rw [e1]
    clear h e1
    go_enter Tryz.func68, Tryz.ntmps68
    go_wp2_with fail
    refine (l01In_any _ _ _ _).mono ?_
    rintro e w1 ⟨rfl, rfl⟩
    rw [hd]
    go_wp2
    go_ret
    exact ⟨rfl, Below.refl _ _⟩

end Go.Proofs.YthlgohplljcgfaaGreatDoor
/-
  A change's text: the program's and the specification's answers.
-/
namespace Go.Proofs.YthlgohplljcgfaaGreatDoor
open Go.RowKit Go.BigFrame Go.Sort
set_option linter.unusedVariables false
set_option linter.unusedSimpArgs false

theorem okB_size {p : UInt8 → Bool} {s : ByteArray} (h : okB p s = true) : 1 ≤ s.size ∧ s.size ≤ 12 := by
  unfold okB at h
  rw [Bool.and_eq_true] at h
  exact of_decide_eq_true h.1
theorem empty_size {s : ByteArray} (h : s.toList.isEmpty = true) : s.size = 0 := by
  rw [ByteArray.toList_eq, List.isEmpty_iff] at h
  have h1 : s.data.toList.length = s.size := Array.length_toList
  rw [h] at h1
  exact h1.symm
namespace UV
def vb (n : Nat) : ByteArray := ⟨(M.varL n).toArray⟩
/-- its text, when it is right -/
def txtU (x : Ug) : ByteArray := vb x.i.toNat ++ (vb x.n.size ++ x.n) ++ (vb x.v.size ++ x.v)
/-- .. and else nothing -/
def textU (x : Ug) : ByteArray := if okU x = true then txtU x else ⟨#[]⟩
theorem vOk_size {v : ByteArray} (h : vOk v = true) : v.size ≤ 12 := by
  unfold vOk at h
  rw [Bool.or_eq_true] at h
  rcases h with h | h
  · rw [empty_size h]; omega
  · exact (okB_size h).2
theorem okU_parts {x : Ug} (h : okU x = true) : (1 ≤ x.i ∧ x.i ≤ 99) ∧ okB nameB x.n = true ∧ vOk x.v = true := by
  unfold okU at h
  rw [Bool.and_eq_true, Bool.and_eq_true] at h
  exact ⟨of_decide_eq_true h.1, h.2⟩
end UV

set_option maxRecDepth 100000 in
set_option maxHeartbeats 1000000 in
theorem sChangeText_any (x : Ug) (w : World) (hn : x.n.size ≤ 1048576) (hv : x.v.size ≤ 1048576) : Calls Tryz.prog 107 #[.agg #[.int .i64 x.i, .string x.n, .string x.v]] w fun e w' => e = .returned (.tuple #[.string (UV.textU x), .bool (UV.okU x)]) ∧ Below w.heap.size w w' := by
  have HC : Hid (∀ W, Calls Tryz.prog 133 #[.agg #[.int .i64 x.i, .string x.n, .string x.v]] W fun e w' => e = .returned (.bool (UV.okU x)) ∧ Below W.heap.size W w') := fun W => sChangeOk_any x W hn hv
  have HW : Hid (BU (w.alloc (.cells #[.int .i64 x.i, .string x.n, .string x.v] 102)) w.heap.size x ∧ Below w.heap.size w (w.alloc (.cells #[.int .i64 x.i, .string x.n, .string x.v] 102))) := ⟨BU.new w x, (Below.refl _ _).alloc (Nat.le_refl _) _⟩
  unfold UV.textU
  cases hok : UV.okU x
  · rw [hok] at HC
    rw [if_neg (by simp)]
    clear hok hn hv
    obtain ⟨i, n, v⟩ := x
    simp only at HC HW ⊢
    go_enter Tryz.func107, Tryz.ntmps107
    go_wp2_with fail
    refine (HC.out _).mono ?_
    rintro e w1 ⟨rfl, hb1⟩
    have b1 := HW.out.2.trans (hb1.mono HW.out.2.size)
    clear HC HW hb1
    go_wp2
    go_ret2
    exact ⟨rfl, b1⟩
  · rw [hok] at HC
    rw [if_pos rfl]
    obtain ⟨⟨h1, h2⟩, h3, h4⟩ := UV.okU_parts hok
    have hns := (okB_size h3).2
    have hvs := UV.vOk_size h4
    obtain ⟨k, hk⟩ : ∃ k : Nat, x.i = (k : Int) := ⟨x.i.toNat, by omega⟩
    have HV1 : Hid (∀ W, Calls Tryz.prog 129 #[.int .i64 (k : Int)] W fun e w' => e = .returned (.string (UV.vb k)) ∧ Below W.heap.size W w') := fun W => l01Var_any k W (by omega)
    have HN1 : Hid (∀ W, Calls Tryz.prog 129 #[.int .i64 (x.n.size : Int)] W fun e w' => e = .returned (.string (UV.vb x.n.size)) ∧ Below W.heap.size W w') := fun W => l01Var_any x.n.size W (by omega)
    have HS1 : Hid (∀ W, Calls Tryz.prog 129 #[.int .i64 (x.v.size : Int)] W fun e w' => e = .returned (.string (UV.vb x.v.size)) ∧ Below W.heap.size W w') := fun W => l01Var_any x.v.size W (by omega)
    have s1 : (UV.vb k).size ≤ 10 := varA_size k
    have s2 : (UV.vb x.n.size).size ≤ 10 := varA_size _
    have s3 : (UV.vb x.v.size).size ≤ 10 := varA_size _
    have hT : UV.txtU x = UV.vb k ++ UV.vb x.n.size ++ x.n ++ UV.vb x.v.size ++ x.v := by unfold UV.txtU; rw [hk]; simp only [Int.toNat_natCast, ByteArray.append_assoc]
    rw [hT]
    clear hT hok h1 h2 h3 h4 hn hv
    generalize UV.vb k = A at *
    generalize UV.vb x.n.size = B at *
    generalize UV.vb x.v.size = C at *
    obtain ⟨i, n, v⟩ := x
    simp only at HC HW HN1 HS1 hk hns hvs ⊢
    subst hk
    go_enter Tryz.func107, Tryz.ntmps107
    go_wp2_with fail
    refine (HC.out _).mono ?_
    rintro e w1 ⟨rfl, hb1⟩
    have HW1 : Hid (BU w1 w.heap.size ⟨k, n, v⟩ ∧ Below w.heap.size w w1) := ⟨HW.out.1.later hb1, HW.out.2.trans (hb1.mono HW.out.2.size)⟩
    clear HC HW hb1
    have z0 := HW1.out.1.c0
    have z1 := HW1.out.1.c1
    have z2 := HW1.out.1.c2
    simp only at z0 z1 z2
    go_wp2_with fail
    have kq0 := cell_regrown (w := w1) z0
    have kq1 := cell_regrown (w := w1) z1
    have kq2 := cell_regrown (w := w1) z2
    have cq0 := fun d os => Calls.regrown_of (w := w1) (d := d) (os := os) (HV1.out _)
    have cq1 := fun d os => Calls.regrown_of (w := w1) (d := d) (os := os) (HN1.out _)
    have cq2 := fun d os => Calls.regrown_of (w := w1) (d := d) (os := os) (HS1.out _)
    refine wp_region_quiet_below (by kernel_rfl) (by kernel_rfl) ?_
    repeat (go_big_quiet_step (first | (with_reducible exact cq0 _ _) | (with_reducible exact cq1 _ _) | (with_reducible exact cq2 _ _)))
    refine wpQuiet_nil ?_
    rintro _ ⟨⟨dq, osq⟩, rfl⟩
    have hb6 := HW1.out.2.trans ((below_regrown w1 dq osq).mono HW1.out.2.size)
    generalize grow (redrawn w1 dq) osq = w6 at *
    clear kq0 kq1 kq2 cq0 cq1 cq2 HW1
    go_wp2
    go_ret2
    exact ⟨rfl, hb6⟩

end Go.Proofs.YthlgohplljcgfaaGreatDoor
