/-
  Texts laid together: Tbl, Sec.
-/
import Derived.Test.YtkgibgadngeddabDoorPkEST13
import Derived.Test.YtkgibgadngeddabDoorPkEST15
/-
  Tagged hashes of texts that are written out, at any width.
-/
namespace Go.Proofs.YtkgibgadngeddabDoor
open Go.RowKit Go.BigFrame
set_option linter.unusedVariables false

/-- the two tables lie as the program's text lays them -/
def Tb (w : World) : Prop := TabK w ∧ TabF w
theorem Tb.later {w w' : World} (h : Tb w) (hb : Below w.heap.size w w') : Tb w' := ⟨h.1.later hb h.1.pos, h.2.later hb h.2.pos⟩
theorem Tb.alloc {w : World} (h : Tb w) (o : Obj) : Tb (w.alloc o) := h.later ((Below.refl _ _).alloc (Nat.le_refl _) _)

theorem taggedHash_w (x k : Int) (l : List ByteArray) (n : Nat) (cs : Array Value) (w : World) (g : Nat) (hg : w.heap.size = g) (hn : l.length = n) (hl : n ≤ 60) (hc : cs = (svs l).toArray) (hT : Tb w) :
    Hid (Calls Tryd.prog 35 #[.int .i64 x, .int .i64 k, .slice (some ⟨g, 0, none⟩) n n] (w.alloc (.cells cs 9)) fun e w' => e = .returned (.string (hashB k l x)) ∧ Below w.heap.size w w') := by
  subst hg
  have hT' := hT.alloc (.cells cs 9)
  exact (taggedHash_any x k _ w.heap.size 0 l (w.alloc (.cells cs 9)) (ss_lits w l cs n hn (by omega) hc) hT'.1 hT'.2).mono fun e w' ⟨he, hb⟩ => ⟨he, ((Below.refl _ _).alloc (Nat.le_refl _) _).trans (hb.mono (by simp))⟩
theorem taggedHash_wd (x k : Int) (l : List ByteArray) (n : Nat) (cs : Array Value) (w : World) (g : Nat) (hg : w.heap.size = g) (hn : l.length = n) (hl : n ≤ 60) (hc : cs = (svs l).toArray) (hT : Tb w) :
    Hid (Calls Tryd.prog 35 #[.int .i64 x, .int .i64 k, .slice (some ⟨g, 0, none⟩) n n] (w.alloc (.cells cs 9)).drew fun e w' => e = .returned (.string (hashB k l x)) ∧ Below w.heap.size w w') := by
  have h := taggedHash_w x k l n cs w.drew g hg hn hl hc hT
  exact h.out.mono fun e w' ⟨he, hb⟩ => ⟨he, (Below.refl _ _).drew.trans hb⟩
theorem sTagHash_w (x k : Int) (l : List ByteArray) (n : Nat) (cs : Array Value) (w : World) (g : Nat) (hg : w.heap.size = g) (hn : l.length = n) (hl : n ≤ 60) (hc : cs = (svs l).toArray) :
    Hid (Calls Tryd.prog 29 #[.int .i64 k, .slice (some ⟨g, 0, none⟩) n n, .int .i64 x] (w.alloc (.cells cs 9)) fun e w' => e = .returned (.string (hashB k l x)) ∧ Below w.heap.size w w') := by
  subst hg
  exact (sTagHash_any k _ x w.heap.size 0 l (w.alloc (.cells cs 9)) (ss_lits w l cs n hn (by omega) hc)).mono fun e w' ⟨he, hb⟩ => ⟨he, ((Below.refl _ _).alloc (Nat.le_refl _) _).trans (hb.mono (by simp))⟩
theorem sTagHash_wd (x k : Int) (l : List ByteArray) (n : Nat) (cs : Array Value) (w : World) (g : Nat) (hg : w.heap.size = g) (hn : l.length = n) (hl : n ≤ 60) (hc : cs = (svs l).toArray) :
    Hid (Calls Tryd.prog 29 #[.int .i64 k, .slice (some ⟨g, 0, none⟩) n n, .int .i64 x] (w.alloc (.cells cs 9)).drew fun e w' => e = .returned (.string (hashB k l x)) ∧ Below w.heap.size w w') := by
  have h := sTagHash_w x k l n cs w.drew g hg hn hl hc
  exact h.out.mono fun e w' ⟨he, hb⟩ => ⟨he, (Below.refl _ _).drew.trans hb⟩

end Go.Proofs.YtkgibgadngeddabDoor
/-
  What SecretOf, LockOf and SignBitsOf answer, the program's and the specification's.
-/
namespace Go.Proofs.YtkgibgadngeddabDoor
open Go.RowKit Go.BigFrame
set_option linter.unusedVariables false

theorem hashB_size {k : Int} {l : List ByteArray} (h : tagOk k l = true) : (hashB k l 16).size = 16 := by
  unfold hashB cutH
  rw [if_pos h, if_pos (by omega)]
  unfold cutB
  have := digB_size (tagB k l)
  simp [ByteArray.size_extract]
  omega
theorem hashB_le (k : Int) (l : List ByteArray) : (hashB k l 16).size ≤ 16 := by
  cases h : tagOk k l with
  | true => rw [hashB_size h]; omega
  | false =>
    unfold hashB
    rw [h]
    show 0 ≤ 16
    omega

theorem taggedHash_lit (k : Int) (l : List ByteArray) (n : Nat) (cs : Array Value) (w : World) (g : Nat) (hg : w.heap.size = g) (hn : l.length = n) (hl : n ≤ 60) (hc : cs = (svs l).toArray) (hT : Tb w) :
    Hid (Calls Tryd.prog 35 #[.int .i64 16, .int .i64 k, .slice (some ⟨g, 0, none⟩) n n] (w.alloc (.cells cs 9)) fun e w' => e = .returned (.string (hashB k l 16)) ∧ Below w.heap.size w w') := by
  subst hg
  have hT' := hT.alloc (.cells cs 9)
  exact (taggedHash_any 16 k _ w.heap.size 0 l (w.alloc (.cells cs 9)) (ss_lits w l cs n hn (by omega) hc) hT'.1 hT'.2).mono fun e w' ⟨he, hb⟩ => ⟨he, ((Below.refl _ _).alloc (Nat.le_refl _) _).trans (hb.mono (by simp))⟩
theorem sTagHash_lit (k : Int) (l : List ByteArray) (n : Nat) (cs : Array Value) (w : World) (g : Nat) (hg : w.heap.size = g) (hn : l.length = n) (hl : n ≤ 60) (hc : cs = (svs l).toArray) :
    Hid (Calls Tryd.prog 29 #[.int .i64 k, .slice (some ⟨g, 0, none⟩) n n, .int .i64 16] (w.alloc (.cells cs 9)) fun e w' => e = .returned (.string (hashB k l 16)) ∧ Below w.heap.size w w') := by
  subst hg
  exact (sTagHash_any k _ 16 w.heap.size 0 l (w.alloc (.cells cs 9)) (ss_lits w l cs n hn (by omega) hc)).mono fun e w' ⟨he, hb⟩ => ⟨he, ((Below.refl _ _).alloc (Nat.le_refl _) _).trans (hb.mono (by simp))⟩

/-- what LockOf is -/
def lockB (s : ByteArray) : ByteArray := hashB 6 [s] 16

theorem sLockOf_any (s : ByteArray) (w : World) :
    Calls Tryd.prog 18 #[.string s] w fun e w' => e = .returned (.string (lockB s)) ∧ Below w.heap.size w w' := by
  have hc := sTagHash_lit 6 [s] 1 #[.string s] w _ rfl rfl (by omega) rfl
  unfold lockB
  generalize hashB 6 [s] 16 = T at *
  go_enter Tryd.func18, Tryd.ntmps18
  go_wp2_with fail
  refine hc.out.mono ?_
  rintro e w1 ⟨rfl, hb1⟩
  go_wp2
  go_ret
  exact ⟨rfl, hb1⟩

/-- what SignBitsOf is -/
def bitsB (s : ByteArray) : Nat := if s.size ≤ 200 then (byte0 (hashB 7 [s] 16)).toNat else 0
theorem bitsB_lt (s : ByteArray) : bitsB s < 256 := by
  unfold bitsB
  split
  · exact UInt8.toNat_lt _
  · omega
theorem tagOk_one (k : Int) (s : ByteArray) (hk : 1 ≤ k ∧ k ≤ 8) : tagOk k [s] = decide (s.size ≤ 200) := by
  unfold tagOk
  rw [decide_eq_true ⟨hk, by simp⟩]
  simp

theorem SignBitsOf_any (s : ByteArray) (w : World) (hT : Tb w) :
    Calls Tryd.prog 23 #[.string s] w fun e w' => e = .returned (.int .i64 (bitsB s : Int)) ∧ Below w.heap.size w w' := by
  have hc := taggedHash_lit 7 [s] 1 #[.string s] w _ rfl rfl (by omega) rfl hT
  have ht := tagOk_one 7 s (by omega)
  unfold bitsB
  by_cases h : s.size ≤ 200
  · rw [if_pos h]
    rw [decide_eq_true h] at ht
    have hz := hashB_size ht
    generalize hashB 7 [s] 16 = D at *
    have hh := run_byte0 D (by omega)
    have hne : (D.toList == []) = false := by
      rw [beq_eq_false_iff_ne]
      intro he
      have : D.toList.length = 0 := by rw [he]; rfl
      rw [ByteArray.toList_eq, Array.length_toList] at this
      have h2 : D.data.size = D.size := rfl
      omega
    generalize byte0 D = b at *
    have hb : b.toNat < 256 := b.toNat_lt
    clear hT ht
    go_enter Tryd.func23, Tryd.ntmps23
    go_wp2_with fail
    refine hc.out.mono ?_
    rintro e w1 ⟨rfl, hb1⟩
    clear hc
    go_wp2
    go_ret
    exact ⟨rfl, hb1⟩
  · rw [if_neg h]
    rw [decide_eq_false h] at ht
    have hz : hashB 7 [s] 16 = ⟨#[]⟩ := by unfold hashB; rw [ht]; rfl
    rw [hz] at hc
    clear hT ht hz
    go_enter Tryd.func23, Tryd.ntmps23
    go_wp2_with fail
    refine hc.out.mono ?_
    rintro e w1 ⟨rfl, hb1⟩
    clear hc
    go_wp2
    go_ret
    exact ⟨rfl, hb1⟩
theorem sSignBitsOf_any (s : ByteArray) (w : World) :
    Calls Tryd.prog 15 #[.string s] w fun e w' => e = .returned (.int .i64 (bitsB s : Int)) ∧ Below w.heap.size w w' := by
  have hc := sTagHash_lit 7 [s] 1 #[.string s] w _ rfl rfl (by omega) rfl
  have ht := tagOk_one 7 s (by omega)
  unfold bitsB
  by_cases h : s.size ≤ 200
  · rw [if_pos h]
    rw [decide_eq_true h] at ht
    have hz := hashB_size ht
    generalize hashB 7 [s] 16 = D at *
    have hh := run_byte0 D (by omega)
    have hne : (D.toList == []) = false := by
      rw [beq_eq_false_iff_ne]
      intro he
      have : D.toList.length = 0 := by rw [he]; rfl
      rw [ByteArray.toList_eq, Array.length_toList] at this
      have h2 : D.data.size = D.size := rfl
      omega
    generalize byte0 D = b at *
    have hb : b.toNat < 256 := b.toNat_lt
    clear ht
    go_enter Tryd.func15, Tryd.ntmps15
    go_wp2_with fail
    refine hc.out.mono ?_
    rintro e w1 ⟨rfl, hb1⟩
    clear hc
    go_wp2
    go_ret
    exact ⟨rfl, hb1⟩
  · rw [if_neg h]
    rw [decide_eq_false h] at ht
    have hz : hashB 7 [s] 16 = ⟨#[]⟩ := by unfold hashB; rw [ht]; rfl
    rw [hz] at hc
    clear ht hz
    go_enter Tryd.func15, Tryd.ntmps15
    go_wp2_with fail
    refine hc.out.mono ?_
    rintro e w1 ⟨rfl, hb1⟩
    clear hc
    go_wp2
    go_ret
    exact ⟨rfl, hb1⟩

theorem inPool_any (x : Int) (w : World) : Calls Tryd.prog 32 #[.int .i64 x] w fun e w' => e = .returned (.bool (decide (0 ≤ x ∧ x ≤ 15))) ∧ w' = w := by
  by_cases h1 : x < 0
  · have hd : decide (0 ≤ x ∧ x ≤ 15) = false := by simp; omega
    rw [hd]
    go_enter Tryd.func32, Tryd.ntmps32
    go_wp2
    go_ret
    exact ⟨rfl, rfl⟩
  · by_cases h2 : x < 16
    · have hd : decide (0 ≤ x ∧ x ≤ 15) = true := by simp; omega
      rw [hd]
      go_enter Tryd.func32, Tryd.ntmps32
      go_wp2
      go_ret
      exact ⟨rfl, rfl⟩
    · have hd : decide (0 ≤ x ∧ x ≤ 15) = false := by simp; omega
      rw [hd]
      go_enter Tryd.func32, Tryd.ntmps32
      go_wp2
      go_ret
      exact ⟨rfl, rfl⟩

/-- three bytes -/
def trip (a b c : Nat) : ByteArray := ⟨[UInt8.ofNat a, UInt8.ofNat b, UInt8.ofNat c].toArray⟩
theorem trip_size (a b c : Nat) : (trip a b c).size = 3 := rfl
theorem three_s (w : World) (a b c : Nat) (ha : a ≤ 255) (hb : b ≤ 255) (hc : c ≤ 255) : (convert 51 9 (.slice (some ⟨w.heap.size, 0, none⟩) 3 3)).run Tryd.prog (w.alloc (.cells #[.int .u8 (a : Int), .int .u8 (b : Int), .int .u8 (c : Int)] 5)) = .ok (.string (trip a b c)) (w.alloc (.cells #[.int .u8 (a : Int), .int .u8 (b : Int), .int .u8 (c : Int)] 5)) := by
  refine run_convert_bytes_back _ 51 9 5 ⟨w.heap.size, 0, none⟩ 3 [UInt8.ofNat a, UInt8.ofNat b, UInt8.ofNat c] Tryd.underlying51 Tryd.underlying5 Tryd.underlying9 ?_
  intro j hj
  have h0 : j = 0 ∨ j = 1 ∨ j = 2 := by simp at hj; omega
  rcases h0 with rfl | rfl | rfl
  · simp [Addr.add]; omega
  · simp [Addr.add]; omega
  · simp [Addr.add]; omega

/-- what SecretOf is at a place, a bit and a val -/
def secB (s : ByteArray) (a b c : Nat) : ByteArray := hashB 5 [s, trip a b c] 16
/-- what SecretOf is at any argument -/
def secA (s : ByteArray) (a b c : Int) : ByteArray := if s.size ≤ 100 ∧ (0 ≤ a ∧ a ≤ 15) ∧ (0 ≤ b ∧ b ≤ 7) ∧ (0 ≤ c ∧ c ≤ 1) then secB s a.toNat b.toNat c.toNat else ⟨#[]⟩
theorem secB_size (s : ByteArray) (a b c : Nat) (h : s.size ≤ 100) : (secB s a b c).size = 16 := by
  unfold secB
  refine hashB_size ?_
  refine tagOk_yes _ _ ⟨by omega, by simp⟩ ?_
  intro m hm
  have h0 : m = 0 ∨ m = 1 := by simp at hm; omega
  rcases h0 with rfl | rfl
  · show s.size ≤ 200
    omega
  · show (trip a b c).size ≤ 200
    rw [trip_size]
    omega
theorem secA_no {s : ByteArray} {a b c : Int} (h : ¬ (s.size ≤ 100 ∧ (0 ≤ a ∧ a ≤ 15) ∧ (0 ≤ b ∧ b ≤ 7) ∧ (0 ≤ c ∧ c ≤ 1))) : secA s a b c = ⟨#[]⟩ := by
  unfold secA
  rw [if_neg h]
theorem secA_yes {s : ByteArray} {a b c : Nat} (h1 : s.size ≤ 100) (h2 : a ≤ 15) (h3 : b ≤ 7) (h4 : c ≤ 1) : secA s a b c = secB s a b c := by
  unfold secA
  rw [if_pos ⟨h1, by omega, by omega, by omega⟩]
  simp

end Go.Proofs.YtkgibgadngeddabDoor
