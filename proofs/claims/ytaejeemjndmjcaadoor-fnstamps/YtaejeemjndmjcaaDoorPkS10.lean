/-
  Texts laid together: Hash, Lit, Tbl, Sec.
-/
import Derived.Test.YtaejeemjndmjcaaDoorPkS5
import Derived.Test.YtaejeemjndmjcaaDoorPkS9
import Derived.Test.YtaejeemjndmjcaaDoorPkS2
/-
  What TagHash and IndexOf answer, the program's and the specification's.
-/
namespace Go.Proofs.YtaejeemjndmjcaaDoor
open Go.RowKit Go.BigFrame
set_option linter.unusedVariables false

/-- CutDigest -/
def cutH (t : ByteArray) (x : Int) : ByteArray := if 1 ≤ x ∧ x ≤ 32 then cutB (digB t) x.toNat else ⟨#[]⟩
theorem CutDigest_any (t : ByteArray) (x : Int) (w : World) (ht : t.size ≤ 1048576) (hK : TabK w) (hF : TabF w) :
    Calls Tryd.prog 97 #[.string t, .int .i64 x] w fun e w' => e = .returned (.string (cutH t x)) ∧ Below w.heap.size w w' := by
  unfold cutH
  by_cases h : 1 ≤ x ∧ x ≤ 32
  · rw [if_pos h]
    obtain ⟨k, rfl⟩ := Int.eq_ofNat_of_zero_le (show 0 ≤ x by omega)
    exact CutDigest_yes t k w ht (by omega) (by omega) hK hF
  · rw [if_neg h]
    exact CutDigest_no t x w (by omega)
theorem sCutDigest_any (t : ByteArray) (x : Int) (w : World) (ht : t.size ≤ 1048576) :
    Calls Tryd.prog 42 #[.string t, .int .i64 x] w fun e w' => e = .returned (.string (cutH t x)) ∧ Below w.heap.size w w' := by
  unfold cutH
  by_cases h : 1 ≤ x ∧ x ≤ 32
  · rw [if_pos h]
    obtain ⟨k, rfl⟩ := Int.eq_ofNat_of_zero_le (show 0 ≤ x by omega)
    exact sCutDigest_yes t k w ht (by omega) (by omega)
  · rw [if_neg h]
    exact sCutDigest_no t x w (by omega)

theorem tagB_size (k : Int) (l : List ByteArray) : (tagB k l).size ≤ 12601 := by
  cases h : tagOk k l with
  | false =>
    rw [tagB_no h]
    show 0 ≤ 12601
    omega
  | true =>
    unfold tagB
    rw [h]
    unfold tagOk at h
    rw [Bool.and_eq_true, decide_eq_true_eq, List.all_eq_true] at h
    obtain ⟨⟨_, h2⟩, h3⟩ := h
    have h4 := tagL_len k.toNat l l.length (Nat.le_refl _) (fun j hj _ => by simpa using h3 l[j] (List.getElem_mem _))
    rw [List.take_length] at h4
    simp only [if_true, ByteArray.size, List.size_toArray]
    omega

/-- what TagHash is -/
def hashB (k : Int) (l : List ByteArray) (x : Int) : ByteArray := if tagOk k l then cutH (tagB k l) x else ⟨#[]⟩

theorem taggedHash_any (x k : Int) (v : Value) (g o : Nat) (l : List ByteArray) (w : World) (hv : SS w v g o l) (hK : TabK w) (hF : TabF w) :
    Calls Tryd.prog 81 #[.int .i64 x, .int .i64 k, v] w fun e w' => e = .returned (.string (hashB k l x)) ∧ Below w.heap.size w w' := by
  have hc := tagged_any k v g o l w hv
  have hz := tagB_size k l
  have hkp := hK.pos
  have hfp := hF.pos
  obtain ⟨a, cap, rfl, _⟩ := hv
  unfold hashB
  generalize tagB k l = T at *
  cases hR : tagOk k l with
  | false =>
    rw [hR] at hc
    simp only [Bool.false_eq_true, if_false]
    clear hK hF
    go_enter Tryd.func81, Tryd.ntmps81
    go_wp2_with fail
    refine hc.mono ?_
    rintro e w1 ⟨rfl, hb1⟩
    go_wp2
    go_ret
    exact ⟨rfl, hb1⟩
  | true =>
    rw [hR] at hc
    simp only [if_true]
    have HC : Hid (∀ w1, Below w.heap.size w w1 → Calls Tryd.prog 97 #[.string T, .int .i64 x] w1 fun e w' => e = .returned (.string (cutH T x)) ∧ Below w1.heap.size w1 w') := fun w1 hb => CutDigest_any T x w1 (by omega) (hK.later hb hkp) (hF.later hb hfp)
    generalize cutH T x = D at *
    clear hK hF
    go_enter Tryd.func81, Tryd.ntmps81
    go_wp2_with fail
    refine hc.mono ?_
    rintro e w1 ⟨rfl, hb1⟩
    clear hc
    go_wp2_with fail
    refine (HC.out _ hb1).mono ?_
    rintro e w2 ⟨rfl, hb2⟩
    go_wp2
    go_ret
    exact ⟨rfl, hb1.trans (hb2.mono hb1.size)⟩

theorem sTagHash_any (k : Int) (v : Value) (x : Int) (g o : Nat) (l : List ByteArray) (w : World) (hv : SS w v g o l) :
    Calls Tryd.prog 38 #[.int .i64 k, v, .int .i64 x] w fun e w' => e = .returned (.string (hashB k l x)) ∧ Below w.heap.size w w' := by
  have hc := sTagText_any k v g o l w hv
  have hz := tagB_size k l
  obtain ⟨a, cap, rfl, _⟩ := hv
  unfold hashB
  generalize tagB k l = T at *
  cases hR : tagOk k l with
  | false =>
    rw [hR] at hc
    simp only [Bool.false_eq_true, if_false]
    go_enter Tryd.func38, Tryd.ntmps38
    go_wp2_with fail
    refine hc.mono ?_
    rintro e w1 ⟨rfl, hb1⟩
    go_wp2
    go_ret
    exact ⟨rfl, hb1⟩
  | true =>
    rw [hR] at hc
    simp only [if_true]
    have HC : Hid (∀ w1, Calls Tryd.prog 42 #[.string T, .int .i64 x] w1 fun e w' => e = .returned (.string (cutH T x)) ∧ Below w1.heap.size w1 w') := fun w1 => sCutDigest_any T x w1 (by omega)
    generalize cutH T x = D at *
    go_enter Tryd.func38, Tryd.ntmps38
    go_wp2_with fail
    refine hc.mono ?_
    rintro e w1 ⟨rfl, hb1⟩
    clear hc
    go_wp2_with fail
    refine (HC.out _).mono ?_
    rintro e w2 ⟨rfl, hb2⟩
    go_wp2
    go_ret
    exact ⟨rfl, hb1.trans (hb2.mono hb1.size)⟩

/-- the first byte of a text -/
def byte0 (d : ByteArray) : UInt8 := d.data.toList.getD 0 0
theorem run_byte0 (d : ByteArray) (h : 0 < d.size) (w : World) : (Instr.index 9 (.string d) (.int .i64 0)).run Tryd.prog w = .ok (.int .u8 ((byte0 d).toNat : Int)) w := by
  rw [run_index_string (P := Tryd.prog) (w := w) 9 d .i64 _ Tryd.underlying9, dif_pos ⟨by omega, by omega⟩]
  have e : byte0 d = d[0] := by
    unfold byte0
    rw [ByteArray.getElem_eq_getElem_data, List.getD_eq_getElem?_getD, List.getElem?_eq_getElem (by simpa using h)]
    simp
  rw [e]
  rfl

end Go.Proofs.YtaejeemjndmjcaaDoor
/-
  Rows of texts that are written out.
-/
namespace Go.Proofs.YtaejeemjndmjcaaDoor
open Go.RowKit
set_option linter.unusedVariables false

/-- texts that are written out -/
theorem ss_lits (w : World) (l : List ByteArray) (cs : Array Value) (n : Nat) (hn : l.length = n) (hl : n ≤ 1100000) (hc : cs = (svs l).toArray) : SS (w.alloc (.cells cs 9)) (.slice (some ⟨w.heap.size, 0, none⟩) n n) w.heap.size 0 l := by
  subst hc
  subst hn
  refine ⟨_, _, rfl, hl, fun _ => rfl, fun j hj => ?_⟩
  rw [Nat.zero_add, World.cell?_alloc_at _ _ _ _ rfl]
  simp [svs, List.getElem?_eq_getElem hj]

end Go.Proofs.YtaejeemjndmjcaaDoor
/-
  Tagged hashes of texts that are written out, at any width.
-/
namespace Go.Proofs.YtaejeemjndmjcaaDoor
open Go.RowKit Go.BigFrame
set_option linter.unusedVariables false

/-- the two tables lie as the program's text lays them -/
def Tb (w : World) : Prop := TabK w ∧ TabF w
theorem Tb.later {w w' : World} (h : Tb w) (hb : Below w.heap.size w w') : Tb w' := ⟨h.1.later hb h.1.pos, h.2.later hb h.2.pos⟩
theorem Tb.alloc {w : World} (h : Tb w) (o : Obj) : Tb (w.alloc o) := h.later ((Below.refl _ _).alloc (Nat.le_refl _) _)

theorem taggedHash_w (x k : Int) (l : List ByteArray) (n : Nat) (cs : Array Value) (w : World) (g : Nat) (hg : w.heap.size = g) (hn : l.length = n) (hl : n ≤ 60) (hc : cs = (svs l).toArray) (hT : Tb w) :
    Hid (Calls Tryd.prog 81 #[.int .i64 x, .int .i64 k, .slice (some ⟨g, 0, none⟩) n n] (w.alloc (.cells cs 9)) fun e w' => e = .returned (.string (hashB k l x)) ∧ Below w.heap.size w w') := by
  subst hg
  have hT' := hT.alloc (.cells cs 9)
  exact (taggedHash_any x k _ w.heap.size 0 l (w.alloc (.cells cs 9)) (ss_lits w l cs n hn (by omega) hc) hT'.1 hT'.2).mono fun e w' ⟨he, hb⟩ => ⟨he, ((Below.refl _ _).alloc (Nat.le_refl _) _).trans (hb.mono (by simp))⟩
theorem taggedHash_wd (x k : Int) (l : List ByteArray) (n : Nat) (cs : Array Value) (w : World) (g : Nat) (hg : w.heap.size = g) (hn : l.length = n) (hl : n ≤ 60) (hc : cs = (svs l).toArray) (hT : Tb w) :
    Hid (Calls Tryd.prog 81 #[.int .i64 x, .int .i64 k, .slice (some ⟨g, 0, none⟩) n n] (w.alloc (.cells cs 9)).drew fun e w' => e = .returned (.string (hashB k l x)) ∧ Below w.heap.size w w') := by
  have h := taggedHash_w x k l n cs w.drew g hg hn hl hc hT
  exact h.out.mono fun e w' ⟨he, hb⟩ => ⟨he, (Below.refl _ _).drew.trans hb⟩
theorem sTagHash_w (x k : Int) (l : List ByteArray) (n : Nat) (cs : Array Value) (w : World) (g : Nat) (hg : w.heap.size = g) (hn : l.length = n) (hl : n ≤ 60) (hc : cs = (svs l).toArray) :
    Hid (Calls Tryd.prog 38 #[.int .i64 k, .slice (some ⟨g, 0, none⟩) n n, .int .i64 x] (w.alloc (.cells cs 9)) fun e w' => e = .returned (.string (hashB k l x)) ∧ Below w.heap.size w w') := by
  subst hg
  exact (sTagHash_any k _ x w.heap.size 0 l (w.alloc (.cells cs 9)) (ss_lits w l cs n hn (by omega) hc)).mono fun e w' ⟨he, hb⟩ => ⟨he, ((Below.refl _ _).alloc (Nat.le_refl _) _).trans (hb.mono (by simp))⟩
theorem sTagHash_wd (x k : Int) (l : List ByteArray) (n : Nat) (cs : Array Value) (w : World) (g : Nat) (hg : w.heap.size = g) (hn : l.length = n) (hl : n ≤ 60) (hc : cs = (svs l).toArray) :
    Hid (Calls Tryd.prog 38 #[.int .i64 k, .slice (some ⟨g, 0, none⟩) n n, .int .i64 x] (w.alloc (.cells cs 9)).drew fun e w' => e = .returned (.string (hashB k l x)) ∧ Below w.heap.size w w') := by
  have h := sTagHash_w x k l n cs w.drew g hg hn hl hc
  exact h.out.mono fun e w' ⟨he, hb⟩ => ⟨he, (Below.refl _ _).drew.trans hb⟩

end Go.Proofs.YtaejeemjndmjcaaDoor
/-
  What SecretOf, LockOf and SignBitsOf answer, the program's and the specification's.
-/
namespace Go.Proofs.YtaejeemjndmjcaaDoor
open Go.RowKit Go.BigFrame
set_option linter.unusedVariables false

theorem hashB_size {k : Int} {l : List ByteArray} (h : tagOk k l = true) : (hashB k l 16).size = 16 := by
  unfold hashB cutH
  rw [if_pos h, if_pos (by omega)]
  unfold cutB
  have := digB_size (tagB k l)
  simp [ByteArray.size_extract]
  omega
theorem hashB_le (k : Int) (l : List ByteArray) : (hashB k l 16).size ≤ 16 := by
  cases h : tagOk k l with
  | true => rw [hashB_size h]; omega
  | false =>
    unfold hashB
    rw [h]
    show 0 ≤ 16
    omega

theorem taggedHash_lit (k : Int) (l : List ByteArray) (n : Nat) (cs : Array Value) (w : World) (g : Nat) (hg : w.heap.size = g) (hn : l.length = n) (hl : n ≤ 60) (hc : cs = (svs l).toArray) (hT : Tb w) :
    Hid (Calls Tryd.prog 81 #[.int .i64 16, .int .i64 k, .slice (some ⟨g, 0, none⟩) n n] (w.alloc (.cells cs 9)) fun e w' => e = .returned (.string (hashB k l 16)) ∧ Below w.heap.size w w') := by
  subst hg
  have hT' := hT.alloc (.cells cs 9)
  exact (taggedHash_any 16 k _ w.heap.size 0 l (w.alloc (.cells cs 9)) (ss_lits w l cs n hn (by omega) hc) hT'.1 hT'.2).mono fun e w' ⟨he, hb⟩ => ⟨he, ((Below.refl _ _).alloc (Nat.le_refl _) _).trans (hb.mono (by simp))⟩
theorem sTagHash_lit (k : Int) (l : List ByteArray) (n : Nat) (cs : Array Value) (w : World) (g : Nat) (hg : w.heap.size = g) (hn : l.length = n) (hl : n ≤ 60) (hc : cs = (svs l).toArray) :
    Hid (Calls Tryd.prog 38 #[.int .i64 k, .slice (some ⟨g, 0, none⟩) n n, .int .i64 16] (w.alloc (.cells cs 9)) fun e w' => e = .returned (.string (hashB k l 16)) ∧ Below w.heap.size w w') := by
  subst hg
  exact (sTagHash_any k _ 16 w.heap.size 0 l (w.alloc (.cells cs 9)) (ss_lits w l cs n hn (by omega) hc)).mono fun e w' ⟨he, hb⟩ => ⟨he, ((Below.refl _ _).alloc (Nat.le_refl _) _).trans (hb.mono (by simp))⟩

/-- what LockOf is -/
def lockB (s : ByteArray) : ByteArray := hashB 6 [s] 16

theorem LockOf_any (s : ByteArray) (w : World) (hT : Tb w) :
    Calls Tryd.prog 89 #[.string s] w fun e w' => e = .returned (.string (lockB s)) ∧ Below w.heap.size w w' := by
  have hc := taggedHash_lit 6 [s] 1 #[.string s] w _ rfl rfl (by omega) rfl hT
  unfold lockB
  generalize hashB 6 [s] 16 = T at *
  clear hT
  go_enter Tryd.func89, Tryd.ntmps89
  go_wp2_with fail
  refine hc.out.mono ?_
  rintro e w1 ⟨rfl, hb1⟩
  go_wp2
  go_ret
  exact ⟨rfl, hb1⟩
theorem sLockOf_any (s : ByteArray) (w : World) :
    Calls Tryd.prog 46 #[.string s] w fun e w' => e = .returned (.string (lockB s)) ∧ Below w.heap.size w w' := by
  have hc := sTagHash_lit 6 [s] 1 #[.string s] w _ rfl rfl (by omega) rfl
  unfold lockB
  generalize hashB 6 [s] 16 = T at *
  go_enter Tryd.func46, Tryd.ntmps46
  go_wp2_with fail
  refine hc.out.mono ?_
  rintro e w1 ⟨rfl, hb1⟩
  go_wp2
  go_ret
  exact ⟨rfl, hb1⟩

/-- what SignBitsOf is -/
def bitsB (s : ByteArray) : Nat := if s.size ≤ 200 then (byte0 (hashB 7 [s] 16)).toNat else 0
theorem bitsB_lt (s : ByteArray) : bitsB s < 256 := by
  unfold bitsB
  split
  · exact UInt8.toNat_lt _
  · omega
theorem tagOk_one (k : Int) (s : ByteArray) (hk : 1 ≤ k ∧ k ≤ 8) : tagOk k [s] = decide (s.size ≤ 200) := by
  unfold tagOk
  rw [decide_eq_true ⟨hk, by simp⟩]
  simp

theorem SignBitsOf_any (s : ByteArray) (w : World) (hT : Tb w) :
    Calls Tryd.prog 85 #[.string s] w fun e w' => e = .returned (.int .i64 (bitsB s : Int)) ∧ Below w.heap.size w w' := by
  have hc := taggedHash_lit 7 [s] 1 #[.string s] w _ rfl rfl (by omega) rfl hT
  have ht := tagOk_one 7 s (by omega)
  unfold bitsB
  by_cases h : s.size ≤ 200
  · rw [if_pos h]
    rw [decide_eq_true h] at ht
    have hz := hashB_size ht
    generalize hashB 7 [s] 16 = D at *
    have hh := run_byte0 D (by omega)
    have hne : (D.toList == []) = false := by
      rw [beq_eq_false_iff_ne]
      intro he
      have : D.toList.length = 0 := by rw [he]; rfl
      rw [ByteArray.toList_eq, Array.length_toList] at this
      have h2 : D.data.size = D.size := rfl
      omega
    generalize byte0 D = b at *
    have hb : b.toNat < 256 := b.toNat_lt
    clear hT ht
    go_enter Tryd.func85, Tryd.ntmps85
    go_wp2_with fail
    refine hc.out.mono ?_
    rintro e w1 ⟨rfl, hb1⟩
    clear hc
    go_wp2
    go_ret
    exact ⟨rfl, hb1⟩
  · rw [if_neg h]
    rw [decide_eq_false h] at ht
    have hz : hashB 7 [s] 16 = ⟨#[]⟩ := by unfold hashB; rw [ht]; rfl
    rw [hz] at hc
    clear hT ht hz
    go_enter Tryd.func85, Tryd.ntmps85
    go_wp2_with fail
    refine hc.out.mono ?_
    rintro e w1 ⟨rfl, hb1⟩
    clear hc
    go_wp2
    go_ret
    exact ⟨rfl, hb1⟩
theorem sSignBitsOf_any (s : ByteArray) (w : World) :
    Calls Tryd.prog 13 #[.string s] w fun e w' => e = .returned (.int .i64 (bitsB s : Int)) ∧ Below w.heap.size w w' := by
  have hc := sTagHash_lit 7 [s] 1 #[.string s] w _ rfl rfl (by omega) rfl
  have ht := tagOk_one 7 s (by omega)
  unfold bitsB
  by_cases h : s.size ≤ 200
  · rw [if_pos h]
    rw [decide_eq_true h] at ht
    have hz := hashB_size ht
    generalize hashB 7 [s] 16 = D at *
    have hh := run_byte0 D (by omega)
    have hne : (D.toList == []) = false := by
      rw [beq_eq_false_iff_ne]
      intro he
      have : D.toList.length = 0 := by rw [he]; rfl
      rw [ByteArray.toList_eq, Array.length_toList] at this
      have h2 : D.data.size = D.size := rfl
      omega
    generalize byte0 D = b at *
    have hb : b.toNat < 256 := b.toNat_lt
    clear ht
    go_enter Tryd.func13, Tryd.ntmps13
    go_wp2_with fail
    refine hc.out.mono ?_
    rintro e w1 ⟨rfl, hb1⟩
    clear hc
    go_wp2
    go_ret
    exact ⟨rfl, hb1⟩
  · rw [if_neg h]
    rw [decide_eq_false h] at ht
    have hz : hashB 7 [s] 16 = ⟨#[]⟩ := by unfold hashB; rw [ht]; rfl
    rw [hz] at hc
    clear ht hz
    go_enter Tryd.func13, Tryd.ntmps13
    go_wp2_with fail
    refine hc.out.mono ?_
    rintro e w1 ⟨rfl, hb1⟩
    clear hc
    go_wp2
    go_ret
    exact ⟨rfl, hb1⟩

theorem inPool_any (x : Int) (w : World) : Calls Tryd.prog 70 #[.int .i64 x] w fun e w' => e = .returned (.bool (decide (0 ≤ x ∧ x ≤ 15))) ∧ w' = w := by
  by_cases h1 : x < 0
  · have hd : decide (0 ≤ x ∧ x ≤ 15) = false := by simp; omega
    rw [hd]
    go_enter Tryd.func70, Tryd.ntmps70
    go_wp2
    go_ret
    exact ⟨rfl, rfl⟩
  · by_cases h2 : x < 16
    · have hd : decide (0 ≤ x ∧ x ≤ 15) = true := by simp; omega
      rw [hd]
      go_enter Tryd.func70, Tryd.ntmps70
      go_wp2
      go_ret
      exact ⟨rfl, rfl⟩
    · have hd : decide (0 ≤ x ∧ x ≤ 15) = false := by simp; omega
      rw [hd]
      go_enter Tryd.func70, Tryd.ntmps70
      go_wp2
      go_ret
      exact ⟨rfl, rfl⟩

/-- three bytes -/
def trip (a b c : Nat) : ByteArray := ⟨[UInt8.ofNat a, UInt8.ofNat b, UInt8.ofNat c].toArray⟩
theorem trip_size (a b c : Nat) : (trip a b c).size = 3 := rfl
theorem three_s (w : World) (a b c : Nat) (ha : a ≤ 255) (hb : b ≤ 255) (hc : c ≤ 255) : (convert 22 9 (.slice (some ⟨w.heap.size, 0, none⟩) 3 3)).run Tryd.prog (w.alloc (.cells #[.int .u8 (a : Int), .int .u8 (b : Int), .int .u8 (c : Int)] 5)) = .ok (.string (trip a b c)) (w.alloc (.cells #[.int .u8 (a : Int), .int .u8 (b : Int), .int .u8 (c : Int)] 5)) := by
  refine run_convert_bytes_back _ 22 9 5 ⟨w.heap.size, 0, none⟩ 3 [UInt8.ofNat a, UInt8.ofNat b, UInt8.ofNat c] Tryd.underlying22 Tryd.underlying5 Tryd.underlying9 ?_
  intro j hj
  have h0 : j = 0 ∨ j = 1 ∨ j = 2 := by simp at hj; omega
  rcases h0 with rfl | rfl | rfl
  · simp [Addr.add]; omega
  · simp [Addr.add]; omega
  · simp [Addr.add]; omega

/-- what SecretOf is at a place, a bit and a val -/
def secB (s : ByteArray) (a b c : Nat) : ByteArray := hashB 5 [s, trip a b c] 16
/-- what SecretOf is at any argument -/
def secA (s : ByteArray) (a b c : Int) : ByteArray := if s.size ≤ 100 ∧ (0 ≤ a ∧ a ≤ 15) ∧ (0 ≤ b ∧ b ≤ 7) ∧ (0 ≤ c ∧ c ≤ 1) then secB s a.toNat b.toNat c.toNat else ⟨#[]⟩
theorem secB_size (s : ByteArray) (a b c : Nat) (h : s.size ≤ 100) : (secB s a b c).size = 16 := by
  unfold secB
  refine hashB_size ?_
  refine tagOk_yes _ _ ⟨by omega, by simp⟩ ?_
  intro m hm
  have h0 : m = 0 ∨ m = 1 := by simp at hm; omega
  rcases h0 with rfl | rfl
  · show s.size ≤ 200
    omega
  · show (trip a b c).size ≤ 200
    rw [trip_size]
    omega
theorem secA_no {s : ByteArray} {a b c : Int} (h : ¬ (s.size ≤ 100 ∧ (0 ≤ a ∧ a ≤ 15) ∧ (0 ≤ b ∧ b ≤ 7) ∧ (0 ≤ c ∧ c ≤ 1))) : secA s a b c = ⟨#[]⟩ := by
  unfold secA
  rw [if_neg h]
theorem secA_yes {s : ByteArray} {a b c : Nat} (h1 : s.size ≤ 100) (h2 : a ≤ 15) (h3 : b ≤ 7) (h4 : c ≤ 1) : secA s a b c = secB s a b c := by
  unfold secA
  rw [if_pos ⟨h1, by omega, by omega, by omega⟩]
  simp

set_option maxRecDepth 100000 in
theorem SecretOf_yes (s : ByteArray) (a b c : Nat) (w : World) (h1 : s.size ≤ 100) (h2 : a ≤ 15) (h3 : b ≤ 7) (h4 : c ≤ 1) (hT : Tb w) :
    Calls Tryd.prog 88 #[.string s, .int .i64 a, .int .i64 b, .int .i64 c] w fun e w' => e = .returned (.string (secB s a b c)) ∧ Below w.heap.size w w' := by
  have hcv := three_s w a b c (by omega) (by omega) (by omega)
  have hc := taggedHash_lit 5 [s, trip a b c] 2 #[.string s, .string (trip a b c)] (w.alloc (.cells #[.int .u8 (a : Int), .int .u8 (b : Int), .int .u8 (c : Int)] 5)) (w.heap.size + 1) (by simp) rfl (by omega) rfl (hT.alloc _)
  have hd : decide ((0 : Int) ≤ (a : Int) ∧ (a : Int) ≤ 15) = true := by simp; omega
  unfold secB
  generalize hashB 5 [s, trip a b c] 16 = T at *
  generalize trip a b c = X at *
  clear hT
  go_enter Tryd.func88, Tryd.ntmps88
  go_wp2_with fail
  refine (inPool_any _ _).mono ?_
  rintro e w1 ⟨rfl, rfl⟩
  rw [hd]
  go_wp2_with fail
  refine hc.out.mono ?_
  rintro e w2 ⟨rfl, hb2⟩
  go_wp2
  go_ret
  exact ⟨rfl, ((Below.refl _ _).alloc (Nat.le_refl _) _).trans (hb2.mono (by simp))⟩
set_option maxRecDepth 100000 in
theorem sSecretOf_yes (s : ByteArray) (a b c : Nat) (w : World) (h1 : s.size ≤ 100) (h2 : a ≤ 15) (h3 : b ≤ 7) (h4 : c ≤ 1) :
    Calls Tryd.prog 80 #[.string s, .int .i64 a, .int .i64 b, .int .i64 c] w fun e w' => e = .returned (.string (secB s a b c)) ∧ Below w.heap.size w w' := by
  have hcv := three_s w a b c (by omega) (by omega) (by omega)
  have hc := sTagHash_lit 5 [s, trip a b c] 2 #[.string s, .string (trip a b c)] (w.alloc (.cells #[.int .u8 (a : Int), .int .u8 (b : Int), .int .u8 (c : Int)] 5)) (w.heap.size + 1) (by simp) rfl (by omega) rfl
  have hd : decide ((0 : Int) ≤ (a : Int) ∧ (a : Int) ≤ 15) = true := by simp; omega
  have hd2 : decide ((0 : Int) ≤ (b : Int) ∧ (b : Int) ≤ 7) = true := by simp; omega
  have hd3 : decide ((0 : Int) ≤ (c : Int) ∧ (c : Int) ≤ 1) = true := by simp; omega
  unfold secB
  generalize hashB 5 [s, trip a b c] 16 = T at *
  generalize trip a b c = X at *
  go_enter Tryd.func80, Tryd.ntmps80
  go_wp2_with fail
  refine (l01In_any _ _ _ _).mono ?_
  rintro e w1 ⟨rfl, rfl⟩
  rw [hd]
  go_wp2_with fail
  refine (l01In_any _ _ _ _).mono ?_
  rintro e w1 ⟨rfl, rfl⟩
  rw [hd2]
  go_wp2_with fail
  refine (l01In_any _ _ _ _).mono ?_
  rintro e w1 ⟨rfl, rfl⟩
  rw [hd3]
  go_wp2_with fail
  refine hc.out.mono ?_
  rintro e w2 ⟨rfl, hb2⟩
  go_wp2
  go_ret
  exact ⟨rfl, ((Below.refl _ _).alloc (Nat.le_refl _) _).trans (hb2.mono (by simp))⟩

theorem SecretOf_no (s : ByteArray) (a b c : Int) (w : World) (hs : s.size ≤ 1100000) (h : ¬ (s.size ≤ 100 ∧ (0 ≤ a ∧ a ≤ 15) ∧ (0 ≤ b ∧ b ≤ 7) ∧ (0 ≤ c ∧ c ≤ 1))) :
    Calls Tryd.prog 88 #[.string s, .int .i64 a, .int .i64 b, .int .i64 c] w fun e w' => e = .returned (.string ⟨#[]⟩) ∧ Below w.heap.size w w' := by
  by_cases h1 : 100 < s.size
  · clear h
    go_enter Tryd.func88, Tryd.ntmps88
    go_wp2
    go_ret
    exact ⟨rfl, Below.refl _ _⟩
  · by_cases h2 : 0 ≤ a ∧ a ≤ 15
    · have hd : decide ((0 : Int) ≤ a ∧ a ≤ 15) = true := decide_eq_true h2
      have h3 : b < 0 ∨ (0 ≤ b ∧ 8 ≤ b) ∨ (0 ≤ b ∧ b < 8 ∧ c < 0) ∨ (0 ≤ b ∧ b < 8 ∧ 0 ≤ c ∧ 1 < c) := by omega
      clear h h2
      rcases h3 with h3 | ⟨h3, h4⟩ | ⟨h3, h4, h5⟩ | ⟨h3, h4, h5, h6⟩
      all_goals
        go_enter Tryd.func88, Tryd.ntmps88
        go_wp2_with fail
        refine (inPool_any _ _).mono ?_
        rintro e w1 ⟨rfl, rfl⟩
        rw [hd]
        go_wp2
        go_ret
        exact ⟨rfl, Below.refl _ _⟩
    · have hd : decide ((0 : Int) ≤ a ∧ a ≤ 15) = false := decide_eq_false h2
      clear h h2
      go_enter Tryd.func88, Tryd.ntmps88
      go_wp2_with fail
      refine (inPool_any _ _).mono ?_
      rintro e w1 ⟨rfl, rfl⟩
      rw [hd]
      go_wp2
      go_ret
      exact ⟨rfl, Below.refl _ _⟩
theorem sSecretOf_no (s : ByteArray) (a b c : Int) (w : World) (hs : s.size ≤ 1100000) (h : ¬ (s.size ≤ 100 ∧ (0 ≤ a ∧ a ≤ 15) ∧ (0 ≤ b ∧ b ≤ 7) ∧ (0 ≤ c ∧ c ≤ 1))) :
    Calls Tryd.prog 80 #[.string s, .int .i64 a, .int .i64 b, .int .i64 c] w fun e w' => e = .returned (.string ⟨#[]⟩) ∧ Below w.heap.size w w' := by
  by_cases h1 : 100 < s.size
  · clear h
    go_enter Tryd.func80, Tryd.ntmps80
    go_wp2
    go_ret
    exact ⟨rfl, Below.refl _ _⟩
  · by_cases h2 : 0 ≤ a ∧ a ≤ 15
    · have hd : decide ((0 : Int) ≤ a ∧ a ≤ 15) = true := decide_eq_true h2
      by_cases h3 : 0 ≤ b ∧ b ≤ 7
      · have hd2 : decide ((0 : Int) ≤ b ∧ b ≤ 7) = true := decide_eq_true h3
        have hd3 : decide ((0 : Int) ≤ c ∧ c ≤ 1) = false := decide_eq_false (by omega)
        clear h h2 h3
        go_enter Tryd.func80, Tryd.ntmps80
        go_wp2_with fail
        refine (l01In_any _ _ _ _).mono ?_
        rintro e w1 ⟨rfl, rfl⟩
        rw [hd]
        go_wp2_with fail
        refine (l01In_any _ _ _ _).mono ?_
        rintro e w1 ⟨rfl, rfl⟩
        rw [hd2]
        go_wp2_with fail
        refine (l01In_any _ _ _ _).mono ?_
        rintro e w1 ⟨rfl, rfl⟩
        rw [hd3]
        go_wp2
        go_ret
        exact ⟨rfl, Below.refl _ _⟩
      · have hd2 : decide ((0 : Int) ≤ b ∧ b ≤ 7) = false := decide_eq_false h3
        clear h h2 h3
        go_enter Tryd.func80, Tryd.ntmps80
        go_wp2_with fail
        refine (l01In_any _ _ _ _).mono ?_
        rintro e w1 ⟨rfl, rfl⟩
        rw [hd]
        go_wp2_with fail
        refine (l01In_any _ _ _ _).mono ?_
        rintro e w1 ⟨rfl, rfl⟩
        rw [hd2]
        go_wp2
        go_ret
        exact ⟨rfl, Below.refl _ _⟩
    · have hd : decide ((0 : Int) ≤ a ∧ a ≤ 15) = false := decide_eq_false h2
      clear h h2
      go_enter Tryd.func80, Tryd.ntmps80
      go_wp2_with fail
      refine (l01In_any _ _ _ _).mono ?_
      rintro e w1 ⟨rfl, rfl⟩
      rw [hd]
      go_wp2
      go_ret
      exact ⟨rfl, Below.refl _ _⟩

theorem SecretOf_any (s : ByteArray) (a b c : Int) (w : World) (hs : s.size ≤ 1100000) (hT : Tb w) :
    Calls Tryd.prog 88 #[.string s, .int .i64 a, .int .i64 b, .int .i64 c] w fun e w' => e = .returned (.string (secA s a b c)) ∧ Below w.heap.size w w' := by
  by_cases h : s.size ≤ 100 ∧ (0 ≤ a ∧ a ≤ 15) ∧ (0 ≤ b ∧ b ≤ 7) ∧ (0 ≤ c ∧ c ≤ 1)
  · obtain ⟨h1, h2, h3, h4⟩ := h
    obtain ⟨a, rfl⟩ := Int.eq_ofNat_of_zero_le h2.1
    obtain ⟨b, rfl⟩ := Int.eq_ofNat_of_zero_le h3.1
    obtain ⟨c, rfl⟩ := Int.eq_ofNat_of_zero_le h4.1
    rw [secA_yes h1 (by omega) (by omega) (by omega)]
    exact SecretOf_yes s a b c w h1 (by omega) (by omega) (by omega) hT
  · rw [secA_no h]
    exact SecretOf_no s a b c w hs h
theorem sSecretOf_any (s : ByteArray) (a b c : Int) (w : World) (hs : s.size ≤ 1100000) :
    Calls Tryd.prog 80 #[.string s, .int .i64 a, .int .i64 b, .int .i64 c] w fun e w' => e = .returned (.string (secA s a b c)) ∧ Below w.heap.size w w' := by
  by_cases h : s.size ≤ 100 ∧ (0 ≤ a ∧ a ≤ 15) ∧ (0 ≤ b ∧ b ≤ 7) ∧ (0 ≤ c ∧ c ≤ 1)
  · obtain ⟨h1, h2, h3, h4⟩ := h
    obtain ⟨a, rfl⟩ := Int.eq_ofNat_of_zero_le h2.1
    obtain ⟨b, rfl⟩ := Int.eq_ofNat_of_zero_le h3.1
    obtain ⟨c, rfl⟩ := Int.eq_ofNat_of_zero_le h4.1
    rw [secA_yes h1 (by omega) (by omega) (by omega)]
    exact sSecretOf_yes s a b c w h1 (by omega) (by omega) (by omega)
  · rw [secA_no h]
    exact sSecretOf_no s a b c w hs h

end Go.Proofs.YtaejeemjndmjcaaDoor
