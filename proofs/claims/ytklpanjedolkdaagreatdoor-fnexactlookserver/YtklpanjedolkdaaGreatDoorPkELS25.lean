/-
  Texts laid together: Wid, Cut, Hash.
-/
import Derived.Test.YtklpanjedolkdaaGreatDoorPkELS0
import Derived.Test.YtklpanjedolkdaaGreatDoorPkELS24
import Derived.Test.YtklpanjedolkdaaGreatDoorPkELS19
/-
  Is a width right? The program's answer.
-/
namespace Go.Proofs.YtklpanjedolkdaaGreatDoor
open Go.RowKit Go.BigFrame
set_option linter.unusedVariables false

theorem widthOk_any (x : Int) (w : World) : Calls Tryz.prog 118 #[.int .i64 x] w fun e w' => e = .returned (.bool (decide (1 ≤ x ∧ x ≤ 32))) ∧ w' = w := by
  by_cases h1 : 1 ≤ x
  · by_cases h2 : x ≤ 32
    · go_enter Tryz.func118, Tryz.ntmps118
      go_wp2
      go_ret
      exact ⟨by simp [h1, h2], rfl⟩
    · go_enter Tryz.func118, Tryz.ntmps118
      go_wp2
      go_ret
      exact ⟨by simp [h2], rfl⟩
  · go_enter Tryz.func118, Tryz.ntmps118
    go_wp2
    go_ret
    exact ⟨by simp; omega, rfl⟩

end Go.Proofs.YtklpanjedolkdaaGreatDoor
/-
  What CutDigest and DigestHex answer, the program's and the specification's.
-/
namespace Go.Proofs.YtklpanjedolkdaaGreatDoor
open Go.RowKit Go.BigFrame
set_option linter.unusedVariables false

def cutB (d : ByteArray) (k : Nat) : ByteArray := d.extract 0 k
theorem run_head (d : ByteArray) (k : Nat) (h : k ≤ d.size) (w : World) :
    (Instr.slice 9 (.string d) none (some (.int .i64 (k : Int))) none).run Tryz.prog w = .ok (.string (cutB d k)) w := by
  rw [run_slice_string_to_if (P := Tryz.prog) (w := w) 9 d .i64 _ Tryz.underlying9, if_pos (by omega)]
  unfold cutB
  simp

theorem CutDigest_no (t : ByteArray) (x : Int) (w : World) (hx : x < 1 ∨ 32 < x) :
    Calls Tryz.prog 234 #[.string t, .int .i64 x] w fun e w' => e = .returned (.string ⟨#[]⟩) ∧ Below w.heap.size w w' := by
  have hd : decide ((1 : Int) ≤ x ∧ x ≤ 32) = false := by simp; omega
  go_enter Tryz.func234, Tryz.ntmps234
  go_wp2_with fail
  refine (widthOk_any _ _).mono ?_
  rintro e w' ⟨rfl, rfl⟩
  rw [hd]
  go_wp2
  go_ret
  exact ⟨rfl, Below.refl _ _⟩
theorem sCutDigest_no (t : ByteArray) (x : Int) (w : World) (hx : x < 1 ∨ 32 < x) :
    Calls Tryz.prog 217 #[.string t, .int .i64 x] w fun e w' => e = .returned (.string ⟨#[]⟩) ∧ Below w.heap.size w w' := by
  have hd : decide ((1 : Int) ≤ x ∧ x ≤ 32) = false := by simp; omega
  go_enter Tryz.func217, Tryz.ntmps217
  go_wp2_with fail
  refine (l01In_any _ _ _ _).mono ?_
  rintro e w' ⟨rfl, rfl⟩
  rw [hd]
  go_wp2
  go_ret
  exact ⟨rfl, Below.refl _ _⟩

theorem CutDigest_yes (t : ByteArray) (k : Nat) (w : World) (ht : t.size ≤ 1048576) (h1 : 1 ≤ k) (h2 : k ≤ 32) (hK : TabK w) (hF : TabF w) :
    Calls Tryz.prog 234 #[.string t, .int .i64 (k : Int)] w fun e w' => e = .returned (.string (cutB (digB t) k)) ∧ Below w.heap.size w w' := by
  have hz := digB_size t
  have hc := Digest_any t w ht hK hF
  clear hK hF
  generalize digB t = D at *
  have hh := run_head D k (by omega)
  have hd : decide ((1 : Int) ≤ (k : Int) ∧ (k : Int) ≤ 32) = true := by simp; omega
  go_enter Tryz.func234, Tryz.ntmps234
  go_wp2_with fail
  refine (widthOk_any _ _).mono ?_
  rintro e w0 ⟨rfl, rfl⟩
  rw [hd]
  go_wp2_with fail
  refine hc.mono ?_
  rintro e w1 ⟨rfl, hb1⟩
  clear hc
  go_wp2
  go_ret
  exact ⟨rfl, hb1⟩
theorem sCutDigest_yes (t : ByteArray) (k : Nat) (w : World) (ht : t.size ≤ 1048576) (h1 : 1 ≤ k) (h2 : k ≤ 32) :
    Calls Tryz.prog 217 #[.string t, .int .i64 (k : Int)] w fun e w' => e = .returned (.string (cutB (digB t) k)) ∧ Below w.heap.size w w' := by
  have hz := digB_size t
  have hc := sDigest_any t w ht
  generalize digB t = D at *
  have hh := run_head D k (by omega)
  have hd : decide ((1 : Int) ≤ (k : Int) ∧ (k : Int) ≤ 32) = true := by simp; omega
  go_enter Tryz.func217, Tryz.ntmps217
  go_wp2_with fail
  refine (l01In_any _ _ _ _).mono ?_
  rintro e w0 ⟨rfl, rfl⟩
  rw [hd]
  go_wp2_with fail
  refine hc.mono ?_
  rintro e w1 ⟨rfl, hb1⟩
  clear hc
  go_wp2
  go_ret
  exact ⟨rfl, hb1⟩

def hexB (d : ByteArray) : ByteArray := ⟨(hexK d d.size).toArray⟩
end Go.Proofs.YtklpanjedolkdaaGreatDoor
/-
  What TagHash and IndexOf answer, the program's and the specification's.
-/
namespace Go.Proofs.YtklpanjedolkdaaGreatDoor
open Go.RowKit Go.BigFrame
set_option linter.unusedVariables false

/-- CutDigest -/
def cutH (t : ByteArray) (x : Int) : ByteArray := if 1 ≤ x ∧ x ≤ 32 then cutB (digB t) x.toNat else ⟨#[]⟩
theorem CutDigest_any (t : ByteArray) (x : Int) (w : World) (ht : t.size ≤ 1048576) (hK : TabK w) (hF : TabF w) :
    Calls Tryz.prog 234 #[.string t, .int .i64 x] w fun e w' => e = .returned (.string (cutH t x)) ∧ Below w.heap.size w w' := by
  unfold cutH
  by_cases h : 1 ≤ x ∧ x ≤ 32
  · rw [if_pos h]
    obtain ⟨k, rfl⟩ := Int.eq_ofNat_of_zero_le (show 0 ≤ x by omega)
    exact CutDigest_yes t k w ht (by omega) (by omega) hK hF
  · rw [if_neg h]
    exact CutDigest_no t x w (by omega)
theorem sCutDigest_any (t : ByteArray) (x : Int) (w : World) (ht : t.size ≤ 1048576) :
    Calls Tryz.prog 217 #[.string t, .int .i64 x] w fun e w' => e = .returned (.string (cutH t x)) ∧ Below w.heap.size w w' := by
  unfold cutH
  by_cases h : 1 ≤ x ∧ x ≤ 32
  · rw [if_pos h]
    obtain ⟨k, rfl⟩ := Int.eq_ofNat_of_zero_le (show 0 ≤ x by omega)
    exact sCutDigest_yes t k w ht (by omega) (by omega)
  · rw [if_neg h]
    exact sCutDigest_no t x w (by omega)

theorem tagB_size (k : Int) (l : List ByteArray) : (tagB k l).size ≤ 12601 := by
  cases h : tagOk k l with
  | false =>
    rw [tagB_no h]
    show 0 ≤ 12601
    omega
  | true =>
    unfold tagB
    rw [h]
    unfold tagOk at h
    rw [Bool.and_eq_true, decide_eq_true_eq, List.all_eq_true] at h
    obtain ⟨⟨_, h2⟩, h3⟩ := h
    have h4 := tagL_len k.toNat l l.length (Nat.le_refl _) (fun j hj _ => by simpa using h3 l[j] (List.getElem_mem _))
    rw [List.take_length] at h4
    simp only [if_true, ByteArray.size, List.size_toArray]
    omega

/-- what TagHash is -/
def hashB (k : Int) (l : List ByteArray) (x : Int) : ByteArray := if tagOk k l then cutH (tagB k l) x else ⟨#[]⟩

theorem taggedHash_any (x k : Int) (v : Value) (g o : Nat) (l : List ByteArray) (w : World) (hv : SS w v g o l) (hK : TabK w) (hF : TabF w) :
    Calls Tryz.prog 225 #[.int .i64 x, .int .i64 k, v] w fun e w' => e = .returned (.string (hashB k l x)) ∧ Below w.heap.size w w' := by
  have hc := tagged_any k v g o l w hv
  have hz := tagB_size k l
  have hkp := hK.pos
  have hfp := hF.pos
  obtain ⟨a, cap, rfl, _⟩ := hv
  unfold hashB
  generalize tagB k l = T at *
  cases hR : tagOk k l with
  | false =>
    rw [hR] at hc
    simp only [Bool.false_eq_true, if_false]
    clear hK hF
    go_enter Tryz.func225, Tryz.ntmps225
    go_wp2_with fail
    refine hc.mono ?_
    rintro e w1 ⟨rfl, hb1⟩
    go_wp2
    go_ret
    exact ⟨rfl, hb1⟩
  | true =>
    rw [hR] at hc
    simp only [if_true]
    have HC : Hid (∀ w1, Below w.heap.size w w1 → Calls Tryz.prog 234 #[.string T, .int .i64 x] w1 fun e w' => e = .returned (.string (cutH T x)) ∧ Below w1.heap.size w1 w') := fun w1 hb => CutDigest_any T x w1 (by omega) (hK.later hb hkp) (hF.later hb hfp)
    generalize cutH T x = D at *
    clear hK hF
    go_enter Tryz.func225, Tryz.ntmps225
    go_wp2_with fail
    refine hc.mono ?_
    rintro e w1 ⟨rfl, hb1⟩
    clear hc
    go_wp2_with fail
    refine (HC.out _ hb1).mono ?_
    rintro e w2 ⟨rfl, hb2⟩
    go_wp2
    go_ret
    exact ⟨rfl, hb1.trans (hb2.mono hb1.size)⟩

theorem sTagHash_any (k : Int) (v : Value) (x : Int) (g o : Nat) (l : List ByteArray) (w : World) (hv : SS w v g o l) :
    Calls Tryz.prog 187 #[.int .i64 k, v, .int .i64 x] w fun e w' => e = .returned (.string (hashB k l x)) ∧ Below w.heap.size w w' := by
  have hc := sTagText_any k v g o l w hv
  have hz := tagB_size k l
  obtain ⟨a, cap, rfl, _⟩ := hv
  unfold hashB
  generalize tagB k l = T at *
  cases hR : tagOk k l with
  | false =>
    rw [hR] at hc
    simp only [Bool.false_eq_true, if_false]
    go_enter Tryz.func187, Tryz.ntmps187
    go_wp2_with fail
    refine hc.mono ?_
    rintro e w1 ⟨rfl, hb1⟩
    go_wp2
    go_ret
    exact ⟨rfl, hb1⟩
  | true =>
    rw [hR] at hc
    simp only [if_true]
    have HC : Hid (∀ w1, Calls Tryz.prog 217 #[.string T, .int .i64 x] w1 fun e w' => e = .returned (.string (cutH T x)) ∧ Below w1.heap.size w1 w') := fun w1 => sCutDigest_any T x w1 (by omega)
    generalize cutH T x = D at *
    go_enter Tryz.func187, Tryz.ntmps187
    go_wp2_with fail
    refine hc.mono ?_
    rintro e w1 ⟨rfl, hb1⟩
    clear hc
    go_wp2_with fail
    refine (HC.out _).mono ?_
    rintro e w2 ⟨rfl, hb2⟩
    go_wp2
    go_ret
    exact ⟨rfl, hb1.trans (hb2.mono hb1.size)⟩

/-- the first byte of a text -/
def byte0 (d : ByteArray) : UInt8 := d.data.toList.getD 0 0
theorem run_byte0 (d : ByteArray) (h : 0 < d.size) (w : World) : (Instr.index 9 (.string d) (.int .i64 0)).run Tryz.prog w = .ok (.int .u8 ((byte0 d).toNat : Int)) w := by
  rw [run_index_string (P := Tryz.prog) (w := w) 9 d .i64 _ Tryz.underlying9, dif_pos ⟨by omega, by omega⟩]
  have e : byte0 d = d[0] := by
    unfold byte0
    rw [ByteArray.getElem_eq_getElem_data, List.getD_eq_getElem?_getD, List.getElem?_eq_getElem (by simpa using h)]
    simp
  rw [e]
  rfl

theorem IndexOf_any (t : ByteArray) (w : World) (ht : t.size ≤ 1048576) (hK : TabK w) (hF : TabF w) :
    Calls Tryz.prog 119 #[.string t] w fun e w' => e = .returned (.int .i64 ((byte0 (digB t)).toNat : Int)) ∧ Below w.heap.size w w' := by
  have hz := digB_size t
  have hc := Digest_any t w ht hK hF
  clear hK hF
  generalize digB t = D at *
  have hh := run_byte0 D (by omega)
  generalize byte0 D = b at *
  have hb : b.toNat < 256 := b.toNat_lt
  go_enter Tryz.func119, Tryz.ntmps119
  go_wp2_with fail
  refine hc.mono ?_
  rintro e w1 ⟨rfl, hb1⟩
  clear hc
  go_wp2
  go_ret
  exact ⟨rfl, hb1⟩
theorem sIndexOf_any (t : ByteArray) (w : World) (ht : t.size ≤ 1048576) :
    Calls Tryz.prog 109 #[.string t] w fun e w' => e = .returned (.int .i64 ((byte0 (digB t)).toNat : Int)) ∧ Below w.heap.size w w' := by
  have hz := digB_size t
  have hc := sDigest_any t w ht
  generalize digB t = D at *
  have hh := run_byte0 D (by omega)
  generalize byte0 D = b at *
  have hb : b.toNat < 256 := b.toNat_lt
  go_enter Tryz.func109, Tryz.ntmps109
  go_wp2_with fail
  refine hc.mono ?_
  rintro e w1 ⟨rfl, hb1⟩
  clear hc
  go_wp2
  go_ret
  exact ⟨rfl, hb1⟩

end Go.Proofs.YtklpanjedolkdaaGreatDoor
