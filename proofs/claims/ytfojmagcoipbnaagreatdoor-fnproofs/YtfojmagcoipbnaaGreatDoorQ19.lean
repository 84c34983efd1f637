/-
  Texts laid together: Hexs, Cut, Hash, Bkd.
-/
import Derived.Test.YtfojmagcoipbnaaGreatDoorQ18
import Derived.Test.YtfojmagcoipbnaaGreatDoorQ09
import Derived.Test.YtfojmagcoipbnaaGreatDoorQ15
import Derived.Test.YtfojmagcoipbnaaGreatDoorQ14
/-
  The walk of the specification's Hex.
-/
namespace Go.Proofs.YtfojmagcoipbnaaGreatDoor
open Go.RowKit
set_option linter.unusedVariables false

theorem q1 (b : Nat) (h : b < 256) : IntKind.i64.wrap ((IntKind.i64.wrap (b : Int)).tdiv 16) = ((b / 16 : Nat) : Int) := by
  rw [IntWalk.i64_in (b : Int) (by omega)]
  have e : (b : Int).tdiv 16 = ((b / 16 : Nat) : Int) := (Int.ofNat_tdiv b 16).symm
  rw [e, IntWalk.i64_in _ (by omega)]
theorem q2 (b : Nat) (h : b < 256) : (IntKind.i64.wrap (b : Int)).tmod 16 = ((b % 16 : Nat) : Int) := by
  rw [IntWalk.i64_in (b : Int) (by omega)]
  exact (Int.ofNat_tmod b 16).symm

theorem q1b (b : Nat) (h : b < 256) : 0 ≤ IntKind.i64.wrap ((IntKind.i64.wrap (b : Int)).tdiv 16) ∧ IntKind.i64.wrap ((IntKind.i64.wrap (b : Int)).tdiv 16) < 16 := by
  rw [q1 b h]
  omega
theorem q2b (b : Nat) (h : b < 256) : 0 ≤ (IntKind.i64.wrap (b : Int)).tmod 16 ∧ (IntKind.i64.wrap (b : Int)).tmod 16 < 16 := by
  rw [q2 b h]
  omega
theorem l01Figure_gen (x : Int) (w : World) (h : 0 ≤ x ∧ x < 16) :
    Calls Tryz.prog 281 #[.int .i64 x] w fun e w' => e = .returned (.int .u8 (fig x.toNat).toNat) ∧ w' = w := by
  obtain ⟨n, rfl⟩ := Int.eq_ofNat_of_zero_le h.1
  rw [Int.toNat_natCast]
  exact l01Figure_any n w (by omega)

end Go.Proofs.YtfojmagcoipbnaaGreatDoor
/-
  What CutDigest and DigestHex answer, the program's and the specification's.
-/
namespace Go.Proofs.YtfojmagcoipbnaaGreatDoor
open Go.RowKit Go.BigFrame
set_option linter.unusedVariables false

def cutB (d : ByteArray) (k : Nat) : ByteArray := d.extract 0 k
theorem run_head (d : ByteArray) (k : Nat) (h : k ≤ d.size) (w : World) :
    (Instr.slice 9 (.string d) none (some (.int .i64 (k : Int))) none).run Tryz.prog w = .ok (.string (cutB d k)) w := by
  rw [run_slice_string_to_if (P := Tryz.prog) (w := w) 9 d .i64 _ Tryz.underlying9, if_pos (by omega)]
  unfold cutB
  simp

theorem CutDigest_no (t : ByteArray) (x : Int) (w : World) (hx : x < 1 ∨ 32 < x) :
    Calls Tryz.prog 90 #[.string t, .int .i64 x] w fun e w' => e = .returned (.string ⟨#[]⟩) ∧ Below w.heap.size w w' := by
  have hd : decide ((1 : Int) ≤ x ∧ x ≤ 32) = false := by simp; omega
  go_enter Tryz.func90, Tryz.ntmps90
  go_wp2_with fail
  refine (widthOk_any _ _).mono ?_
  rintro e w' ⟨rfl, rfl⟩
  rw [hd]
  go_wp2
  go_ret
  exact ⟨rfl, Below.refl _ _⟩
theorem sCutDigest_no (t : ByteArray) (x : Int) (w : World) (hx : x < 1 ∨ 32 < x) :
    Calls Tryz.prog 56 #[.string t, .int .i64 x] w fun e w' => e = .returned (.string ⟨#[]⟩) ∧ Below w.heap.size w w' := by
  have hd : decide ((1 : Int) ≤ x ∧ x ≤ 32) = false := by simp; omega
  go_enter Tryz.func56, Tryz.ntmps56
  go_wp2_with fail
  refine (l01In_any _ _ _ _).mono ?_
  rintro e w' ⟨rfl, rfl⟩
  rw [hd]
  go_wp2
  go_ret
  exact ⟨rfl, Below.refl _ _⟩

theorem CutDigest_yes (t : ByteArray) (k : Nat) (w : World) (ht : t.size ≤ 1048576) (h1 : 1 ≤ k) (h2 : k ≤ 32) (hK : TabK w) (hF : TabF w) :
    Calls Tryz.prog 90 #[.string t, .int .i64 (k : Int)] w fun e w' => e = .returned (.string (cutB (digB t) k)) ∧ Below w.heap.size w w' := by
  have hz := digB_size t
  have hc := Digest_any t w ht hK hF
  clear hK hF
  generalize digB t = D at *
  have hh := run_head D k (by omega)
  have hd : decide ((1 : Int) ≤ (k : Int) ∧ (k : Int) ≤ 32) = true := by simp; omega
  go_enter Tryz.func90, Tryz.ntmps90
  go_wp2_with fail
  refine (widthOk_any _ _).mono ?_
  rintro e w0 ⟨rfl, rfl⟩
  rw [hd]
  go_wp2_with fail
  refine hc.mono ?_
  rintro e w1 ⟨rfl, hb1⟩
  clear hc
  go_wp2
  go_ret
  exact ⟨rfl, hb1⟩
theorem sCutDigest_yes (t : ByteArray) (k : Nat) (w : World) (ht : t.size ≤ 1048576) (h1 : 1 ≤ k) (h2 : k ≤ 32) :
    Calls Tryz.prog 56 #[.string t, .int .i64 (k : Int)] w fun e w' => e = .returned (.string (cutB (digB t) k)) ∧ Below w.heap.size w w' := by
  have hz := digB_size t
  have hc := sDigest_any t w ht
  generalize digB t = D at *
  have hh := run_head D k (by omega)
  have hd : decide ((1 : Int) ≤ (k : Int) ∧ (k : Int) ≤ 32) = true := by simp; omega
  go_enter Tryz.func56, Tryz.ntmps56
  go_wp2_with fail
  refine (l01In_any _ _ _ _).mono ?_
  rintro e w0 ⟨rfl, rfl⟩
  rw [hd]
  go_wp2_with fail
  refine hc.mono ?_
  rintro e w1 ⟨rfl, hb1⟩
  clear hc
  go_wp2
  go_ret
  exact ⟨rfl, hb1⟩

def hexB (d : ByteArray) : ByteArray := ⟨(hexK d d.size).toArray⟩
end Go.Proofs.YtfojmagcoipbnaaGreatDoor
/-
  What TagHash and IndexOf answer, the program's and the specification's.
-/
namespace Go.Proofs.YtfojmagcoipbnaaGreatDoor
open Go.RowKit Go.BigFrame
set_option linter.unusedVariables false

/-- CutDigest -/
def cutH (t : ByteArray) (x : Int) : ByteArray := if 1 ≤ x ∧ x ≤ 32 then cutB (digB t) x.toNat else ⟨#[]⟩
theorem CutDigest_any (t : ByteArray) (x : Int) (w : World) (ht : t.size ≤ 1048576) (hK : TabK w) (hF : TabF w) :
    Calls Tryz.prog 90 #[.string t, .int .i64 x] w fun e w' => e = .returned (.string (cutH t x)) ∧ Below w.heap.size w w' := by
  unfold cutH
  by_cases h : 1 ≤ x ∧ x ≤ 32
  · rw [if_pos h]
    obtain ⟨k, rfl⟩ := Int.eq_ofNat_of_zero_le (show 0 ≤ x by omega)
    exact CutDigest_yes t k w ht (by omega) (by omega) hK hF
  · rw [if_neg h]
    exact CutDigest_no t x w (by omega)
theorem sCutDigest_any (t : ByteArray) (x : Int) (w : World) (ht : t.size ≤ 1048576) :
    Calls Tryz.prog 56 #[.string t, .int .i64 x] w fun e w' => e = .returned (.string (cutH t x)) ∧ Below w.heap.size w w' := by
  unfold cutH
  by_cases h : 1 ≤ x ∧ x ≤ 32
  · rw [if_pos h]
    obtain ⟨k, rfl⟩ := Int.eq_ofNat_of_zero_le (show 0 ≤ x by omega)
    exact sCutDigest_yes t k w ht (by omega) (by omega)
  · rw [if_neg h]
    exact sCutDigest_no t x w (by omega)

theorem tagB_size (k : Int) (l : List ByteArray) : (tagB k l).size ≤ 12601 := by
  cases h : tagOk k l with
  | false =>
    rw [tagB_no h]
    show 0 ≤ 12601
    omega
  | true =>
    unfold tagB
    rw [h]
    unfold tagOk at h
    rw [Bool.and_eq_true, decide_eq_true_eq, List.all_eq_true] at h
    obtain ⟨⟨_, h2⟩, h3⟩ := h
    have h4 := tagL_len k.toNat l l.length (Nat.le_refl _) (fun j hj _ => by simpa using h3 l[j] (List.getElem_mem _))
    rw [List.take_length] at h4
    simp only [if_true, ByteArray.size, List.size_toArray]
    omega

/-- what TagHash is -/
def hashB (k : Int) (l : List ByteArray) (x : Int) : ByteArray := if tagOk k l then cutH (tagB k l) x else ⟨#[]⟩

theorem taggedHash_any (x k : Int) (v : Value) (g o : Nat) (l : List ByteArray) (w : World) (hv : SS w v g o l) (hK : TabK w) (hF : TabF w) :
    Calls Tryz.prog 226 #[.int .i64 x, .int .i64 k, v] w fun e w' => e = .returned (.string (hashB k l x)) ∧ Below w.heap.size w w' := by
  have hc := tagged_any k v g o l w hv
  have hz := tagB_size k l
  have hkp := hK.pos
  have hfp := hF.pos
  obtain ⟨a, cap, rfl, _⟩ := hv
  unfold hashB
  generalize tagB k l = T at *
  cases hR : tagOk k l with
  | false =>
    rw [hR] at hc
    simp only [Bool.false_eq_true, if_false]
    clear hK hF
    go_enter Tryz.func226, Tryz.ntmps226
    go_wp2_with fail
    refine hc.mono ?_
    rintro e w1 ⟨rfl, hb1⟩
    go_wp2
    go_ret
    exact ⟨rfl, hb1⟩
  | true =>
    rw [hR] at hc
    simp only [if_true]
    have HC : Hid (∀ w1, Below w.heap.size w w1 → Calls Tryz.prog 90 #[.string T, .int .i64 x] w1 fun e w' => e = .returned (.string (cutH T x)) ∧ Below w1.heap.size w1 w') := fun w1 hb => CutDigest_any T x w1 (by omega) (hK.later hb hkp) (hF.later hb hfp)
    generalize cutH T x = D at *
    clear hK hF
    go_enter Tryz.func226, Tryz.ntmps226
    go_wp2_with fail
    refine hc.mono ?_
    rintro e w1 ⟨rfl, hb1⟩
    clear hc
    go_wp2_with fail
    refine (HC.out _ hb1).mono ?_
    rintro e w2 ⟨rfl, hb2⟩
    go_wp2
    go_ret
    exact ⟨rfl, hb1.trans (hb2.mono hb1.size)⟩

theorem sTagHash_any (k : Int) (v : Value) (x : Int) (g o : Nat) (l : List ByteArray) (w : World) (hv : SS w v g o l) :
    Calls Tryz.prog 224 #[.int .i64 k, v, .int .i64 x] w fun e w' => e = .returned (.string (hashB k l x)) ∧ Below w.heap.size w w' := by
  have hc := sTagText_any k v g o l w hv
  have hz := tagB_size k l
  obtain ⟨a, cap, rfl, _⟩ := hv
  unfold hashB
  generalize tagB k l = T at *
  cases hR : tagOk k l with
  | false =>
    rw [hR] at hc
    simp only [Bool.false_eq_true, if_false]
    go_enter Tryz.func224, Tryz.ntmps224
    go_wp2_with fail
    refine hc.mono ?_
    rintro e w1 ⟨rfl, hb1⟩
    go_wp2
    go_ret
    exact ⟨rfl, hb1⟩
  | true =>
    rw [hR] at hc
    simp only [if_true]
    have HC : Hid (∀ w1, Calls Tryz.prog 56 #[.string T, .int .i64 x] w1 fun e w' => e = .returned (.string (cutH T x)) ∧ Below w1.heap.size w1 w') := fun w1 => sCutDigest_any T x w1 (by omega)
    generalize cutH T x = D at *
    go_enter Tryz.func224, Tryz.ntmps224
    go_wp2_with fail
    refine hc.mono ?_
    rintro e w1 ⟨rfl, hb1⟩
    clear hc
    go_wp2_with fail
    refine (HC.out _).mono ?_
    rintro e w2 ⟨rfl, hb2⟩
    go_wp2
    go_ret
    exact ⟨rfl, hb1.trans (hb2.mono hb1.size)⟩

/-- the first byte of a text -/
def byte0 (d : ByteArray) : UInt8 := d.data.toList.getD 0 0
theorem run_byte0 (d : ByteArray) (h : 0 < d.size) (w : World) : (Instr.index 9 (.string d) (.int .i64 0)).run Tryz.prog w = .ok (.int .u8 ((byte0 d).toNat : Int)) w := by
  rw [run_index_string (P := Tryz.prog) (w := w) 9 d .i64 _ Tryz.underlying9, dif_pos ⟨by omega, by omega⟩]
  have e : byte0 d = d[0] := by
    unfold byte0
    rw [ByteArray.getElem_eq_getElem_data, List.getD_eq_getElem?_getD, List.getElem?_eq_getElem (by simpa using h)]
    simp
  rw [e]
  rfl

theorem IndexOf_any (t : ByteArray) (w : World) (ht : t.size ≤ 1048576) (hK : TabK w) (hF : TabF w) :
    Calls Tryz.prog 77 #[.string t] w fun e w' => e = .returned (.int .i64 ((byte0 (digB t)).toNat : Int)) ∧ Below w.heap.size w w' := by
  have hz := digB_size t
  have hc := Digest_any t w ht hK hF
  clear hK hF
  generalize digB t = D at *
  have hh := run_byte0 D (by omega)
  generalize byte0 D = b at *
  have hb : b.toNat < 256 := b.toNat_lt
  go_enter Tryz.func77, Tryz.ntmps77
  go_wp2_with fail
  refine hc.mono ?_
  rintro e w1 ⟨rfl, hb1⟩
  clear hc
  go_wp2
  go_ret
  exact ⟨rfl, hb1⟩
theorem sIndexOf_any (t : ByteArray) (w : World) (ht : t.size ≤ 1048576) :
    Calls Tryz.prog 113 #[.string t] w fun e w' => e = .returned (.int .i64 ((byte0 (digB t)).toNat : Int)) ∧ Below w.heap.size w w' := by
  have hz := digB_size t
  have hc := sDigest_any t w ht
  generalize digB t = D at *
  have hh := run_byte0 D (by omega)
  generalize byte0 D = b at *
  have hb : b.toNat < 256 := b.toNat_lt
  go_enter Tryz.func113, Tryz.ntmps113
  go_wp2_with fail
  refine hc.mono ?_
  rintro e w1 ⟨rfl, hb1⟩
  clear hc
  go_wp2
  go_ret
  exact ⟨rfl, hb1⟩

end Go.Proofs.YtfojmagcoipbnaaGreatDoor
/-
  The leaves whose names have an index: the specification's answer.
-/
namespace Go.Proofs.YtfojmagcoipbnaaGreatDoor
open Go.RowKit Go.BigFrame Go.Sort
set_option linter.unusedVariables false
set_option linter.unusedSimpArgs false

def idxN (t : ByteArray) : Nat := (byte0 (digB t)).toNat
/-- has it this index? -/
def bkP (i : Int) (f : Le) : Bool := decide ((idxN f.n : Int) = i)
def bkL (L : List Le) (i : Int) : List Le := L.filter (bkP i)
theorem bk_step {L : List Le} {m : Nat} (i : Int) (hm : m < L.length) : (L.take (m + 1)).filter (bkP i) = if bkP i L[m] = true then (L.take m).filter (bkP i) ++ [L[m]] else (L.take m).filter (bkP i) := LV.filt_step _ hm

def BkR (w : World) (L : List Le) (i : Int) (u j : Value) (wr : World) : Prop := ∃ m : Nat, m ≤ L.length ∧ j = .int .i64 m ∧ Hid (OL w.heap.size w wr u ((L.take m).filter (bkP i)))

set_option maxRecDepth 100000 in
set_option maxHeartbeats 1000000 in
theorem sBucketOf_any (v : Value) (ga oa : Nat) (L : List Le) (i : Int) (w : World) (hv : RS 2 lcs w v ga oa L) (hsm : SmallL L) :
    Calls Tryz.prog 280 #[v, .int .i64 i] w fun e w' => ∃ u, e = .returned u ∧ OL w.heap.size w w' u (bkL L i) := by
  have HV : Hid (RS 2 lcs w v ga oa L ∧ SmallL L) := ⟨hv, hsm⟩
  obtain ⟨a, cap, rfl, hl, hA, _⟩ := hv
  obtain ⟨n, hn⟩ : ∃ n, L.length = n := ⟨_, rfl⟩
  have HA : Hid (0 < n → a = some ⟨ga, oa, none⟩) := by rw [← hn]; exact fun h => (hA h).1
  rw [hn] at hl HV ⊢
  clear hA hsm
  have HST : Hid (BkR w L i (.slice (some ⟨w.heap.size, 0, none⟩) 0 0) (.int .i64 0) (w.alloc (.cells #[] 121))) := ⟨0, by omega, rfl, OL.made _ w w (Below.refl _ _) (Nat.le_refl _)⟩
  go_enter Tryz.func280, Tryz.ntmps280
  go_wp2
  go_loopw [5, 6] (fun u j wr => BkR w L i u j wr) (fun _ j _ => n - (intOf j).toNat)
  case atStart => exact HST.out
  case round =>
    obtain ⟨m, hm, rfl, HI⟩ := hrel
    clear HST
    rw [hn] at hm
    obtain ⟨au, cu, rfl⟩ := HI.out.shape
    by_cases hlt : m < n
    · have ea := HA.out (by omega)
      subst ea
      obtain ⟨c0, c1⟩ := (HV.out.1.later HI.out.2.1).leaf m (by omega)
      obtain ⟨X, hX⟩ : ∃ X, L[m]'(by omega) = X := ⟨_, rfl⟩
      rw [hX] at c0 c1
      have hxs := HV.out.2 X (by rw [← hX]; exact List.getElem_mem _)
      have hst := bk_step (L := L) (m := m) i (by omega)
      rw [hX] at hst
      have hle : ((L.take m).filter (bkP i)).length ≤ L.length := LV.filt_len L m _
      have i1 : (m : Int) < (n : Int) := by omega
      have i2 : (0 : Int) ≤ (m : Int) := by omega
      have hix := sIndexOf_any X.n wr hxs.1
      change Calls Tryz.prog 113 _ _ (fun e w' => e = .returned (.int .i64 (idxN X.n : Int)) ∧ Below _ _ w') at hix
      obtain ⟨N, hN⟩ : ∃ N, idxN X.n = N := ⟨_, rfl⟩
      rw [hN] at hix
      have HBK : Hid (bkP i X = decide ((N : Int) = i)) := by rw [← hN]; rfl
      have HCC : Hid (∀ W, Below wr.heap.size wr W → W.cell? ⟨ga, oa + m * 2, none⟩ = some (.string X.n) ∧ W.cell? ⟨ga, oa + m * 2 + 1, none⟩ = some (.string X.v)) := fun W hW => ⟨(cell_kept (hW.block ga (lt_of_cell c0))).trans c0, (cell_kept (hW.block ga (lt_of_cell c0))).trans c1⟩
      clear HV HA hX hN
      generalize hl0 : (L.take m).filter (bkP i) = l at *
      clear hl0
      go_wp2_with fail
      refine hix.mono ?_
      rintro e w1 ⟨rfl, hb1⟩
      have HO2 : Hid (OL w.heap.size w w1 (.slice au l.length cu) l) := HI.out.later hb1
      obtain ⟨x0, x1⟩ := HCC.out _ hb1
      clear hix hb1 HI HCC c0 c1
      by_cases hk : (N : Int) = i
      · rw [HBK.out, decide_eq_true hk] at hst
        have HJ : Hid ((L.take (m + 1)).filter (bkP i) = l ++ [X]) := hst
        have hk2 : ((N : Int) == i) = true := by simpa using hk
        have hbc : Below w1.heap.size w1 (w1.alloc (.cells #[.string X.n, .string X.v] 121)) := (Below.refl _ _).alloc (Nat.le_refl _) _
        have hoa := HO2.out.later hbc
        have HRN : Hid ((w1.alloc (.cells #[.string X.n, .string X.v] 121)).rangeAt w1.heap.size 0 (lcs X)) := range_new _ [.string X.n, .string X.v] 121
        clear hbc HO2 hst HBK
        go_wp2_with (at_builtin; refine wp_leafL rfl _ _ rfl w.heap.size w (.slice au l.length cu) l X rfl hoa _ rfl HRN.out (by omega) ?_)
        intro g5 cap5 w5 ho5 hg5 hl5
        have HK : Hid (OL w.heap.size w w5 (.slice (some ⟨g5, 0, none⟩) (l.length + 1) cap5) ((L.take (m + 1)).filter (bkP i))) := by rw [HJ.out]; exact ho5
        clear ho5 hg5 hl5 hoa HRN HJ
        go_wp2
        go_roundw
        case rel => exact ⟨m + 1, by omega, by go_num, HK⟩
        case measure => simp [intOf]; omega
      · rw [HBK.out, decide_eq_false hk] at hst
        have HJ : Hid (OL w.heap.size w w1 (.slice au l.length cu) ((L.take (m + 1)).filter (bkP i))) := by rw [hst]; exact HO2.out
        have hk2 : ((N : Int) == i) = false := by simpa using hk
        clear hst HBK HO2
        go_wp2
        go_roundw
        case rel => exact ⟨m + 1, by omega, by go_num, HJ⟩
        case measure => simp [intOf]; omega
    · have hme : m = n := by omega
      have e : (L.take m).filter (bkP i) = bkL L i := by rw [List.take_of_length_le (by omega)]; rfl
      have HF : Hid (∃ u, Ending.returned (.slice au ((L.take m).filter (bkP i)).length cu) = .returned u ∧ OL w.heap.size w wr u (bkL L i)) := ⟨_, rfl, by rw [← e]; exact HI.out⟩
      generalize (L.take m).filter (bkP i) = l at *
      subst hme
      clear HI HA HV e
      go_wp2
      go_ret
      exact HF.out

end Go.Proofs.YtfojmagcoipbnaaGreatDoor
