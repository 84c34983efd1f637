/-
  What ReadSig answers, the program's and the specification's.
-/
import Derived.Test.YteejjnpemaghcaaCln
import Derived.Test.YteejjnpemaghcaaSgm
import Derived.Test.YteejjnpemaghcaaForm
import Derived.Laws.DeepStrings4
namespace Go.Proofs.Yteejjnpemaghcaa
open Go.RowKit Go.BigFrame
set_option linter.unusedVariables false

/-- n keys from place b on -/
def cutL (t : ByteArray) (b n : Nat) : List ByteArray := (List.range n).map fun i => t.extract (b + i * 16) (b + (i + 1) * 16)
theorem cutL_len (t : ByteArray) (b n : Nat) : (cutL t b n).length = n := by simp [cutL]
theorem cutL_at (t : ByteArray) (b n i : Nat) (h : i < (cutL t b n).length) : (cutL t b n)[i] = t.extract (b + i * 16) (b + (i + 1) * 16) := by simp [cutL]
theorem cutL_tail (t : ByteArray) (k b n : Nat) (h : k + b + n * 16 ≤ t.size) : cutL (t.extract k t.size) b n = cutL t (k + b) n := by
  unfold cutL
  apply List.map_congr_left
  intro i hi
  have hi' : i < n := by simpa using hi
  rw [ByteArray.extract_extract]
  have e1 : k + (b + i * 16) = k + b + i * 16 := by omega
  have e2 : min (k + (b + (i + 1) * 16)) t.size = k + b + (i + 1) * 16 := by
    have : (i + 1) * 16 ≤ n * 16 := Nat.mul_le_mul_right _ hi'
    omega
  rw [e1, e2]
theorem tail_tail (t : ByteArray) (k b : Nat) (h : k ≤ t.size) : (t.extract k t.size).extract b (t.extract k t.size).size = t.extract (k + b) t.size := by
  rw [ByteArray.extract_extract, ByteArray.size_extract]
  congr 1
  omega
theorem cutL_wide (t : ByteArray) (b n : Nat) (h : b + n * 16 ≤ t.size) : kwB (cutL t b n) = true := by
  refine kwB_yes _ fun j hj => ?_
  rw [cutL_at, ByteArray.size_extract]
  rw [cutL_len] at hj
  have : (j + 1) * 16 ≤ n * 16 := Nat.mul_le_mul_right _ hj
  omega

def CkR (t : ByteArray) (n : Nat) (w : World) (g : Nat) (i : Value) (wr : World) : Prop := ∃ m : Nat, m ≤ n ∧ i = .int .i64 m ∧ TB wr g (srow (cutL t 0 n) m) ∧ Below w.heap.size w wr

set_option maxRecDepth 100000 in
set_option maxHeartbeats 1000000 in
theorem cutKeys_any (t : ByteArray) (n : Nat) (x : Int) (w : World) (hx : x = (n : Int)) (hn : n ≤ 8) (ht : n * 16 ≤ t.size) (hts : t.size ≤ 1000) :
    Calls Try.prog 21 #[.string t, .int .i64 x] w fun e w' => ∃ g, e = .returned (.tuple #[.slice (some ⟨g, 0, none⟩) n n, .string (t.extract (n * 16) t.size)]) ∧ w.heap.size ≤ g ∧ TB w' g (cutL t 0 n) ∧ Below w.heap.size w w' := by
  subst hx
  obtain ⟨w2, hmk, hib, hb2, hs2⟩ := TB.made n (by omega) w
  have HST : Hid (CkR t n w w.heap.size (.int .i64 0) w2) := ⟨0, by omega, rfl, by rw [show srow (cutL t 0 n) 0 = List.replicate n ByteArray.empty by unfold srow; rw [cutL_len]; rfl]; exact hib, hb2⟩
  have HL : Hid ((cutL t 0 n).length = n ∧ ∀ i (h : i < (cutL t 0 n).length), (cutL t 0 n)[i] = t.extract (i * 16) ((i + 1) * 16)) := ⟨cutL_len t 0 n, fun i h => by rw [cutL_at, Nat.zero_add, Nat.zero_add]⟩
  generalize hL : cutL t 0 n = L at *
  clear hib hb2 hs2
  go_enter Try.func21, Try.ntmps21
  go_wp2
  clear hmk
  go_loopw [12] (fun i wr => CkR t n w w.heap.size i wr) (fun i _ => n - (intOf i).toNat)
  case atStart => exact HST.out
  case round =>
    obtain ⟨m, hm, rfl, hib, hbel⟩ := hrel
    rw [hL] at hib
    clear HST
    by_cases hlt : m < n
    · have i1 : (m : Int) < (n : Int) := by omega
      have i2 : (0 : Int) ≤ (m : Int) := by omega
      have hsl : ∀ W, (Instr.slice 9 (.string t) (some (.int .i64 ((m : Int) * 16))) (some (.int .i64 (((m : Int) + 1) * 16))) none).run Try.prog W = .ok (.string (t.extract (m * 16) ((m + 1) * 16))) W := by
        intro W
        rw [run_slice_string_if (P := Try.prog) (w := W) 9 t .i64 .i64 _ _ Try.underlying9, if_pos (by omega), if_pos (by omega)]
        congr 3 <;> omega
      have hes : (t.extract (m * 16) ((m + 1) * 16)).size ≤ 1048576 := by rw [ByteArray.size_extract]; omega
      have hl16 : (srow L m).length = n := by rw [srow_len _ _ (by rw [HL.out.1]; omega)]; exact HL.out.1
      have hlk := HL.out.2 m (by rw [HL.out.1]; exact hlt)
      have hst := srow_step L m (by rw [HL.out.1]; exact hlt)
      rw [hlk] at hst
      generalize t.extract (m * 16) ((m + 1) * 16) = K at *
      go_wp2_with fail
      refine (Clone_any K _ hes).mono ?_
      rintro e w1 ⟨rfl, hb1⟩
      have hib1 := hib.below hb1 hib.lt
      have b1 := hbel.trans (hb1.mono hbel.size)
      have c0 := hib1.cell m (by omega)
      have f0 := hib1.frozen m
      have hss := hib1.set m (by omega) K
      rw [hst] at hss
      have HS : Hid (TB (w1.setCell ⟨w.heap.size, m, none⟩ (.string K)) w.heap.size (srow L (m + 1)) ∧ Below w.heap.size w (w1.setCell ⟨w.heap.size, m, none⟩ (.string K))) := ⟨hss, b1.setCell (p := ⟨w.heap.size, m, none⟩) (Nat.le_refl _) _⟩
      generalize (srow L m)[m]'(by omega) = Y at *
      clear hss hib1 hib hbel b1 hb1 hlk HL hl16 hst hsl
      go_wp2
      go_roundw
      case rel => exact ⟨m + 1, by omega, by go_num, by rw [hL]; exact HS.out.1, HS.out.2⟩
      case measure => simp [intOf]; omega
    · have hme : m = n := by omega
      subst hme
      have e : srow L m = L := by have := srow_all L; rw [HL.out.1] at this; exact this
      rw [e] at hib
      have a1 : IntKind.i64.wrap ((m : Int) * 16) = (m : Int) * 16 := IntWalk.i64_in _ (by omega)
      have hsl : ∀ W, (Instr.slice 9 (.string t) (some (.int .i64 ((m : Int) * 16))) none none).run Try.prog W = .ok (.string (t.extract (m * 16) t.size)) W := by
        intro W
        rw [run_slice_string_from_if (P := Try.prog) (w := W) 9 t .i64 _ Try.underlying9, if_pos (by omega)]
        congr 3 <;> omega
      clear e HL
      go_wp2
      go_quiet (fail)
      go_wp2
      go_ret2
      exact ⟨w.heap.size, rfl, Nat.le_refl _, hib, hbel.trans ⟨rfl, rfl, rfl, Nat.le_refl _, fun _ _ => rfl⟩⟩

def LcR (t : ByteArray) (b n : Nat) (w : World) (v i : Value) (wr : World) : Prop := ∃ m : Nat, m ≤ n ∧ i = .int .i64 m ∧ OS w.heap.size w wr v ((cutL t b n).take m)

set_option maxRecDepth 100000 in
set_option maxHeartbeats 1000000 in
theorem l05Cut_any (t : ByteArray) (b n : Nat) (y x : Int) (w : World) (hy : y = (b : Int)) (hx : x = (n : Int)) (hn : n ≤ 8) (ht : b + n * 16 ≤ t.size) (hts : t.size ≤ 1000) :
    Calls Try.prog 19 #[.string t, .int .i64 y, .int .i64 x] w fun e w' => ∃ v, e = .returned v ∧ OS w.heap.size w w' v (cutL t b n) := by
  subst hx hy
  have HST : Hid (LcR t b n w (.slice (some ⟨w.heap.size, 0, none⟩) 0 0) (.int .i64 0) (w.alloc (.cells #[] 9))) := ⟨0, by omega, rfl, OS.made w⟩
  have HL : Hid ((cutL t b n).length = n ∧ ∀ i (h : i < (cutL t b n).length), (cutL t b n)[i] = t.extract (b + i * 16) (b + (i + 1) * 16)) := ⟨cutL_len t b n, cutL_at t b n⟩
  generalize hL : cutL t b n = L at *
  go_enter Try.func19, Try.ntmps19
  go_wp2
  go_loopw [7, 8] (fun v i wr => LcR t b n w v i wr) (fun _ i _ => n - (intOf i).toNat)
  case atStart => exact HST.out
  case round =>
    obtain ⟨m, hm, rfl, hos⟩ := hrel
    rw [hL] at hos
    clear HST
    by_cases hlt : m < n
    · have i1 : (m : Int) < (n : Int) := by omega
      have i2 : (0 : Int) ≤ (m : Int) := by omega
      have hsl : ∀ W, (Instr.slice 9 (.string t) (some (.int .i64 ((b : Int) + (m : Int) * 16))) (some (.int .i64 ((b : Int) + ((m : Int) + 1) * 16))) none).run Try.prog W = .ok (.string (t.extract (b + m * 16) (b + (m + 1) * 16))) W := by
        intro W
        rw [run_slice_string_if (P := Try.prog) (w := W) 9 t .i64 .i64 _ _ Try.underlying9, if_pos (by omega), if_pos (by omega)]
        congr 3 <;> omega
      have hlk := HL.out.2 m (by rw [HL.out.1]; exact hlt)
      have hll : (L.take m).length ≤ 16 := by rw [List.length_take, HL.out.1]; omega
      have HN : Hid (∀ v W, OS w.heap.size w W v (L.take m ++ [t.extract (b + m * 16) (b + (m + 1) * 16)]) → LcR t b n w v (.int .i64 ((m : Int) + 1)) W) := by
        rw [← hlk, List.take_append_getElem]
        exact fun v W hW => ⟨m + 1, by omega, by simp, by rw [hL]; exact hW⟩
      generalize t.extract (b + m * 16) (b + (m + 1) * 16) = K at *
      generalize L.take m = X at *
      clear hlk HL
      go_wp2_with (at_builtin; refine wp_appS rfl _ _ rfl w.heap.size w _ X rfl (hos.alloc _) ⟨wr.heap.size, 0, none⟩ K rfl ?c1 ?c2 ?_)
      case c1 => exact one_text _ _ _
      case c2 => omega
      intro v' w3 hos3
      clear hsl
      go_wp2
      go_roundw
      case rel => exact HN.out _ _ hos3
      case measure => simp [intOf]; omega
    · have hme : m = n := by omega
      subst hme
      have e : L.take m = L := List.take_of_length_le (by rw [HL.out.1]; omega)
      rw [e] at hos
      go_wp2
      go_ret
      exact ⟨_, rfl, hos⟩

/-- the first byte of a text -/
def b0 (d : ByteArray) : UInt8 := d.data.toList.getD 0 0
theorem run_b0 (d : ByteArray) (h : 0 < d.size) (w : World) : (Instr.index 9 (.string d) (.int .i64 0)).run Try.prog w = .ok (.int .u8 ((b0 d).toNat : Int)) w := by
  rw [run_index_string (P := Try.prog) (w := w) 9 d .i64 _ Try.underlying9, dif_pos ⟨by omega, by omega⟩]
  have e : b0 d = d[0] := by
    unfold b0
    rw [ByteArray.getElem_eq_getElem_data, List.getD_eq_getElem?_getD, List.getElem?_eq_getElem (by simpa using h)]
    simp
  rw [e]
  rfl

/-- a signature whose lists are new, each with memory of its own -/
def SigIn (w : World) (B : Nat) (v : Value) (a : Int) (o s d : List ByteArray) : Prop :=
  ∃ v1 v2 v3 g1 g2 g3, v = .agg #[.int .i64 a, v1, v2, v3] ∧ (TS w v1 g1 o ∧ TS w v2 g2 s ∧ TS w v3 g3 d) ∧ (B ≤ g1 ∧ B ≤ g2 ∧ B ≤ g3) ∧ (g1 ≠ g2 ∧ g1 ≠ g3 ∧ g2 ≠ g3)
theorem SigIn.zero (w : World) (B : Nat) : SigIn w B (.agg #[.int .i64 0, .slice none 0 0, .slice none 0 0, .slice none 0 0]) 0 [] [] [] :=
  ⟨_, _, _, B, B + 1, B + 2, rfl, ⟨TS.nil w _, TS.nil w _, TS.nil w _⟩, ⟨by omega, by omega, by omega⟩, ⟨by omega, by omega, by omega⟩⟩

def rsOk (t : ByteArray) : Bool := decide (t.size = 321 ∧ (b0 t).toNat ≤ 15)
def rsA (t : ByteArray) : Int := if rsOk t then ((b0 t).toNat : Int) else 0
def rsO (t : ByteArray) : List ByteArray := if rsOk t then cutL t 1 8 else []
def rsS (t : ByteArray) : List ByteArray := if rsOk t then cutL t 129 8 else []
def rsD (t : ByteArray) : List ByteArray := if rsOk t then cutL t 257 4 else []

theorem grown_setRow (w : World) (g : Nat) (R : Array Value) : w.grownBy (w.setRow g R) (some g) :=
  ⟨rfl, rfl, rfl, by simp [World.setRow], fun k _ hk => setRow_other w g k R (fun e => hk (by simp [e]))⟩

def zSig : Array Value := #[.int .i64 0, .slice none 0 0, .slice none 0 0, .slice none 0 0]

set_option maxRecDepth 100000 in
set_option maxHeartbeats 1000000 in
theorem ReadSig_yes (t : ByteArray) (w : World) (h1 : t.size = 321) (h2 : (b0 t).toNat ≤ 15) :
    Calls Try.prog 11 #[.string t] w fun e w' => ∃ v, e = .returned (.tuple #[v, .bool true]) ∧ SigIn w' w.heap.size v ((b0 t).toNat : Int) (cutL t 1 8) (cutL t 129 8) (cutL t 257 4) ∧ Below w.heap.size w w' := by
  have hh := run_b0 t (by omega)
  have hd : decide ((0 : Int) ≤ ((b0 t).toNat : Int) ∧ ((b0 t).toNat : Int) ≤ 15) = true := by simp; omega
  have hsl : ∀ W, (Instr.slice 9 (.string t) (some (.int .i64 1)) none none).run Try.prog W = .ok (.string (t.extract 1 t.size)) W := by
    intro W
    rw [run_slice_string_from_if (P := Try.prog) (w := W) 9 t .i64 _ Try.underlying9, if_pos (by omega)]
    rfl
  have z1 : (t.extract 1 t.size).size = 320 := by rw [ByteArray.size_extract]; omega
  have z2 : (t.extract 129 t.size).size = 192 := by rw [ByteArray.size_extract]; omega
  have z3 : (t.extract 257 t.size).size = 64 := by rw [ByteArray.size_extract]; omega
  have HC1 : Hid (∀ W, Calls Try.prog 21 #[.string (t.extract 1 t.size), .int .i64 8] W fun e w' => ∃ g, e = .returned (.tuple #[.slice (some ⟨g, 0, none⟩) 8 8, .string (t.extract 129 t.size)]) ∧ W.heap.size ≤ g ∧ TB w' g (cutL t 1 8) ∧ Below W.heap.size W w') := fun W => by
    have := cutKeys_any (t.extract 1 t.size) 8 8 W rfl (by omega) (by omega) (by omega)
    rw [cutL_tail t 1 0 8 (by omega), tail_tail t 1 (8 * 16) (by omega)] at this
    exact this
  have HC2 : Hid (∀ W, Calls Try.prog 21 #[.string (t.extract 129 t.size), .int .i64 8] W fun e w' => ∃ g, e = .returned (.tuple #[.slice (some ⟨g, 0, none⟩) 8 8, .string (t.extract 257 t.size)]) ∧ W.heap.size ≤ g ∧ TB w' g (cutL t 129 8) ∧ Below W.heap.size W w') := fun W => by
    have := cutKeys_any (t.extract 129 t.size) 8 8 W rfl (by omega) (by omega) (by omega)
    rw [cutL_tail t 129 0 8 (by omega), tail_tail t 129 (8 * 16) (by omega)] at this
    exact this
  have HC3 : Hid (∀ W, Calls Try.prog 21 #[.string (t.extract 257 t.size), .int .i64 4] W fun e w' => ∃ g, ∃ u, e = .returned (.tuple #[.slice (some ⟨g, 0, none⟩) 4 4, .string u]) ∧ W.heap.size ≤ g ∧ TB w' g (cutL t 257 4) ∧ Below W.heap.size W w') := fun W => by
    have := cutKeys_any (t.extract 257 t.size) 4 4 W rfl (by omega) (by omega) (by omega)
    rw [cutL_tail t 257 0 4 (by omega)] at this
    exact this.mono fun e w' ⟨g, he, h⟩ => ⟨g, _, he, h⟩
  have HLN : Hid ((cutL t 1 8).length = 8 ∧ (cutL t 129 8).length = 8 ∧ (cutL t 257 4).length = 4) := ⟨cutL_len _ _ _, cutL_len _ _ _, cutL_len _ _ _⟩
  have q : ((t.size : Int) != 321) = false := by simp; omega
  generalize cutL t 1 8 = L1 at *
  generalize cutL t 129 8 = L2 at *
  generalize cutL t 257 4 = L3 at *
  generalize t.extract 1 t.size = T1 at *
  generalize t.extract 129 t.size = T2 at *
  generalize t.extract 257 t.size = T3 at *
  generalize b0 t = b at *
  have hb : b.toNat < 256 := b.toNat_lt
  clear z1 z2 z3
  go_enter Try.func11, Try.ntmps11
  go_wp2_with fail
  refine (inPool_f _ _).mono ?_
  rintro e w0 ⟨rfl, rfl⟩
  rw [hd]
  have hS0 : SgM (w.alloc (.cells zSig 28)) w.heap.size 0 (.slice none 0 0) (.slice none 0 0) (.slice none 0 0) := SgM.new w 0 _ _ _
  have bb0 : Below w.heap.size w (w.alloc (.cells zSig 28)) := (Below.refl _ _).alloc (Nat.le_refl _) _
  have hsz : (w.alloc (.cells zSig 28)).heap.size = w.heap.size + 1 := by simp
  have HS0 : Hid (SgM (w.alloc (.cells zSig 28)) w.heap.size 0 (.slice none 0 0) (.slice none 0 0) (.slice none 0 0) ∧ Below w.heap.size w (w.alloc (.cells zSig 28)) ∧ (w.alloc (.cells zSig 28)).heap.size = w.heap.size + 1) := ⟨hS0, bb0, hsz⟩
  clear hS0 bb0 hsz hd
  go_wp2_with fail
  refine (HC1.out _).mono ?_
  rintro e w1 ⟨g1, rfl, hg1, ht1, hb1⟩
  obtain ⟨hS0, bb0, hsz⟩ := HS0.out
  have hS1 := hS0.later hb1
  have b1 := bb0.trans (hb1.mono bb0.size)
  have hg1' : w.heap.size + 1 ≤ g1 := by rw [← hsz]; exact hg1
  have hl1 := ht1.lt
  have hts1 := ht1.ts 8 8 HLN.out.1 (by omega)
  have HA1 : Hid (SgM w1 w.heap.size 0 (.slice none 0 0) (.slice none 0 0) (.slice none 0 0) ∧ Below w.heap.size w w1 ∧ TS w1 (.slice (some ⟨g1, 0, none⟩) 8 8) g1 L1) := ⟨hS1, b1, hts1⟩
  clear hS0 bb0 hsz hS1 b1 hts1 hb1 ht1 hg1 HS0 HC1
  go_wp2_with fail
  refine (HC2.out _).mono ?_
  rintro e w2 ⟨g2, rfl, hg2, ht2, hb2⟩
  obtain ⟨hS1, b1, hts1⟩ := HA1.out
  have hS2 := hS1.later hb2
  have b2 := b1.trans (hb2.mono b1.size)
  have hl2 := ht2.lt
  have HA2 : Hid (SgM w2 w.heap.size 0 (.slice none 0 0) (.slice none 0 0) (.slice none 0 0) ∧ Below w.heap.size w w2 ∧ TS w2 (.slice (some ⟨g1, 0, none⟩) 8 8) g1 L1 ∧ TS w2 (.slice (some ⟨g2, 0, none⟩) 8 8) g2 L2) := ⟨hS2, b2, hts1.later hb2, ht2.ts 8 8 HLN.out.2.1 (by omega)⟩
  clear hS1 b1 hts1 hS2 b2 hb2 ht2 HA1 HC2
  go_wp2_with fail
  refine (HC3.out _).mono ?_
  rintro e w3 ⟨g3, u3, rfl, hg3, ht3, hb3⟩
  obtain ⟨hS2, b2, hts1, hts2⟩ := HA2.out
  have hS3 := hS2.later hb3
  have b3 := b2.trans (hb3.mono b2.size)
  have HA3 : Hid (SgM w3 w.heap.size 0 (.slice none 0 0) (.slice none 0 0) (.slice none 0 0) ∧ Below w.heap.size w w3 ∧ TS w3 (.slice (some ⟨g1, 0, none⟩) 8 8) g1 L1 ∧ TS w3 (.slice (some ⟨g2, 0, none⟩) 8 8) g2 L2 ∧ TS w3 (.slice (some ⟨g3, 0, none⟩) 4 4) g3 L3) := ⟨hS3, b3, hts1.later hb3, hts2.later hb3, ht3.ts 4 4 HLN.out.2.2 (by omega)⟩
  clear hS2 b2 hts1 hts2 hS3 b3 hb3 ht3 HA2 HC3
  go_wp2_with (refine wp_storeSig rfl _ _ rfl w.heap.size 0 _ _ _ _ _ _ _ HA3.out.1 rfl rfl rfl rfl rfl ?_; intro hfin)
  refine ret_sig2 2 3 w.heap.size _ _ _ _ _ rfl rfl rfl rfl hfin ?_
  obtain ⟨_, b3, hts1, hts2, hts3⟩ := HA3.out
  have hgr := grown_setRow w3 w.heap.size #[.int .i64 (b.toNat : Int), .slice (some ⟨g1, 0, none⟩) 8 8, .slice (some ⟨g2, 0, none⟩) 8 8, .slice (some ⟨g3, 0, none⟩) 4 4]
  refine ⟨_, rfl, ⟨_, _, _, g1, g2, g3, rfl, ⟨hts1.keptG hgr (fun _ => ?_), hts2.keptG hgr (fun _ => ?_), hts3.keptG hgr (fun _ => ?_)⟩, ⟨by omega, by omega, by omega⟩, ⟨by omega, by omega, by omega⟩⟩, b3.grown hgr b3.size (fun k hk => by simp at hk; omega)⟩
  · simp; omega
  · simp; omega
  · simp; omega

end Go.Proofs.Yteejjnpemaghcaa
