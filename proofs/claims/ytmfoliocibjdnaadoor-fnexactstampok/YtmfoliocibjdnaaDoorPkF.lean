/-
  Texts laid together: Rsg, Rsh, Sgl, Rsl, Stx, Sta.
-/
import Derived.Test.YtmfoliocibjdnaaDoorCln
import Derived.Test.YtmfoliocibjdnaaDoorPkE
import Derived.Laws.DeepStrings4
import Derived.Test.YtmfoliocibjdnaaDoorPkD
/-
  What ReadSig answers, the program's and the specification's.
-/
namespace Go.Proofs.YtmfoliocibjdnaaDoor
open Go.RowKit Go.BigFrame
set_option linter.unusedVariables false

/-- n keys from place b on -/
def cutL (t : ByteArray) (b n : Nat) : List ByteArray := (List.range n).map fun i => t.extract (b + i * 16) (b + (i + 1) * 16)
theorem cutL_len (t : ByteArray) (b n : Nat) : (cutL t b n).length = n := by simp [cutL]
theorem cutL_at (t : ByteArray) (b n i : Nat) (h : i < (cutL t b n).length) : (cutL t b n)[i] = t.extract (b + i * 16) (b + (i + 1) * 16) := by simp [cutL]
theorem cutL_tail (t : ByteArray) (k b n : Nat) (h : k + b + n * 16 ≤ t.size) : cutL (t.extract k t.size) b n = cutL t (k + b) n := by
  unfold cutL
  apply List.map_congr_left
  intro i hi
  have hi' : i < n := by simpa using hi
  rw [ByteArray.extract_extract]
  have e1 : k + (b + i * 16) = k + b + i * 16 := by omega
  have e2 : min (k + (b + (i + 1) * 16)) t.size = k + b + (i + 1) * 16 := by
    have : (i + 1) * 16 ≤ n * 16 := Nat.mul_le_mul_right _ hi'
    omega
  rw [e1, e2]
theorem tail_tail (t : ByteArray) (k b : Nat) (h : k ≤ t.size) : (t.extract k t.size).extract b (t.extract k t.size).size = t.extract (k + b) t.size := by
  rw [ByteArray.extract_extract, ByteArray.size_extract]
  congr 1
  omega
theorem cutL_wide (t : ByteArray) (b n : Nat) (h : b + n * 16 ≤ t.size) : kwB (cutL t b n) = true := by
  refine kwB_yes _ fun j hj => ?_
  rw [cutL_at, ByteArray.size_extract]
  rw [cutL_len] at hj
  have : (j + 1) * 16 ≤ n * 16 := Nat.mul_le_mul_right _ hj
  omega

def CkR (t : ByteArray) (n : Nat) (w : World) (g : Nat) (i : Value) (wr : World) : Prop := ∃ m : Nat, m ≤ n ∧ i = .int .i64 m ∧ TB wr g (srow (cutL t 0 n) m) ∧ Below w.heap.size w wr

set_option maxRecDepth 100000 in
set_option maxHeartbeats 1000000 in
theorem cutKeys_any (t : ByteArray) (n : Nat) (x : Int) (w : World) (hx : x = (n : Int)) (hn : n ≤ 8) (ht : n * 16 ≤ t.size) (hts : t.size ≤ 1000) :
    Calls Tryd.prog 88 #[.string t, .int .i64 x] w fun e w' => ∃ g, e = .returned (.tuple #[.slice (some ⟨g, 0, none⟩) n n, .string (t.extract (n * 16) t.size)]) ∧ w.heap.size ≤ g ∧ TB w' g (cutL t 0 n) ∧ Below w.heap.size w w' := by
  subst hx
  obtain ⟨w2, hmk, hib, hb2, hs2⟩ := TB.made n (by omega) w
  have HST : Hid (CkR t n w w.heap.size (.int .i64 0) w2) := ⟨0, by omega, rfl, by rw [show srow (cutL t 0 n) 0 = List.replicate n ByteArray.empty by unfold srow; rw [cutL_len]; rfl]; exact hib, hb2⟩
  have HL : Hid ((cutL t 0 n).length = n ∧ ∀ i (h : i < (cutL t 0 n).length), (cutL t 0 n)[i] = t.extract (i * 16) ((i + 1) * 16)) := ⟨cutL_len t 0 n, fun i h => by rw [cutL_at, Nat.zero_add, Nat.zero_add]⟩
  generalize hL : cutL t 0 n = L at *
  clear hib hb2 hs2
  go_enter Tryd.func88, Tryd.ntmps88
  go_wp2
  clear hmk
  go_loopw [12] (fun i wr => CkR t n w w.heap.size i wr) (fun i _ => n - (intOf i).toNat)
  case atStart => exact HST.out
  case round =>
    obtain ⟨m, hm, rfl, hib, hbel⟩ := hrel
    rw [hL] at hib
    clear HST
    by_cases hlt : m < n
    · have i1 : (m : Int) < (n : Int) := by omega
      have i2 : (0 : Int) ≤ (m : Int) := by omega
      have hsl : ∀ W, (Instr.slice 9 (.string t) (some (.int .i64 ((m : Int) * 16))) (some (.int .i64 (((m : Int) + 1) * 16))) none).run Tryd.prog W = .ok (.string (t.extract (m * 16) ((m + 1) * 16))) W := by
        intro W
        rw [run_slice_string_if (P := Tryd.prog) (w := W) 9 t .i64 .i64 _ _ Tryd.underlying9, if_pos (by omega), if_pos (by omega)]
        congr 3 <;> omega
      have hes : (t.extract (m * 16) ((m + 1) * 16)).size ≤ 1048576 := by rw [ByteArray.size_extract]; omega
      have hl16 : (srow L m).length = n := by rw [srow_len _ _ (by rw [HL.out.1]; omega)]; exact HL.out.1
      have hlk := HL.out.2 m (by rw [HL.out.1]; exact hlt)
      have hst := srow_step L m (by rw [HL.out.1]; exact hlt)
      rw [hlk] at hst
      generalize t.extract (m * 16) ((m + 1) * 16) = K at *
      go_wp2_with fail
      refine (Clone_any K _ hes).mono ?_
      rintro e w1 ⟨rfl, hb1⟩
      have hib1 := hib.below hb1 hib.lt
      have b1 := hbel.trans (hb1.mono hbel.size)
      have c0 := hib1.cell m (by omega)
      have f0 := hib1.frozen m
      have hss := hib1.set m (by omega) K
      rw [hst] at hss
      have HS : Hid (TB (w1.setCell ⟨w.heap.size, m, none⟩ (.string K)) w.heap.size (srow L (m + 1)) ∧ Below w.heap.size w (w1.setCell ⟨w.heap.size, m, none⟩ (.string K))) := ⟨hss, b1.setCell (p := ⟨w.heap.size, m, none⟩) (Nat.le_refl _) _⟩
      generalize (srow L m)[m]'(by omega) = Y at *
      clear hss hib1 hib hbel b1 hb1 hlk HL hl16 hst hsl
      go_wp2
      go_roundw
      case rel => exact ⟨m + 1, by omega, by go_num, by rw [hL]; exact HS.out.1, HS.out.2⟩
      case measure => simp [intOf]; omega
    · have hme : m = n := by omega
      subst hme
      have e : srow L m = L := by have := srow_all L; rw [HL.out.1] at this; exact this
      rw [e] at hib
      have a1 : IntKind.i64.wrap ((m : Int) * 16) = (m : Int) * 16 := IntWalk.i64_in _ (by omega)
      have hsl : ∀ W, (Instr.slice 9 (.string t) (some (.int .i64 ((m : Int) * 16))) none none).run Tryd.prog W = .ok (.string (t.extract (m * 16) t.size)) W := by
        intro W
        rw [run_slice_string_from_if (P := Tryd.prog) (w := W) 9 t .i64 _ Tryd.underlying9, if_pos (by omega)]
        congr 3 <;> omega
      clear e HL
      go_wp2
      go_quiet (fail)
      go_wp2
      go_ret2
      exact ⟨w.heap.size, rfl, Nat.le_refl _, hib, hbel.trans ⟨rfl, rfl, rfl, Nat.le_refl _, fun _ _ => rfl⟩⟩

def LcR (t : ByteArray) (b n : Nat) (w : World) (v i : Value) (wr : World) : Prop := ∃ m : Nat, m ≤ n ∧ i = .int .i64 m ∧ OS w.heap.size w wr v ((cutL t b n).take m)

set_option maxRecDepth 100000 in
set_option maxHeartbeats 1000000 in
theorem l05Cut_any (t : ByteArray) (b n : Nat) (y x : Int) (w : World) (hy : y = (b : Int)) (hx : x = (n : Int)) (hn : n ≤ 8) (ht : b + n * 16 ≤ t.size) (hts : t.size ≤ 1000) :
    Calls Tryd.prog 102 #[.string t, .int .i64 y, .int .i64 x] w fun e w' => ∃ v, e = .returned v ∧ OS w.heap.size w w' v (cutL t b n) := by
  subst hx hy
  have HST : Hid (LcR t b n w (.slice (some ⟨w.heap.size, 0, none⟩) 0 0) (.int .i64 0) (w.alloc (.cells #[] 9))) := ⟨0, by omega, rfl, OS.made w⟩
  have HL : Hid ((cutL t b n).length = n ∧ ∀ i (h : i < (cutL t b n).length), (cutL t b n)[i] = t.extract (b + i * 16) (b + (i + 1) * 16)) := ⟨cutL_len t b n, cutL_at t b n⟩
  generalize hL : cutL t b n = L at *
  go_enter Tryd.func102, Tryd.ntmps102
  go_wp2
  go_loopw [7, 8] (fun v i wr => LcR t b n w v i wr) (fun _ i _ => n - (intOf i).toNat)
  case atStart => exact HST.out
  case round =>
    obtain ⟨m, hm, rfl, hos⟩ := hrel
    rw [hL] at hos
    clear HST
    by_cases hlt : m < n
    · have i1 : (m : Int) < (n : Int) := by omega
      have i2 : (0 : Int) ≤ (m : Int) := by omega
      have hsl : ∀ W, (Instr.slice 9 (.string t) (some (.int .i64 ((b : Int) + (m : Int) * 16))) (some (.int .i64 ((b : Int) + ((m : Int) + 1) * 16))) none).run Tryd.prog W = .ok (.string (t.extract (b + m * 16) (b + (m + 1) * 16))) W := by
        intro W
        rw [run_slice_string_if (P := Tryd.prog) (w := W) 9 t .i64 .i64 _ _ Tryd.underlying9, if_pos (by omega), if_pos (by omega)]
        congr 3 <;> omega
      have hlk := HL.out.2 m (by rw [HL.out.1]; exact hlt)
      have hll : (L.take m).length ≤ 16 := by rw [List.length_take, HL.out.1]; omega
      have HN : Hid (∀ v W, OS w.heap.size w W v (L.take m ++ [t.extract (b + m * 16) (b + (m + 1) * 16)]) → LcR t b n w v (.int .i64 ((m : Int) + 1)) W) := by
        rw [← hlk, List.take_append_getElem]
        exact fun v W hW => ⟨m + 1, by omega, by simp, by rw [hL]; exact hW⟩
      generalize t.extract (b + m * 16) (b + (m + 1) * 16) = K at *
      generalize L.take m = X at *
      clear hlk HL
      go_wp2_with (at_builtin; refine wp_appS rfl _ _ rfl w.heap.size w _ X rfl (hos.alloc _) ⟨wr.heap.size, 0, none⟩ K rfl ?c1 ?c2 ?_)
      case c1 => exact one_text _ _ _
      case c2 => omega
      intro v' w3 hos3
      clear hsl
      go_wp2
      go_roundw
      case rel => exact HN.out _ _ hos3
      case measure => simp [intOf]; omega
    · have hme : m = n := by omega
      subst hme
      have e : L.take m = L := List.take_of_length_le (by rw [HL.out.1]; omega)
      rw [e] at hos
      go_wp2
      go_ret
      exact ⟨_, rfl, hos⟩

/-- the first byte of a text -/
def b0 (d : ByteArray) : UInt8 := d.data.toList.getD 0 0
theorem run_b0 (d : ByteArray) (h : 0 < d.size) (w : World) : (Instr.index 9 (.string d) (.int .i64 0)).run Tryd.prog w = .ok (.int .u8 ((b0 d).toNat : Int)) w := by
  rw [run_index_string (P := Tryd.prog) (w := w) 9 d .i64 _ Tryd.underlying9, dif_pos ⟨by omega, by omega⟩]
  have e : b0 d = d[0] := by
    unfold b0
    rw [ByteArray.getElem_eq_getElem_data, List.getD_eq_getElem?_getD, List.getElem?_eq_getElem (by simpa using h)]
    simp
  rw [e]
  rfl

/-- a signature whose lists are new, each with memory of its own -/
def SigIn (w : World) (B : Nat) (v : Value) (a : Int) (o s d : List ByteArray) : Prop :=
  ∃ v1 v2 v3 g1 g2 g3, v = .agg #[.int .i64 a, v1, v2, v3] ∧ (TS w v1 g1 o ∧ TS w v2 g2 s ∧ TS w v3 g3 d) ∧ (B ≤ g1 ∧ B ≤ g2 ∧ B ≤ g3) ∧ (g1 ≠ g2 ∧ g1 ≠ g3 ∧ g2 ≠ g3)
theorem SigIn.zero (w : World) (B : Nat) : SigIn w B (.agg #[.int .i64 0, .slice none 0 0, .slice none 0 0, .slice none 0 0]) 0 [] [] [] :=
  ⟨_, _, _, B, B + 1, B + 2, rfl, ⟨TS.nil w _, TS.nil w _, TS.nil w _⟩, ⟨by omega, by omega, by omega⟩, ⟨by omega, by omega, by omega⟩⟩

def rsOk (t : ByteArray) : Bool := decide (t.size = 321 ∧ (b0 t).toNat ≤ 15)
def rsA (t : ByteArray) : Int := if rsOk t then ((b0 t).toNat : Int) else 0
def rsO (t : ByteArray) : List ByteArray := if rsOk t then cutL t 1 8 else []
def rsS (t : ByteArray) : List ByteArray := if rsOk t then cutL t 129 8 else []
def rsD (t : ByteArray) : List ByteArray := if rsOk t then cutL t 257 4 else []

theorem grown_setRow (w : World) (g : Nat) (R : Array Value) : w.grownBy (w.setRow g R) (some g) :=
  ⟨rfl, rfl, rfl, by simp [World.setRow], fun k _ hk => setRow_other w g k R (fun e => hk (by simp [e]))⟩

def zSig : Array Value := #[.int .i64 0, .slice none 0 0, .slice none 0 0, .slice none 0 0]

set_option maxRecDepth 100000 in
set_option maxHeartbeats 1000000 in
theorem ReadSig_yes (t : ByteArray) (w : World) (h1 : t.size = 321) (h2 : (b0 t).toNat ≤ 15) :
    Calls Tryd.prog 20 #[.string t] w fun e w' => ∃ v, e = .returned (.tuple #[v, .bool true]) ∧ SigIn w' w.heap.size v ((b0 t).toNat : Int) (cutL t 1 8) (cutL t 129 8) (cutL t 257 4) ∧ Below w.heap.size w w' := by
  have hh := run_b0 t (by omega)
  have hd : decide ((0 : Int) ≤ ((b0 t).toNat : Int) ∧ ((b0 t).toNat : Int) ≤ 15) = true := by simp; omega
  have hsl : ∀ W, (Instr.slice 9 (.string t) (some (.int .i64 1)) none none).run Tryd.prog W = .ok (.string (t.extract 1 t.size)) W := by
    intro W
    rw [run_slice_string_from_if (P := Tryd.prog) (w := W) 9 t .i64 _ Tryd.underlying9, if_pos (by omega)]
    rfl
  have z1 : (t.extract 1 t.size).size = 320 := by rw [ByteArray.size_extract]; omega
  have z2 : (t.extract 129 t.size).size = 192 := by rw [ByteArray.size_extract]; omega
  have z3 : (t.extract 257 t.size).size = 64 := by rw [ByteArray.size_extract]; omega
  have HC1 : Hid (∀ W, Calls Tryd.prog 88 #[.string (t.extract 1 t.size), .int .i64 8] W fun e w' => ∃ g, e = .returned (.tuple #[.slice (some ⟨g, 0, none⟩) 8 8, .string (t.extract 129 t.size)]) ∧ W.heap.size ≤ g ∧ TB w' g (cutL t 1 8) ∧ Below W.heap.size W w') := fun W => by
    have := cutKeys_any (t.extract 1 t.size) 8 8 W rfl (by omega) (by omega) (by omega)
    rw [cutL_tail t 1 0 8 (by omega), tail_tail t 1 (8 * 16) (by omega)] at this
    exact this
  have HC2 : Hid (∀ W, Calls Tryd.prog 88 #[.string (t.extract 129 t.size), .int .i64 8] W fun e w' => ∃ g, e = .returned (.tuple #[.slice (some ⟨g, 0, none⟩) 8 8, .string (t.extract 257 t.size)]) ∧ W.heap.size ≤ g ∧ TB w' g (cutL t 129 8) ∧ Below W.heap.size W w') := fun W => by
    have := cutKeys_any (t.extract 129 t.size) 8 8 W rfl (by omega) (by omega) (by omega)
    rw [cutL_tail t 129 0 8 (by omega), tail_tail t 129 (8 * 16) (by omega)] at this
    exact this
  have HC3 : Hid (∀ W, Calls Tryd.prog 88 #[.string (t.extract 257 t.size), .int .i64 4] W fun e w' => ∃ g, ∃ u, e = .returned (.tuple #[.slice (some ⟨g, 0, none⟩) 4 4, .string u]) ∧ W.heap.size ≤ g ∧ TB w' g (cutL t 257 4) ∧ Below W.heap.size W w') := fun W => by
    have := cutKeys_any (t.extract 257 t.size) 4 4 W rfl (by omega) (by omega) (by omega)
    rw [cutL_tail t 257 0 4 (by omega)] at this
    exact this.mono fun e w' ⟨g, he, h⟩ => ⟨g, _, he, h⟩
  have HLN : Hid ((cutL t 1 8).length = 8 ∧ (cutL t 129 8).length = 8 ∧ (cutL t 257 4).length = 4) := ⟨cutL_len _ _ _, cutL_len _ _ _, cutL_len _ _ _⟩
  have q : ((t.size : Int) != 321) = false := by simp; omega
  generalize cutL t 1 8 = L1 at *
  generalize cutL t 129 8 = L2 at *
  generalize cutL t 257 4 = L3 at *
  generalize t.extract 1 t.size = T1 at *
  generalize t.extract 129 t.size = T2 at *
  generalize t.extract 257 t.size = T3 at *
  generalize b0 t = b at *
  have hb : b.toNat < 256 := b.toNat_lt
  clear z1 z2 z3
  go_enter Tryd.func20, Tryd.ntmps20
  go_wp2_with fail
  refine (inPool_f _ _).mono ?_
  rintro e w0 ⟨rfl, rfl⟩
  rw [hd]
  have hS0 : SgM (w.alloc (.cells zSig 26)) w.heap.size 0 (.slice none 0 0) (.slice none 0 0) (.slice none 0 0) := SgM.new w 0 _ _ _
  have bb0 : Below w.heap.size w (w.alloc (.cells zSig 26)) := (Below.refl _ _).alloc (Nat.le_refl _) _
  have hsz : (w.alloc (.cells zSig 26)).heap.size = w.heap.size + 1 := by simp
  have HS0 : Hid (SgM (w.alloc (.cells zSig 26)) w.heap.size 0 (.slice none 0 0) (.slice none 0 0) (.slice none 0 0) ∧ Below w.heap.size w (w.alloc (.cells zSig 26)) ∧ (w.alloc (.cells zSig 26)).heap.size = w.heap.size + 1) := ⟨hS0, bb0, hsz⟩
  clear hS0 bb0 hsz hd
  go_wp2_with fail
  refine (HC1.out _).mono ?_
  rintro e w1 ⟨g1, rfl, hg1, ht1, hb1⟩
  obtain ⟨hS0, bb0, hsz⟩ := HS0.out
  have hS1 := hS0.later hb1
  have b1 := bb0.trans (hb1.mono bb0.size)
  have hg1' : w.heap.size + 1 ≤ g1 := by rw [← hsz]; exact hg1
  have hl1 := ht1.lt
  have hts1 := ht1.ts 8 8 HLN.out.1 (by omega)
  have HA1 : Hid (SgM w1 w.heap.size 0 (.slice none 0 0) (.slice none 0 0) (.slice none 0 0) ∧ Below w.heap.size w w1 ∧ TS w1 (.slice (some ⟨g1, 0, none⟩) 8 8) g1 L1) := ⟨hS1, b1, hts1⟩
  clear hS0 bb0 hsz hS1 b1 hts1 hb1 ht1 hg1 HS0 HC1
  go_wp2_with fail
  refine (HC2.out _).mono ?_
  rintro e w2 ⟨g2, rfl, hg2, ht2, hb2⟩
  obtain ⟨hS1, b1, hts1⟩ := HA1.out
  have hS2 := hS1.later hb2
  have b2 := b1.trans (hb2.mono b1.size)
  have hl2 := ht2.lt
  have HA2 : Hid (SgM w2 w.heap.size 0 (.slice none 0 0) (.slice none 0 0) (.slice none 0 0) ∧ Below w.heap.size w w2 ∧ TS w2 (.slice (some ⟨g1, 0, none⟩) 8 8) g1 L1 ∧ TS w2 (.slice (some ⟨g2, 0, none⟩) 8 8) g2 L2) := ⟨hS2, b2, hts1.later hb2, ht2.ts 8 8 HLN.out.2.1 (by omega)⟩
  clear hS1 b1 hts1 hS2 b2 hb2 ht2 HA1 HC2
  go_wp2_with fail
  refine (HC3.out _).mono ?_
  rintro e w3 ⟨g3, u3, rfl, hg3, ht3, hb3⟩
  obtain ⟨hS2, b2, hts1, hts2⟩ := HA2.out
  have hS3 := hS2.later hb3
  have b3 := b2.trans (hb3.mono b2.size)
  have HA3 : Hid (SgM w3 w.heap.size 0 (.slice none 0 0) (.slice none 0 0) (.slice none 0 0) ∧ Below w.heap.size w w3 ∧ TS w3 (.slice (some ⟨g1, 0, none⟩) 8 8) g1 L1 ∧ TS w3 (.slice (some ⟨g2, 0, none⟩) 8 8) g2 L2 ∧ TS w3 (.slice (some ⟨g3, 0, none⟩) 4 4) g3 L3) := ⟨hS3, b3, hts1.later hb3, hts2.later hb3, ht3.ts 4 4 HLN.out.2.2 (by omega)⟩
  clear hS2 b2 hts1 hts2 hS3 b3 hb3 ht3 HA2 HC3
  go_wp2_with (refine wp_storeSig rfl _ _ rfl w.heap.size 0 _ _ _ _ _ _ _ HA3.out.1 rfl rfl rfl rfl rfl ?_; intro hfin)
  refine ret_sig2 2 3 w.heap.size _ _ _ _ _ rfl rfl rfl rfl hfin ?_
  obtain ⟨_, b3, hts1, hts2, hts3⟩ := HA3.out
  have hgr := grown_setRow w3 w.heap.size #[.int .i64 (b.toNat : Int), .slice (some ⟨g1, 0, none⟩) 8 8, .slice (some ⟨g2, 0, none⟩) 8 8, .slice (some ⟨g3, 0, none⟩) 4 4]
  refine ⟨_, rfl, ⟨_, _, _, g1, g2, g3, rfl, ⟨hts1.keptG hgr (fun _ => ?_), hts2.keptG hgr (fun _ => ?_), hts3.keptG hgr (fun _ => ?_)⟩, ⟨by omega, by omega, by omega⟩, ⟨by omega, by omega, by omega⟩⟩, b3.grown hgr b3.size (fun k hk => by simp at hk; omega)⟩
  · simp; omega
  · simp; omega
  · simp; omega

end Go.Proofs.YtmfoliocibjdnaaDoor
/-
  What ReadSig answers at any text, the program's and the specification's.
-/
namespace Go.Proofs.YtmfoliocibjdnaaDoor
open Go.RowKit Go.BigFrame
set_option linter.unusedVariables false

theorem ReadSig_no (t : ByteArray) (w : World) (ht : t.size ≤ 1048576) (h : ¬ (t.size = 321 ∧ (b0 t).toNat ≤ 15)) :
    Calls Tryd.prog 20 #[.string t] w fun e w' => ∃ v, e = .returned (.tuple #[v, .bool false]) ∧ SigIn w' w.heap.size v 0 [] [] [] ∧ Below w.heap.size w w' := by
  have HF : Hid (SgM ((w.alloc (.cells zSig 26))) w.heap.size 0 (.slice none 0 0) (.slice none 0 0) (.slice none 0 0)) := SgM.new w 0 _ _ _
  by_cases h1 : t.size = 321
  · have hh := run_b0 t (by omega)
    have hd : decide ((0 : Int) ≤ ((b0 t).toNat : Int) ∧ ((b0 t).toNat : Int) ≤ 15) = false := by simp; omega
    have q : ((t.size : Int) != 321) = false := by simp; omega
    clear h
    generalize b0 t = b at *
    have hb : b.toNat < 256 := b.toNat_lt
    go_enter Tryd.func20, Tryd.ntmps20
    go_wp2_with fail
    refine (inPool_f _ _).mono ?_
    rintro e w0 ⟨rfl, rfl⟩
    rw [hd]
    go_wp2_with (refine wp_storeSig rfl _ _ rfl w.heap.size 0 _ _ _ _ _ _ _ HF.out rfl rfl rfl rfl rfl ?_; intro hfin)
    refine ret_sig2 2 3 w.heap.size _ _ _ _ _ rfl rfl rfl rfl hfin ?_
    exact ⟨_, rfl, SigIn.zero _ _, ((Below.refl _ _).alloc (Nat.le_refl _) _).grown (grown_setRow _ w.heap.size _) (by simp) (fun k hk => by simp at hk; omega)⟩
  · have q : ((t.size : Int) != 321) = true := by simp; omega
    clear h h1
    go_enter Tryd.func20, Tryd.ntmps20
    go_wp2_with (refine wp_storeSig rfl _ _ rfl w.heap.size 0 _ _ _ _ _ _ _ HF.out rfl rfl rfl rfl rfl ?_; intro hfin)
    refine ret_sig2 2 3 w.heap.size _ _ _ _ _ rfl rfl rfl rfl hfin ?_
    exact ⟨_, rfl, SigIn.zero _ _, ((Below.refl _ _).alloc (Nat.le_refl _) _).grown (grown_setRow _ w.heap.size _) (by simp) (fun k hk => by simp at hk; omega)⟩

theorem ReadSig_any (t : ByteArray) (w : World) (ht : t.size ≤ 1048576) :
    Calls Tryd.prog 20 #[.string t] w fun e w' => ∃ v, e = .returned (.tuple #[v, .bool (rsOk t)]) ∧ SigIn w' w.heap.size v (rsA t) (rsO t) (rsS t) (rsD t) ∧ Below w.heap.size w w' := by
  unfold rsA rsO rsS rsD
  by_cases h : t.size = 321 ∧ (b0 t).toNat ≤ 15
  · have e : rsOk t = true := decide_eq_true h
    rw [e]
    exact ReadSig_yes t w h.1 h.2
  · have e : rsOk t = false := decide_eq_false h
    rw [e]
    exact ReadSig_no t w ht h

theorem sReadSig_no (t : ByteArray) (w : World) (ht : t.size ≤ 1048576) (h : ¬ (t.size = 321 ∧ (b0 t).toNat ≤ 15)) :
    Calls Tryd.prog 34 #[.string t] w fun e w' => ∃ v, e = .returned (.tuple #[v, .bool false]) ∧ SigIn w' w.heap.size v 0 [] [] [] ∧ Below w.heap.size w w' := by
  have HF : Hid (SgM ((w.alloc (.cells zSig 26))) w.heap.size 0 (.slice none 0 0) (.slice none 0 0) (.slice none 0 0)) := SgM.new w 0 _ _ _
  by_cases h1 : t.size = 321
  · have hh := run_b0 t (by omega)
    have q : ((t.size : Int) != 321) = false := by simp; omega
    have h2 : 15 < (b0 t).toNat := by omega
    clear h
    generalize b0 t = b at *
    have hb : b.toNat < 256 := b.toNat_lt
    have q2 : (16 : Int) ≤ (b.toNat : Int) := by omega
    go_enter Tryd.func34, Tryd.ntmps34
    go_wp2_with (refine wp_storeSig rfl _ _ rfl w.heap.size 0 _ _ _ _ _ _ _ HF.out rfl rfl rfl rfl rfl ?_; intro hfin)
    refine ret_sig2 2 3 w.heap.size _ _ _ _ _ rfl rfl rfl rfl hfin ?_
    exact ⟨_, rfl, SigIn.zero _ _, ((Below.refl _ _).alloc (Nat.le_refl _) _).grown (grown_setRow _ w.heap.size _) (by simp) (fun k hk => by simp at hk; omega)⟩
  · have q : ((t.size : Int) != 321) = true := by simp; omega
    clear h h1
    go_enter Tryd.func34, Tryd.ntmps34
    go_wp2_with (refine wp_storeSig rfl _ _ rfl w.heap.size 0 _ _ _ _ _ _ _ HF.out rfl rfl rfl rfl rfl ?_; intro hfin)
    refine ret_sig2 2 3 w.heap.size _ _ _ _ _ rfl rfl rfl rfl hfin ?_
    exact ⟨_, rfl, SigIn.zero _ _, ((Below.refl _ _).alloc (Nat.le_refl _) _).grown (grown_setRow _ w.heap.size _) (by simp) (fun k hk => by simp at hk; omega)⟩

/-- what stands behind each field that was cut -/
def SrH (w w1 : World) (x : Int) (v1 v2 v3 : Value) : Prop := SgM w1 w.heap.size 0 (.slice none 0 0) (.slice none 0 0) (.slice none 0 0) ∧ SgM w1 (w.heap.size + 1) x v1 v2 v3 ∧ Below w.heap.size w w1
theorem SrH.later {w w1 w2 : World} {x : Int} {v1 v2 v3 : Value} (h : SrH w w1 x v1 v2 v3) (hb : Below w1.heap.size w1 w2) : SrH w w2 x v1 v2 v3 := ⟨h.1.later hb, h.2.1.later hb, h.2.2.trans (hb.mono h.2.2.size)⟩

set_option maxRecDepth 100000 in
set_option maxHeartbeats 1000000 in
theorem sReadSig_yes (t : ByteArray) (w : World) (h1 : t.size = 321) (h2 : (b0 t).toNat ≤ 15) :
    Calls Tryd.prog 34 #[.string t] w fun e w' => ∃ v, e = .returned (.tuple #[v, .bool true]) ∧ SigIn w' w.heap.size v ((b0 t).toNat : Int) (cutL t 1 8) (cutL t 129 8) (cutL t 257 4) ∧ Below w.heap.size w w' := by
  have hh := run_b0 t (by omega)
  have HC1 : Hid (∀ W, Calls Tryd.prog 102 #[.string t, .int .i64 1, .int .i64 8] W fun e w' => ∃ v, e = .returned v ∧ OS W.heap.size W w' v (cutL t 1 8)) := fun W => l05Cut_any t 1 8 1 8 W rfl rfl (by omega) (by omega) (by omega)
  have HC2 : Hid (∀ W, Calls Tryd.prog 102 #[.string t, .int .i64 129, .int .i64 8] W fun e w' => ∃ v, e = .returned v ∧ OS W.heap.size W w' v (cutL t 129 8)) := fun W => l05Cut_any t 129 8 129 8 W rfl rfl (by omega) (by omega) (by omega)
  have HC3 : Hid (∀ W, Calls Tryd.prog 102 #[.string t, .int .i64 257, .int .i64 4] W fun e w' => ∃ v, e = .returned v ∧ OS W.heap.size W w' v (cutL t 257 4)) := fun W => l05Cut_any t 257 4 257 4 W rfl rfl (by omega) (by omega) (by omega)
  have HLN : Hid ((cutL t 1 8).length = 8 ∧ (cutL t 129 8).length = 8 ∧ (cutL t 257 4).length = 4) := ⟨cutL_len _ _ _, cutL_len _ _ _, cutL_len _ _ _⟩
  have q : ((t.size : Int) != 321) = false := by simp; omega
  generalize cutL t 1 8 = L1 at *
  generalize cutL t 129 8 = L2 at *
  generalize cutL t 257 4 = L3 at *
  generalize b0 t = b at *
  have hb : b.toNat < 256 := b.toNat_lt
  have q2 : ¬ ((16 : Int) ≤ (b.toNat : Int)) := by omega
  have HA0 : Hid (SrH w ((w.alloc (.cells zSig 26)).alloc (.cells #[.int .i64 (b.toNat : Int), .slice none 0 0, .slice none 0 0, .slice none 0 0] 26)) (b.toNat : Int) (.slice none 0 0) (.slice none 0 0) (.slice none 0 0)) := by
    have e : (w.alloc (.cells zSig 26)).heap.size = w.heap.size + 1 := by simp
    refine ⟨(SgM.new w 0 _ _ _).later ((Below.refl _ _).alloc (Nat.le_refl _) _), ?_, ((Below.refl _ _).alloc (Nat.le_refl _) _).alloc (by simp) _⟩
    have := SgM.new (w.alloc (.cells zSig 26)) (b.toNat : Int) (.slice none 0 0) (.slice none 0 0) (.slice none 0 0)
    rw [e] at this
    exact this
  go_enter Tryd.func34, Tryd.ntmps34
  go_wp2_with fail
  refine (HC1.out _).mono ?_
  rintro e w1 ⟨V1, rfl, hos1⟩
  obtain ⟨a1, k1, hv1⟩ := own_slice hos1.1
  rw [HLN.out.1] at hv1
  subst hv1
  have hA1 := HA0.out.later hos1.2.1
  have c1 := hA1.2.1.c1
  have f1 := hA1.2.1.fr 1
  obtain ⟨g1, hts1, hg1⟩ := hos1.ts (by rw [HLN.out.1]; omega)
  have hg1' : w.heap.size + 2 ≤ g1 := by simpa using hg1
  have hl1 := hts1.lt (by rw [HLN.out.1]; omega)
  have hgr1 := grown_set w1 (w.heap.size + 1) 1 (.slice a1 8 k1)
  have HA1 : Hid (SrH w (w1.setCell ⟨w.heap.size + 1, 1, none⟩ (.slice a1 8 k1)) (b.toNat : Int) (.slice a1 8 k1) (.slice none 0 0) (.slice none 0 0) ∧ TS (w1.setCell ⟨w.heap.size + 1, 1, none⟩ (.slice a1 8 k1)) (.slice a1 8 k1) g1 L1) :=
    ⟨⟨hA1.1.keptG hgr1 (by simp), hA1.2.1.set1 (.slice a1 8 k1), hA1.2.2.setCell (p := ⟨w.heap.size + 1, 1, none⟩) (by simp) _⟩, hts1.keptG hgr1 (fun _ => by simp; omega)⟩
  have hsz1 : (w1.setCell ⟨w.heap.size + 1, 1, none⟩ (.slice a1 8 k1)).heap.size = w1.heap.size := by simp
  clear hA1 hos1 hts1 hg1 hgr1 HC1 HA0
  go_wp2_with fail
  refine (HC2.out _).mono ?_
  rintro e w2 ⟨V2, rfl, hos2⟩
  obtain ⟨a2, k2, hv2⟩ := own_slice hos2.1
  rw [HLN.out.2.1] at hv2
  subst hv2
  have hA2 := HA1.out.1.later hos2.2.1
  have ht12 := HA1.out.2.later hos2.2.1
  have c2 := hA2.2.1.c2
  have f2 := hA2.2.1.fr 2
  obtain ⟨g2, hts2, hg2⟩ := hos2.ts (by rw [HLN.out.2.1]; omega)
  rw [hsz1] at hg2
  have hl2 := hts2.lt (by rw [HLN.out.2.1]; omega)
  have hgr2 := grown_set w2 (w.heap.size + 1) 2 (.slice a2 8 k2)
  have HA2 : Hid (SrH w (w2.setCell ⟨w.heap.size + 1, 2, none⟩ (.slice a2 8 k2)) (b.toNat : Int) (.slice a1 8 k1) (.slice a2 8 k2) (.slice none 0 0) ∧ TS (w2.setCell ⟨w.heap.size + 1, 2, none⟩ (.slice a2 8 k2)) (.slice a1 8 k1) g1 L1 ∧ TS (w2.setCell ⟨w.heap.size + 1, 2, none⟩ (.slice a2 8 k2)) (.slice a2 8 k2) g2 L2) :=
    ⟨⟨hA2.1.keptG hgr2 (by simp), hA2.2.1.set2 (.slice a2 8 k2), hA2.2.2.setCell (p := ⟨w.heap.size + 1, 2, none⟩) (by simp) _⟩, ht12.keptG hgr2 (fun _ => by simp; omega), hts2.keptG hgr2 (fun _ => by simp; omega)⟩
  have hsz2 : (w2.setCell ⟨w.heap.size + 1, 2, none⟩ (.slice a2 8 k2)).heap.size = w2.heap.size := by simp
  clear hA2 hos2 hts2 ht12 hgr2 HC2 HA1 hsz1 c1 f1
  go_wp2_with fail
  refine (HC3.out _).mono ?_
  rintro e w3 ⟨V3, rfl, hos3⟩
  obtain ⟨a3, k3, hv3⟩ := own_slice hos3.1
  rw [HLN.out.2.2] at hv3
  subst hv3
  have hA3 := HA2.out.1.later hos3.2.1
  have ht13 := HA2.out.2.1.later hos3.2.1
  have ht23 := HA2.out.2.2.later hos3.2.1
  have c3 := hA3.2.1.c3
  have f3 := hA3.2.1.fr 3
  obtain ⟨g3, hts3, hg3⟩ := hos3.ts (by rw [HLN.out.2.2]; omega)
  rw [hsz2] at hg3
  have hgr3 := grown_set w3 (w.heap.size + 1) 3 (.slice a3 4 k3)
  have HA3 : Hid (SrH w (w3.setCell ⟨w.heap.size + 1, 3, none⟩ (.slice a3 4 k3)) (b.toNat : Int) (.slice a1 8 k1) (.slice a2 8 k2) (.slice a3 4 k3) ∧ TS (w3.setCell ⟨w.heap.size + 1, 3, none⟩ (.slice a3 4 k3)) (.slice a1 8 k1) g1 L1 ∧ TS (w3.setCell ⟨w.heap.size + 1, 3, none⟩ (.slice a3 4 k3)) (.slice a2 8 k2) g2 L2 ∧ TS (w3.setCell ⟨w.heap.size + 1, 3, none⟩ (.slice a3 4 k3)) (.slice a3 4 k3) g3 L3) :=
    ⟨⟨hA3.1.keptG hgr3 (by simp), hA3.2.1.set3 (.slice a3 4 k3), hA3.2.2.setCell (p := ⟨w.heap.size + 1, 3, none⟩) (by simp) _⟩, ht13.keptG hgr3 (fun _ => by simp; omega), ht23.keptG hgr3 (fun _ => by simp; omega), hts3.keptG hgr3 (fun _ => by simp; omega)⟩
  clear hA3 hos3 hts3 ht13 ht23 hgr3 HC3 HA2 hsz2 c2 f2
  go_wp2_with (first | (refine wp_loadSig rfl _ rfl (w.heap.size + 1) _ (.slice a1 8 k1) (.slice a2 8 k2) (.slice a3 4 k3) rfl HA3.out.1.2.1 ?_) | (refine wp_storeSig rfl _ _ rfl w.heap.size 0 _ _ _ _ (.slice a1 8 k1) (.slice a2 8 k2) (.slice a3 4 k3) HA3.out.1.1 rfl rfl rfl rfl rfl ?_; intro hfin))
  refine ret_sig2 2 3 w.heap.size _ _ _ _ _ rfl rfl rfl rfl hfin ?_
  obtain ⟨⟨_, _, b3⟩, hts1, hts2, hts3⟩ := HA3.out
  have hgr := grown_setRow (w3.setCell ⟨w.heap.size + 1, 3, none⟩ (.slice a3 4 k3)) w.heap.size #[.int .i64 (b.toNat : Int), (.slice a1 8 k1), (.slice a2 8 k2), (.slice a3 4 k3)]
  refine ⟨_, rfl, ⟨(.slice a1 8 k1), (.slice a2 8 k2), (.slice a3 4 k3), g1, g2, g3, rfl, ⟨hts1.keptG hgr (fun _ => ?_), hts2.keptG hgr (fun _ => ?_), hts3.keptG hgr (fun _ => ?_)⟩, ⟨by omega, by omega, by omega⟩, ⟨by omega, by omega, by omega⟩⟩, b3.grown hgr b3.size (fun k hk => by simp at hk; omega)⟩
  · simp; omega
  · simp; omega
  · simp; omega

theorem sReadSig_any (t : ByteArray) (w : World) (ht : t.size ≤ 1048576) :
    Calls Tryd.prog 34 #[.string t] w fun e w' => ∃ v, e = .returned (.tuple #[v, .bool (rsOk t)]) ∧ SigIn w' w.heap.size v (rsA t) (rsO t) (rsS t) (rsD t) ∧ Below w.heap.size w w' := by
  unfold rsA rsO rsS rsD
  by_cases h : t.size = 321 ∧ (b0 t).toNat ≤ 15
  · have e : rsOk t = true := decide_eq_true h
    rw [e]
    exact sReadSig_yes t w h.1 h.2
  · have e : rsOk t = false := decide_eq_false h
    rw [e]
    exact sReadSig_no t w ht h

end Go.Proofs.YtmfoliocibjdnaaDoor
/-
  What the laws' own helpers do with signatures: measured, taken over, compared, marked, held.
-/
namespace Go.Proofs.YtmfoliocibjdnaaDoor
open Go.RowKit Go.BigFrame
set_option linter.unusedVariables false

def SzT (n : Nat) (w : World) (x i : Value) (wr : World) : Prop := ∃ (m : Nat) (y : Int), m ≤ n ∧ i = .int .i64 m ∧ x = .int .i64 y ∧ (0 ≤ y ∧ y ≤ 1048576) ∧ wr = w

set_option maxRecDepth 100000 in
set_option maxHeartbeats 400000 in
theorem szS_row (a : Option Addr) (n cap : Nat) (ss : List ByteArray) (x : Int) (w : World) (hr : IsRowS w a n cap ss) (h0 : 0 ≤ x) (hx : x ≤ 1048576) :
    Calls Tryd.prog 64 #[.slice a n cap, .int .i64 x] w fun e w' => (∃ A : Int, e = .returned (.int .i64 A) ∧ (-1 ≤ A ∧ A ≤ 1048576) ∧ (0 ≤ A → n ≤ 1048576)) ∧ w' = w := by
  have hm := hr.len
  unfold maxLen at hm
  by_cases hb : x < (n : Int)
  · have q : (x - (n : Int) < 0) := by omega
    go_enter Tryd.func64, Tryd.ntmps64
    go_wp2
    go_ret
    exact ⟨⟨-1, rfl, by omega, fun h => by omega⟩, rfl⟩
  · obtain ⟨g, o, l, hl, hs, hz⟩ := ss_of_row hr (by omega)
    obtain ⟨a', cap', hv, _, hA, hc⟩ := hs
    rw [hl] at hv
    simp at hv
    obtain ⟨rfl, rfl⟩ := hv
    have HA : Hid (0 < n → a = some ⟨g, o, none⟩) := by rw [← hl]; exact hA
    have HC : Hid (∀ j (h : j < n), ∃ X : ByteArray, X.size ≤ 9223372036854775807 ∧ w.cell? ⟨g, o + j, none⟩ = some (.string X)) := fun j hj =>
      ⟨l[j]'(by omega), by have := hz (l[j]'(by omega)) (List.getElem_mem _); unfold maxLen at this; omega, hc j (by omega)⟩
    have HST : Hid (SzT n w (.int .i64 (x - (n : Int))) (.int .i64 0) w) := ⟨0, _, by omega, rfl, rfl, by omega, rfl⟩
    have q : ¬ (x - (n : Int) < 0) := by omega
    clear hA hc hl hz hr
    go_enter Tryd.func64, Tryd.ntmps64
    go_wp2
    go_loopw [1, 5] (fun x i wr => SzT n w x i wr) (fun _ i _ => n - (intOf i).toNat)
    case atStart => exact HST.out
    case round =>
      obtain ⟨m, y, hmn, rfl, rfl, hy, rfl⟩ := hrel
      clear HST
      by_cases hlt : m < n
      · obtain ⟨X, hX, c0⟩ := HC.out m hlt
        have ea := HA.out (by omega)
        subst ea
        have i1 : (m : Int) < (n : Int) := by omega
        have i2 : (0 : Int) ≤ (m : Int) := by omega
        clear HC HA
        by_cases hx : y - (X.size : Int) < 0
        · go_wp2
          go_ret
          exact ⟨⟨-1, rfl, by omega, fun h => by omega⟩, rfl⟩
        · go_wp2
          go_roundw
          case rel => exact ⟨m + 1, _, by omega, by go_num, rfl, by omega, rfl⟩
          case measure => simp [intOf]; omega
      · have hme : m = n := by omega
        subst hme
        clear HC HA
        go_wp2
        go_ret
        exact ⟨⟨y, rfl, by omega, fun h => by omega⟩, rfl⟩

set_option maxRecDepth 100000 in
set_option maxHeartbeats 1000000 in
theorem szSig_at (a : Int) (a1 a2 a3 : Option Addr) (n1 n2 n3 k1 k2 k3 : Nat) (z1 z2 z3 : List ByteArray) (x : Int) (w : World) (hx0 : 0 ≤ x) (hx1 : x ≤ 1048576) (h1 : IsRowS w a1 n1 k1 z1) (h2 : IsRowS w a2 n2 k2 z2) (h3 : IsRowS w a3 n3 k3 z3) :
    Calls Tryd.prog 61 #[.agg #[.int .i64 a, .slice a1 n1 k1, .slice a2 n2 k2, .slice a3 n3 k3], .int .i64 x] w fun e w' => ∃ A : Int, e = .returned (.int .i64 A) ∧ Below w.heap.size w w' ∧ (0 ≤ A → n1 ≤ 1048576 ∧ n2 ≤ 1048576 ∧ n3 ≤ 1048576) := by
  have hrow : ∀ (x : Option Addr) (n k : Nat) (z : List ByteArray), IsRowS w x n k z → IsRowS (w.alloc (.cells #[.int .i64 a, .slice a1 n1 k1, .slice a2 n2 k2, .slice a3 n3 k3] 73)) x n k z := by
    intro x n k z h
    rcases h with h | ⟨p, rfl, hl, hm, hlz, hc, hz⟩
    · exact .inl h
    · refine .inr ⟨p, rfl, hl, hm, hlz, fun i hi => ?_, hz⟩
      have h4 := hc i hi
      have hlt : (p.add i).block < w.heap.size := by
        rcases Nat.lt_or_ge (p.add i).block w.heap.size with h5 | h5
        · exact h5
        · simp [World.cell?, Array.getElem?_eq_none h5] at h4
      exact (((Below.refl w.heap.size w).alloc (Nat.le_refl _) _).cell hlt).trans h4
  have H1 : Hid (∀ x : Int, 0 ≤ x → x ≤ 1048576 → Calls Tryd.prog 64 #[.slice a1 n1 k1, .int .i64 x] (w.alloc (.cells #[.int .i64 a, .slice a1 n1 k1, .slice a2 n2 k2, .slice a3 n3 k3] 73)) fun e w' => (∃ A : Int, e = .returned (.int .i64 A) ∧ (-1 ≤ A ∧ A ≤ 1048576) ∧ (0 ≤ A → n1 ≤ 1048576)) ∧ w' = (w.alloc (.cells #[.int .i64 a, .slice a1 n1 k1, .slice a2 n2 k2, .slice a3 n3 k3] 73))) := fun x h0 hx => szS_row a1 n1 k1 z1 x _ (hrow _ _ _ _ h1) h0 hx
  have H2 : Hid (∀ x : Int, 0 ≤ x → x ≤ 1048576 → Calls Tryd.prog 64 #[.slice a2 n2 k2, .int .i64 x] (w.alloc (.cells #[.int .i64 a, .slice a1 n1 k1, .slice a2 n2 k2, .slice a3 n3 k3] 73)) fun e w' => (∃ A : Int, e = .returned (.int .i64 A) ∧ (-1 ≤ A ∧ A ≤ 1048576) ∧ (0 ≤ A → n2 ≤ 1048576)) ∧ w' = (w.alloc (.cells #[.int .i64 a, .slice a1 n1 k1, .slice a2 n2 k2, .slice a3 n3 k3] 73))) := fun x h0 hx => szS_row a2 n2 k2 z2 x _ (hrow _ _ _ _ h2) h0 hx
  have H3 : Hid (∀ x : Int, 0 ≤ x → x ≤ 1048576 → Calls Tryd.prog 64 #[.slice a3 n3 k3, .int .i64 x] (w.alloc (.cells #[.int .i64 a, .slice a1 n1 k1, .slice a2 n2 k2, .slice a3 n3 k3] 73)) fun e w' => (∃ A : Int, e = .returned (.int .i64 A) ∧ (-1 ≤ A ∧ A ≤ 1048576) ∧ (0 ≤ A → n3 ≤ 1048576)) ∧ w' = (w.alloc (.cells #[.int .i64 a, .slice a1 n1 k1, .slice a2 n2 k2, .slice a3 n3 k3] 73))) := fun x h0 hx => szS_row a3 n3 k3 z3 x _ (hrow _ _ _ _ h3) h0 hx
  have HB : Hid (Below w.heap.size w (w.alloc (.cells #[.int .i64 a, .slice a1 n1 k1, .slice a2 n2 k2, .slice a3 n3 k3] 73))) := (Below.refl _ _).alloc (Nat.le_refl _) _
  clear hrow h1 h2 h3
  go_enter Tryd.func61, Tryd.ntmps61
  go_wp2_with fail
  refine (H1.out _ (by omega) (by omega)).mono ?_
  rintro e w' ⟨⟨A1, rfl, hA1, HN1⟩, rfl⟩
  by_cases hn1 : A1 < 0
  · go_wp2
    go_ret
    exact ⟨-1, rfl, HB.out, fun h => by omega⟩
  · go_wp2_with fail
    refine (H2.out _ (by omega) (by omega)).mono ?_
    rintro e w' ⟨⟨A2, rfl, hA2, HN2⟩, rfl⟩
    by_cases hn2 : A2 < 0
    · go_wp2
      go_ret
      exact ⟨-1, rfl, HB.out, fun h => by omega⟩
    · go_wp2_with fail
      refine (H3.out _ (by omega) (by omega)).mono ?_
      rintro e w' ⟨⟨A3, rfl, hA3, HN3⟩, rfl⟩
      by_cases hn3 : A3 < 0
      · go_wp2
        go_ret
        exact ⟨-1, rfl, HB.out, fun h => by omega⟩
      · have K := And.intro (HN1 (by omega)) (And.intro (HN2 (by omega)) (HN3 (by omega)))
        clear HN1 HN2 HN3
        go_wp2
        go_ret
        exact ⟨A3, rfl, HB.out, fun _ => K⟩

theorem szSig_row (a : Int) (a1 a2 a3 : Option Addr) (n1 n2 n3 k1 k2 k3 : Nat) (z1 z2 z3 : List ByteArray) (w : World) (h1 : IsRowS w a1 n1 k1 z1) (h2 : IsRowS w a2 n2 k2 z2) (h3 : IsRowS w a3 n3 k3 z3) :
    Calls Tryd.prog 61 #[.agg #[.int .i64 a, .slice a1 n1 k1, .slice a2 n2 k2, .slice a3 n3 k3], .int .i64 1048576] w fun e w' => ∃ A : Int, e = .returned (.int .i64 A) ∧ Below w.heap.size w w' ∧ (0 ≤ A → n1 ≤ 1048576 ∧ n2 ≤ 1048576 ∧ n3 ≤ 1048576) :=
  szSig_at a a1 a2 a3 n1 n2 n3 k1 k2 k3 z1 z2 z3 1048576 w (by omega) (by omega) h1 h2 h3

set_option maxRecDepth 100000 in
set_option maxHeartbeats 1000000 in
theorem eqSig_yes (a : Int) (v1 v2 v3 u1 u2 u3 : Value) (g1 o1 g2 o2 g3 o3 p1 q1 p2 q2 p3 q3 : Nat) (o s d : List ByteArray) (w : World) (h1 : SS w v1 g1 o1 o) (h2 : SS w v2 g2 o2 s) (h3 : SS w v3 g3 o3 d) (k1 : SS w u1 p1 q1 o) (k2 : SS w u2 p2 q2 s) (k3 : SS w u3 p3 q3 d) :
    Calls Tryd.prog 63 #[.agg #[.int .i64 a, v1, v2, v3], .agg #[.int .i64 a, u1, u2, u3]] w fun e w' => e = .returned (.bool true) ∧ Below w.heap.size w w' := by
  have H1 : Hid (∀ W, Below w.heap.size w W → Calls Tryd.prog 71 #[v1, u1] W fun e w' => e = .returned (.bool true) ∧ ∃ q, w' = W.drewN q) := fun W hW => eqStringS_yes v1 u1 g1 o1 p1 q1 o W (h1.below hW h1.lt) (k1.below hW k1.lt)
  have H2 : Hid (∀ W, Below w.heap.size w W → Calls Tryd.prog 71 #[v2, u2] W fun e w' => e = .returned (.bool true) ∧ ∃ q, w' = W.drewN q) := fun W hW => eqStringS_yes v2 u2 g2 o2 p2 q2 s W (h2.below hW h2.lt) (k2.below hW k2.lt)
  have H3 : Hid (∀ W, Below w.heap.size w W → Calls Tryd.prog 71 #[v3, u3] W fun e w' => e = .returned (.bool true) ∧ ∃ q, w' = W.drewN q) := fun W hW => eqStringS_yes v3 u3 g3 o3 p3 q3 d W (h3.below hW h3.lt) (k3.below hW k3.lt)
  have HB : Hid (∀ x y : Obj, Below w.heap.size w ((w.alloc x).alloc y)) := fun x y => ((Below.refl _ _).alloc (Nat.le_refl _) _).alloc (by simp) _
  obtain ⟨_, _, rfl, x1, y1⟩ := h1
  obtain ⟨_, _, rfl, x2, y2⟩ := h2
  obtain ⟨_, _, rfl, x3, y3⟩ := h3
  obtain ⟨_, _, rfl, x4, y4⟩ := k1
  obtain ⟨_, _, rfl, x5, y5⟩ := k2
  obtain ⟨_, _, rfl, x6, y6⟩ := k3
  clear x1 x2 x3 x4 x5 x6 y1 y2 y3 y4 y5 y6
  generalize o.length = n1 at *
  generalize s.length = n2 at *
  generalize d.length = n3 at *
  go_enter Tryd.func63, Tryd.ntmps63
  go_wp2_with fail
  refine (H1.out _ (HB.out _ _)).mono ?_
  rintro e w' ⟨rfl, q1, rfl⟩
  go_wp2_with fail
  refine (H2.out _ (below_drn (HB.out _ _) _)).mono ?_
  rintro e w' ⟨rfl, q2, rfl⟩
  go_wp2_with fail
  refine (H3.out _ (below_drn (HB.out _ _) _)).mono ?_
  rintro e w' ⟨rfl, q3, rfl⟩
  go_wp2
  go_ret
  exact ⟨rfl, below_drn (HB.out _ _) _⟩

/-- behind what was written into three rows alone -/
def Grown3 (w w' : World) (r1 r2 r3 : Option Nat) : Prop := ∃ wa wb, w.grownBy wa r1 ∧ wa.grownBy wb r2 ∧ wb.grownBy w' r3
theorem Grown3.ts {w w' : World} {r1 r2 r3 : Option Nat} {g : Nat} {v : Value} {l : List ByteArray} (h : Grown3 w w' r1 r2 r3) (ht : TS w v g l) (hn : 0 < l.length → some g ≠ r1 ∧ some g ≠ r2 ∧ some g ≠ r3) : TS w' v g l := by
  obtain ⟨wa, wb, ha, hb, hc⟩ := h
  exact ((ht.keptG ha (fun h => (hn h).1)).keptG hb (fun h => (hn h).2.1)).keptG hc (fun h => (hn h).2.2)
theorem Grown3.below {B : Nat} {w0 w w' : World} {r1 r2 r3 : Option Nat} (h : Grown3 w w' r1 r2 r3) (hb : Below B w0 w) (hB : B ≤ w.heap.size) (h1 : ∀ k, r1 = some k → B ≤ k) (h2 : ∀ k, r2 = some k → B ≤ k) (h3 : ∀ k, r3 = some k → B ≤ k) : Below B w0 w' := by
  obtain ⟨wa, wb, ha, hb2, hc⟩ := h
  have hB1 : B ≤ wa.heap.size := Nat.le_trans hB ha.size
  exact ((hb.grown ha hB h1).grown hb2 hB1 h2).grown hc (Nat.le_trans hB1 hb2.size) h3
theorem Grown3.size {w w' : World} {r1 r2 r3 : Option Nat} (h : Grown3 w w' r1 r2 r3) : w.heap.size ≤ w'.heap.size := by
  obtain ⟨wa, wb, ha, hb2, hc⟩ := h
  exact Nat.le_trans ha.size (Nat.le_trans hb2.size hc.size)
theorem rowOf_le {B g : Nat} {l : List ByteArray} (h : B ≤ g) : ∀ k, rowOf g l = some k → B ≤ k := by
  intro k hk
  unfold rowOf at hk
  split at hk
  · cases hk
  · simp at hk
    omega

set_option maxRecDepth 100000 in
set_option maxHeartbeats 1000000 in
theorem markSig_any (a : Int) (v1 v2 v3 : Value) (g1 g2 g3 : Nat) (o s d : List ByteArray) (w : World) (h1 : TS w v1 g1 o) (h2 : TS w v2 g2 s) (h3 : TS w v3 g3 d) (d12 : g1 ≠ g2) (d13 : g1 ≠ g3) (d23 : g2 ≠ g3) :
    Calls Tryd.prog 79 #[.agg #[.int .i64 a, v1, v2, v3], .int .i64 1] w fun e w' => e = .returned (.int .i64 (1 + o.length + s.length + d.length : Nat)) ∧ TS w' v1 g1 (marks 1 o.length) ∧ TS w' v2 g2 (marks (1 + o.length) s.length) ∧ TS w' v3 g3 (marks (1 + o.length + s.length) d.length) ∧ Grown3 w w' (rowOf g1 o) (rowOf g2 s) (rowOf g3 d) := by
  have l1 := h1.len
  have l2 := h2.len
  have l3 := h3.len
  have hB : Below w.heap.size w (w.alloc (.cells #[.int .i64 a, v1, v2, v3] 26)) := (Below.refl _ _).alloc (Nat.le_refl _) _
  have HT : Hid (TS (w.alloc (.cells #[.int .i64 a, v1, v2, v3] 26)) v1 g1 o ∧ TS (w.alloc (.cells #[.int .i64 a, v1, v2, v3] 26)) v2 g2 s ∧ TS (w.alloc (.cells #[.int .i64 a, v1, v2, v3] 26)) v3 g3 d ∧ SgM (w.alloc (.cells #[.int .i64 a, v1, v2, v3] 26)) w.heap.size a v1 v2 v3) := ⟨h1.later hB, h2.later hB, h3.later hB, SgM.new w a v1 v2 v3⟩
  have HB : Hid (Below w.heap.size w (w.alloc (.cells #[.int .i64 a, v1, v2, v3] 26))) := hB
  have HN : Hid ((0 < o.length → w.heap.size ≠ g1) ∧ (0 < s.length → w.heap.size ≠ g2) ∧ (0 < d.length → w.heap.size ≠ g3)) := ⟨fun h => by have := h1.lt h; omega, fun h => by have := h2.lt h; omega, fun h => by have := h3.lt h; omega⟩
  obtain ⟨a1, c1, rfl, _, x1⟩ := h1
  obtain ⟨a2, c2, rfl, _, x2⟩ := h2
  obtain ⟨a3, c3, rfl, _, x3⟩ := h3
  clear hB x1 x2 x3
  go_enter Tryd.func79, Tryd.ntmps79
  go_wp2_with fail
  refine (markStringS_any _ g1 o _ 1 _ rfl HT.out.1 (by omega) (by omega)).mono ?_
  rintro e wa ⟨rfl, ha1, hga⟩
  have ha2 := HT.out.2.1.keptG hga (fun _ => rowOf_ne (fun _ => d12.symm))
  have ha3 := HT.out.2.2.1.keptG hga (fun _ => rowOf_ne (fun _ => d13.symm))
  have hsa := HT.out.2.2.2.keptG hga (rowOf_ne HN.out.1)
  have e2 := hsa.c2
  have HG1 : Hid (w.grownBy wa (rowOf g1 o)) := (grown_below HB.out).trans hga
  have HA : Hid (TS wa (.slice a1 o.length c1) g1 (marks 1 o.length) ∧ TS wa (.slice a2 s.length c2) g2 s ∧ TS wa (.slice a3 d.length c3) g3 d ∧ SgM wa w.heap.size a (.slice a1 o.length c1) (.slice a2 s.length c2) (.slice a3 d.length c3)) := ⟨ha1, ha2, ha3, hsa⟩
  clear ha1 ha2 ha3 hsa hga HT HB
  go_wp2_with fail
  refine (markStringS_any _ g2 s _ (1 + o.length) _ rfl HA.out.2.1 (by omega) (by omega)).mono ?_
  rintro e wb ⟨rfl, hb2, hgb⟩
  have hb1 := HA.out.1.keptG hgb (fun _ => rowOf_ne (fun _ => d12))
  have hb3 := HA.out.2.2.1.keptG hgb (fun _ => rowOf_ne (fun _ => d23.symm))
  have hsb := HA.out.2.2.2.keptG hgb (rowOf_ne HN.out.2.1)
  have e3 := hsb.c3
  have HG2 : Hid (wa.grownBy wb (rowOf g2 s)) := hgb
  have HA2 : Hid (TS wb (.slice a1 o.length c1) g1 (marks 1 o.length) ∧ TS wb (.slice a2 s.length c2) g2 (marks (1 + o.length) s.length) ∧ TS wb (.slice a3 d.length c3) g3 d) := ⟨hb1, hb2, hb3⟩
  clear hb1 hb2 hb3 hsb hgb HA e2
  go_wp2_with fail
  refine (markStringS_any _ g3 d _ (1 + o.length + s.length) _ rfl HA2.out.2.2 (by omega) (by omega)).mono ?_
  rintro e wc ⟨rfl, hc3, hgc⟩
  have hc1 := HA2.out.1.keptG hgc (fun _ => rowOf_ne (fun _ => d13))
  have hc2 := HA2.out.2.1.keptG hgc (fun _ => rowOf_ne (fun _ => d23))
  clear e3
  go_wp2
  go_ret
  exact ⟨rfl, hc1, hc2, hc3, wa, wb, HG1.out, HG2.out, hgc⟩

set_option maxRecDepth 100000 in
set_option maxHeartbeats 1000000 in
theorem heldSig_any (a : Int) (v1 v2 v3 : Value) (g1 g2 g3 n1 n2 n3 : Nat) (w : World) (h1 : TS w v1 g1 (marks 1 n1)) (h2 : TS w v2 g2 (marks (1 + n1) n2)) (h3 : TS w v3 g3 (marks (1 + n1 + n2) n3)) :
    Calls Tryd.prog 80 #[.agg #[.int .i64 a, v1, v2, v3], .int .i64 1] w fun e w' => e = .returned (.int .i64 (1 + n1 + n2 + n3 : Nat)) ∧ Below w.heap.size w w' := by
  have l1 := h1.len
  have l2 := h2.len
  have l3 := h3.len
  rw [marks_len] at l1 l2 l3
  have H1 : Hid (∀ W, Below w.heap.size w W → TS W v1 g1 (marks 1 n1) ∧ TS W v2 g2 (marks (1 + n1) n2) ∧ TS W v3 g3 (marks (1 + n1 + n2) n3)) := fun W hW => ⟨h1.later hW, h2.later hW, h3.later hW⟩
  have hB : Below w.heap.size w (w.alloc (.cells #[.int .i64 a, v1, v2, v3] 26)) := (Below.refl _ _).alloc (Nat.le_refl _) _
  have HB : Hid (Below w.heap.size w (w.alloc (.cells #[.int .i64 a, v1, v2, v3] 26)) ∧ SgM (w.alloc (.cells #[.int .i64 a, v1, v2, v3] 26)) w.heap.size a v1 v2 v3) := ⟨hB, SgM.new w a v1 v2 v3⟩
  obtain ⟨a1, c1, rfl, _, x1⟩ := h1
  obtain ⟨a2, c2, rfl, _, x2⟩ := h2
  obtain ⟨a3, c3, rfl, _, x3⟩ := h3
  rw [marks_len, marks_len, marks_len] at *
  clear hB x1 x2 x3
  go_enter Tryd.func80, Tryd.ntmps80
  go_wp2_with fail
  refine (heldStringS_any _ g1 _ 1 n1 _ rfl (H1.out _ HB.out.1).1 (by omega) (by omega)).mono ?_
  rintro e wa ⟨rfl, hba⟩
  have ba := HB.out.1.trans (hba.mono HB.out.1.size)
  have hsa := HB.out.2.later hba
  have e2 := hsa.c2
  have HA : Hid (Below w.heap.size w wa ∧ SgM wa w.heap.size a (.slice a1 n1 c1) (.slice a2 n2 c2) (.slice a3 n3 c3)) := ⟨ba, hsa⟩
  have q1 : ¬ (((1 + n1 : Nat) : Int) < 0) := by omega
  clear ba hsa hba HB
  go_wp2_with fail
  refine (heldStringS_any _ g2 _ (1 + n1) n2 _ rfl (H1.out _ HA.out.1).2.1 (by omega) (by omega)).mono ?_
  rintro e wb ⟨rfl, hbb⟩
  have bb := HA.out.1.trans (hbb.mono HA.out.1.size)
  have e3 := (HA.out.2.later hbb).c3
  have q2 : ¬ (((1 + n1 + n2 : Nat) : Int) < 0) := by omega
  clear hbb HA e2
  go_wp2_with fail
  refine (heldStringS_any _ g3 _ (1 + n1 + n2) n3 _ rfl (H1.out _ bb).2.2 (by omega) (by omega)).mono ?_
  rintro e wc ⟨rfl, hbc⟩
  have q3 : ¬ (((1 + n1 + n2 + n3 : Nat) : Int) < 0) := by omega
  clear e3
  go_wp2
  go_ret
  exact ⟨rfl, bb.trans (hbc.mono bb.size)⟩

end Go.Proofs.YtmfoliocibjdnaaDoor
/-
  The walk of the law FnExactReadSig: it answers true of every text.
-/
namespace Go.Proofs.YtmfoliocibjdnaaDoor
open Go.RowKit Go.BigFrame
set_option linter.unusedVariables false

/-- block p is a signature, and its lists lie so -/
def WSg (W : World) (p : Nat) (a : Int) (v1 v2 v3 : Value) (g1 g2 g3 : Nat) (o s d : List ByteArray) : Prop := SgM W p a v1 v2 v3 ∧ TS W v1 g1 o ∧ TS W v2 g2 s ∧ TS W v3 g3 d
theorem WSg.later {W W' : World} {p : Nat} {a : Int} {v1 v2 v3 : Value} {g1 g2 g3 : Nat} {o s d : List ByteArray} (h : WSg W p a v1 v2 v3 g1 g2 g3 o s d) (hb : Below W.heap.size W W') : WSg W' p a v1 v2 v3 g1 g2 g3 o s d :=
  ⟨h.1.later hb, h.2.1.later hb, h.2.2.1.later hb, h.2.2.2.later hb⟩
theorem WSg.alloc {W : World} {p : Nat} {a : Int} {v1 v2 v3 : Value} {g1 g2 g3 : Nat} {o s d : List ByteArray} (h : WSg W p a v1 v2 v3 g1 g2 g3 o s d) (x : Obj) : WSg (W.alloc x) p a v1 v2 v3 g1 g2 g3 o s d := h.later ((Below.refl _ _).alloc (Nat.le_refl _) _)
theorem SgM.keptG3 {w w' : World} {g : Nat} {r1 r2 r3 : Option Nat} {a : Int} {v1 v2 v3 : Value} (h : SgM w g a v1 v2 v3) (hg : Grown3 w w' r1 r2 r3) (h1 : some g ≠ r1) (h2 : some g ≠ r2) (h3 : some g ≠ r3) : SgM w' g a v1 v2 v3 := by
  obtain ⟨wa, wb, ha, hb, hc⟩ := hg
  exact ((h.keptG ha h1).keptG hb h2).keptG hc h3
theorem TS.shape {w : World} {v : Value} {g : Nat} {l : List ByteArray} (h : TS w v g l) : ∃ a c, v = .slice a l.length c := by
  obtain ⟨a, c, hv, _⟩ := h
  exact ⟨a, c, hv⟩
theorem WSg.new (W : World) (a : Int) (v1 v2 v3 : Value) (g1 g2 g3 : Nat) (o s d : List ByteArray) (h1 : TS W v1 g1 o) (h2 : TS W v2 g2 s) (h3 : TS W v3 g3 d) : WSg (W.alloc (.cells #[.int .i64 a, v1, v2, v3] 26)) W.heap.size a v1 v2 v3 g1 g2 g3 o s d := by
  have hb : Below W.heap.size W (W.alloc (.cells #[.int .i64 a, v1, v2, v3] 26)) := (Below.refl _ _).alloc (Nat.le_refl _) _
  exact ⟨SgM.new W a v1 v2 v3, h1.later hb, h2.later hb, h3.later hb⟩

end Go.Proofs.YtmfoliocibjdnaaDoor
/-
  What SigText answers, the program's and the specification's.
-/
namespace Go.Proofs.YtmfoliocibjdnaaDoor
open Go.RowKit Go.BigFrame
set_option linter.unusedVariables false

/-- a number and keys, one behind the other -/
def kyL (a : Nat) (l : List ByteArray) : List UInt8 := UInt8.ofNat a :: l.flatMap (fun p => p.data.toList)
def kyB (a : Nat) (l : List ByteArray) : ByteArray := ⟨(kyL a l).toArray⟩
theorem kyL_step (a : Nat) (l : List ByteArray) (k : Nat) (h : k < l.length) : kyL a (l.take (k + 1)) = kyL a (l.take k) ++ l[k].data.toList := by
  unfold kyL
  rw [← List.take_append_getElem h, List.flatMap_append]
  simp
theorem kyB_step (a : Nat) (l : List ByteArray) (k : Nat) (h : k < l.length) : kyB a (l.take k) ++ l[k] = kyB a (l.take (k + 1)) := by
  apply ByteArray.ext
  apply Array.toList_inj.1
  unfold kyB
  rw [kyL_step a l k h]
  simp [ByteArray.data_append]
theorem kyL_len (a : Nat) (l : List ByteArray) (hw : kwB l = true) : (kyL a l).length = 1 + 16 * l.length := by
  unfold kyL
  induction l with
  | nil => simp
  | cons x r ih =>
    have h1 := kwB_at hw 0 (by simp)
    have h2 : kwB r = true := by
      unfold kwB at hw ⊢
      simp at hw
      simpa using hw.2
    have h3 := ih h2
    have h4 : x.data.toList.length = 16 := by rw [Array.length_toList]; exact h1
    simp only [List.length_cons, List.flatMap_cons, List.length_append] at h3 ⊢
    omega
theorem kwB_take {l : List ByteArray} (h : kwB l = true) (k : Nat) : kwB (l.take k) = true := by
  unfold kwB at *
  rw [List.all_eq_true] at *
  exact fun x hx => h x (List.mem_of_mem_take hx)
theorem kwB_append {l r : List ByteArray} (h : kwB l = true) (k : kwB r = true) : kwB (l ++ r) = true := by
  unfold kwB at *
  rw [List.all_append, h, k]
  rfl
theorem kyB_size (a : Nat) (l : List ByteArray) : (kyB a l).size = (kyL a l).length := by simp [kyB, ByteArray.size]

/-- what SigText is -/
def sigB (a : Int) (o s d : List ByteArray) : ByteArray := if formB a o s d then kyB a.toNat (o ++ s ++ d) else ⟨#[]⟩

/-- a row of texts appended, in a region that draws -/
theorem step_appRow {w : World} {ops : Array Oper} {o : Oper} {a : Act} {K : Act → World → Prop} {Q : Exit → Act → World → Prop} {E : Prop} (hg : o.guard = none) (s x : Operand)
    (hop : o.op = .call { callee := .builtin .append, args := #[s, x], argTypes := #[24, 24] })
    (B : Nat) (w0 : World) (v u : Value) (l r : List ByteArray) (hs : a.eval s = v) (hown : OS B w0 w v l) (hx : a.eval x = u) (g of : Nat) (hr : SS w u g of r) (h0 : 0 < r.length) (hlen : l.length + r.length ≤ 1000000)
    (hK : ∀ v' w', OS B w0 w' v' (l ++ r) → K (a.put o.dst v') w') : if Region.wanted o (yielded ops a.tmps) = true then Oper.wp Tryd.prog o a w K Q else E := by
  obtain ⟨i0, hi, hz0, hz1, hz2⟩ := info_parts Tryd.info9
  obtain ⟨ao, cap, rfl, _, hA, hc⟩ := hr
  have ea := hA h0
  subst ea
  obtain ⟨v', w', hrun, h1, h2, _⟩ := run_append_own (P := Tryd.prog) w B 24 o.type 9 i0 (.string ByteArray.empty) 1 16 Tryd.underlying24 hi hz0 hz1 hz2 rfl (by decide) v l.length (svs l) hown.1 ⟨g, of, none⟩ r.length cap (svs r) (by simp [svs]) (by
      intro j u hj
      have hj2 : j < r.length := by
        have := (List.getElem?_eq_some_iff.1 hj).1
        simpa [svs] using this
      have e : (⟨g, of, none⟩ : Addr).add j = ⟨g, of + j, none⟩ := by unfold Addr.add; split <;> simp_all
      rw [e, hc j hj2]
      simp [svs, List.getElem?_eq_getElem hj2] at hj
      rw [hj])
    (fun u hu => by simp [svs] at hu; obtain ⟨b, _, rfl⟩ := hu; rfl) (by unfold maxLen; omega) (by omega) hown.2.2
  have hOB : OS B w0 w' v' (l ++ r) := ⟨by rw [List.length_append, svs_append]; exact h1, hown.2.1.grown h2 hown.2.2 (fun k hk => (hown.1.lt k hk).1), Nat.le_trans hown.2.2 h2.size⟩
  have hw : Region.wanted o (yielded ops a.tmps) = true := by simp [Region.wanted, hg]
  rw [if_pos hw]
  unfold Oper.wp
  simp [execOp, hop, resolve, invoke, builtin, hs, hx, hrun, Result.andThen]
  exact hK v' w' hOB

def SxR (a : Nat) (L : List ByteArray) (w : World) (s i : Value) (wr : World) : Prop := ∃ k : Nat, k ≤ L.length ∧ i = .int .i64 k ∧ s = .string (kyB a (L.take k)) ∧ wr = w

set_option maxRecDepth 100000 in
set_option maxHeartbeats 2000000 in
theorem sSigText_yes (a : Nat) (vo vs vd : Value) (g1 o1 g2 o2 g3 o3 : Nat) (o s d : List ByteArray) (w : World) (ho : SS w vo g1 o1 o) (hs : SS w vs g2 o2 s) (hd : SS w vd g3 o3 d) (hf : formB (a : Int) o s d = true) :
    Calls Tryd.prog 100 #[.agg #[.int .i64 a, vo, vs, vd]] w fun e w' => e = .returned (.tuple #[.string (kyB a (o ++ s ++ d)), .bool true]) ∧ Below w.heap.size w w' := by
  obtain ⟨hA, ⟨wo, lo⟩, ⟨ws, ls⟩, wd, ld⟩ := formB_parts hf
  have hB : Below w.heap.size w (w.alloc (.cells #[.int .i64 a, vo, vs, vd] 26)) := (Below.refl _ _).alloc (Nat.le_refl _) _
  have hc := l05Form_any (a : Int) vo vs vd g1 o1 g2 o2 g3 o3 o s d _ (ho.below hB ho.lt) (hs.below hB hs.lt) (hd.below hB hd.lt)
  rw [hf] at hc
  have HSS : Hid (∀ W, Below w.heap.size w W → SS W vo g1 o1 o ∧ SS W vs g2 o2 s ∧ SS W vd g3 o3 d) := fun W hW => ⟨ho.below hW ho.lt, hs.below hW hs.lt, hd.below hW hd.lt⟩
  have HC : Hid (Calls Tryd.prog 91 #[.agg #[.int .i64 a, vo, vs, vd]] (w.alloc (.cells #[.int .i64 a, vo, vs, vd] 26)) fun e w' => e = .returned (.bool true) ∧ Below (w.alloc (.cells #[.int .i64 a, vo, vs, vd] 26)).heap.size (w.alloc (.cells #[.int .i64 a, vo, vs, vd] 26)) w') := hc
  have HB : Hid (Below w.heap.size w (w.alloc (.cells #[.int .i64 a, vo, vs, vd] 26)) ∧ SgM (w.alloc (.cells #[.int .i64 a, vo, vs, vd] 26)) w.heap.size a vo vs vd) := ⟨hB, SgM.new w _ _ _ _⟩
  have HW : Hid ((∀ k, (kyB a ((o ++ s ++ d).take k)).size ≤ 1000) ∧ (o ++ s ++ d).length = 20 ∧ kwB (o ++ s ++ d) = true) := by
    have hw := kwB_append (kwB_append wo ws) wd
    have hl : (o ++ s ++ d).length = 20 := by simp [lo, ls, ld]
    refine ⟨fun k => ?_, hl, hw⟩
    rw [kyB_size, kyL_len _ _ (kwB_take hw k), List.length_take, hl]
    omega
  have HLN : Hid (o.length = 8 ∧ s.length = 8 ∧ d.length = 4) := ⟨lo, ls, ld⟩
  obtain ⟨ao, co, rfl, _, x1⟩ := ho
  obtain ⟨as2, cs2, rfl, _, x2⟩ := hs
  obtain ⟨ad, cd, rfl, _, x3⟩ := hd
  rw [lo, ls, ld] at HSS HC HB ⊢
  clear x1 x2 x3 hc hB hf wo ws wd lo ls ld
  have ha : a ≤ 15 := by omega
  clear hA
  obtain ⟨L, hL⟩ : ∃ L, o ++ s ++ d = L := ⟨_, rfl⟩
  have HL : Hid (o ++ s ++ d = L) := hL
  rw [hL] at HW ⊢
  clear hL
  go_enter Tryd.func100, Tryd.ntmps100
  go_wp2_with fail
  refine HC.out.mono ?_
  rintro e w1 ⟨rfl, hb1⟩
  have b1 := HB.out.1.trans (hb1.mono HB.out.1.size)
  have hS1 := HB.out.2.later hb1
  have c0 := hS1.c0
  have c1 := hS1.c1
  have c2 := hS1.c2
  have c3 := hS1.c3
  have hlt := hS1.lt
  have hcv := one_s w1 (a : Int) (UInt8.ofNat a) (by simp; omega)
  have e1 : (⟨[UInt8.ofNat a].toArray⟩ : ByteArray) = kyB a [] := rfl
  rw [e1] at hcv
  have b2 : Below w1.heap.size w1 (w1.alloc (.cells #[.int .u8 (a : Int)] 5)) := (Below.refl _ _).alloc (Nat.le_refl _) _
  have bw2 := b1.trans (b2.mono b1.size)
  have hS2 := hS1.later b2
  clear HC e1 hS1 b1 hb1 b2
  go_wp2
  clear hcv c0 c1 c2 c3 hlt
  have c1 := hS2.c1
  have c2 := hS2.c2
  have c3 := hS2.c3
  have hlt := hS2.lt
  clear hS2
  generalize w1.alloc (.cells #[.int .u8 (a : Int)] 5) = w2 at *
  have HM : Hid (OS w2.heap.size w2 ((w2.alloc (.cells #[] 9)).drew) (.slice (some ⟨w2.heap.size, 0, none⟩) 0 0) [] ∧ Below w.heap.size w ((w2.alloc (.cells #[] 9)).drew)) := ⟨(OS.made w2).drew, (bw2.alloc bw2.size _).drew⟩
  have HBW : Hid (Below w.heap.size w w2) := bw2
  have hwz := bw2.size
  clear bw2
  go_region_held3 (fun W => W.cell? ⟨w.heap.size, 1, none⟩ = some (.slice ao 8 co) ∧ W.cell? ⟨w.heap.size, 2, none⟩ = some (.slice as2 8 cs2) ∧ W.cell? ⟨w.heap.size, 3, none⟩ = some (.slice ad 4 cd)) (first | go_keep | exact ⟨(hos3.2.1.cell (p := ⟨w.heap.size, 1, none⟩) hlt).trans c1, (hos3.2.1.cell (p := ⟨w.heap.size, 2, none⟩) hlt).trans c2, (hos3.2.1.cell (p := ⟨w.heap.size, 3, none⟩) hlt).trans c3⟩ | exact ⟨(hos2.2.1.cell (p := ⟨w.heap.size, 1, none⟩) hlt).trans c1, (hos2.2.1.cell (p := ⟨w.heap.size, 2, none⟩) hlt).trans c2, (hos2.2.1.cell (p := ⟨w.heap.size, 3, none⟩) hlt).trans c3⟩ | exact ⟨(hos1.2.1.cell (p := ⟨w.heap.size, 1, none⟩) hlt).trans c1, (hos1.2.1.cell (p := ⟨w.heap.size, 2, none⟩) hlt).trans c2, (hos1.2.1.cell (p := ⟨w.heap.size, 3, none⟩) hlt).trans c3⟩) ((first | (refine step_appRow rfl _ _ rfl w2.heap.size w2 _ _ [] o (by rfl) HM.out.1 (by rfl) g1 o1 (HSS.out _ HM.out.2).1 (by rw [HLN.out.1]; omega) (by rw [HLN.out.1]; simp) ?_; intro v3 w3 hos1) | (refine step_appRow rfl _ _ rfl w2.heap.size w2 _ _ o s (by rfl) hos1 (by rfl) g2 o2 (HSS.out _ (HBW.out.trans (hos1.2.1.mono HBW.out.size))).2.1 (by rw [HLN.out.2.1]; omega) (by rw [HLN.out.1, HLN.out.2.1]; omega) ?_; intro v4 w4 hos2) | (refine step_appRow rfl _ _ rfl w2.heap.size w2 _ _ (o ++ s) d (by rfl) hos2 (by rfl) g3 o3 (HSS.out _ (HBW.out.trans (hos2.2.1.mono HBW.out.size))).2.2 (by rw [HLN.out.2.2]; omega) (by rw [List.length_append, HLN.out.1, HLN.out.2.1, HLN.out.2.2]; omega) ?_; intro v5 w5 hos3)))
  have bw5 := HBW.out.trans (hos3.2.1.mono HBW.out.size)
  have hos := hos3
  rw [HL.out] at hos
  clear hos1 hos2 hos3 HM HBW HSS c1 c2 c3
  obtain ⟨gL, hsL⟩ := hos.ss (by rw [HW.out.2.1]; omega)
  obtain ⟨aL, cL, hvL, _, hAL, hcL⟩ := hsL
  have hAL := hAL (by rw [HW.out.2.1]; omega)
  rw [HW.out.2.1] at hvL
  subst hAL
  subst hvL
  have HCL : Hid (∀ j (h : j < L.length), w5.cell? ⟨gL, j, none⟩ = some (.string L[j])) := fun j hj => by have := hcL j hj; rw [Nat.zero_add] at this; exact this
  have HST : Hid (SxR a L w5 (.string (kyB a [])) (.int .i64 0) w5) := ⟨0, by omega, rfl, rfl, rfl⟩
  clear hos hcL
  go_wp2
  go_loopw [4, 6] (fun s i wr => SxR a L w5 s i wr) (fun _ i _ => 20 - (intOf i).toNat)
  case atStart => exact HST.out
  case round =>
    obtain ⟨k, hk, rfl, rfl, rfl⟩ := hrel
    clear HST
    rw [HW.out.2.1] at hk
    by_cases hlt2 : k < 20
    · have c0 := HCL.out k (by rw [HW.out.2.1]; exact hlt2)
      have hst := kyB_step a L k (by rw [HW.out.2.1]; exact hlt2)
      have z1 := HW.out.1 k
      have z2 := kwB_at HW.out.2.2 k (by rw [HW.out.2.1]; exact hlt2)
      have i1 : (k : Int) < 20 := by omega
      have i2 : (0 : Int) ≤ (k : Int) := by omega
      have HN : Hid (SxR a L wr (.string (kyB a (L.take k) ++ L[k]'(by rw [HW.out.2.1]; exact hlt2))) (.int .i64 ((k : Int) + 1)) wr) := by
        rw [hst]
        exact ⟨k + 1, by rw [HW.out.2.1]; omega, by simp, rfl, rfl⟩
      generalize L[k]'(by rw [HW.out.2.1]; exact hlt2) = X at *
      generalize kyB a (L.take k) = S at *
      have q : ¬ (9223372036854775807 < S.size + X.size) := by omega
      clear hst HCL HW
      go_wp2
      go_roundw
      case rel => exact HN.out
      case measure => simp [intOf]; omega
    · have hke : k = 20 := by omega
      subst hke
      have e : L.take 20 = L := List.take_of_length_le (by rw [HW.out.2.1]; omega)
      rw [e]
      go_wp2
      go_ret2
      exact ⟨rfl, bw5⟩

theorem sSigText_no (a : Int) (vo vs vd : Value) (g1 o1 g2 o2 g3 o3 : Nat) (o s d : List ByteArray) (w : World) (ho : SS w vo g1 o1 o) (hs : SS w vs g2 o2 s) (hd : SS w vd g3 o3 d) (hf : formB a o s d = false) :
    Calls Tryd.prog 100 #[.agg #[.int .i64 a, vo, vs, vd]] w fun e w' => e = .returned (.tuple #[.string ⟨#[]⟩, .bool false]) ∧ Below w.heap.size w w' := by
  have hB : Below w.heap.size w (w.alloc (.cells #[.int .i64 a, vo, vs, vd] 26)) := (Below.refl _ _).alloc (Nat.le_refl _) _
  have hc := l05Form_any a vo vs vd g1 o1 g2 o2 g3 o3 o s d _ (ho.below hB ho.lt) (hs.below hB hs.lt) (hd.below hB hd.lt)
  rw [hf] at hc
  have HC : Hid (Calls Tryd.prog 91 #[.agg #[.int .i64 a, vo, vs, vd]] (w.alloc (.cells #[.int .i64 a, vo, vs, vd] 26)) fun e w' => e = .returned (.bool false) ∧ Below (w.alloc (.cells #[.int .i64 a, vo, vs, vd] 26)).heap.size (w.alloc (.cells #[.int .i64 a, vo, vs, vd] 26)) w') := hc
  have HB : Hid (Below w.heap.size w (w.alloc (.cells #[.int .i64 a, vo, vs, vd] 26))) := hB
  obtain ⟨ao, co, rfl, _, x1⟩ := ho
  obtain ⟨as2, cs2, rfl, _, x2⟩ := hs
  obtain ⟨ad, cd, rfl, _, x3⟩ := hd
  clear x1 x2 x3 hc hB hf
  go_enter Tryd.func100, Tryd.ntmps100
  go_wp2_with fail
  refine HC.out.mono ?_
  rintro e w1 ⟨rfl, hb1⟩
  go_wp2
  go_ret2
  exact ⟨rfl, HB.out.trans (hb1.mono HB.out.size)⟩
theorem SigText_no (a : Int) (vo vs vd : Value) (g1 o1 g2 o2 g3 o3 : Nat) (o s d : List ByteArray) (w : World) (ho : SS w vo g1 o1 o) (hs : SS w vs g2 o2 s) (hd : SS w vd g3 o3 d) (hf : formB a o s d = false) :
    Calls Tryd.prog 19 #[.agg #[.int .i64 a, vo, vs, vd]] w fun e w' => e = .returned (.tuple #[.string ⟨#[]⟩, .bool false]) ∧ Below w.heap.size w w' := by
  have hB : Below w.heap.size w (w.alloc (.cells #[.int .i64 a, vo, vs, vd] 26)) := (Below.refl _ _).alloc (Nat.le_refl _) _
  have hc := sigFormOk_any a vo vs vd g1 o1 g2 o2 g3 o3 o s d _ (ho.below hB ho.lt) (hs.below hB hs.lt) (hd.below hB hd.lt)
  rw [hf] at hc
  have HC : Hid (Calls Tryd.prog 86 #[.agg #[.int .i64 a, vo, vs, vd]] (w.alloc (.cells #[.int .i64 a, vo, vs, vd] 26)) fun e w' => e = .returned (.bool false) ∧ Below (w.alloc (.cells #[.int .i64 a, vo, vs, vd] 26)).heap.size (w.alloc (.cells #[.int .i64 a, vo, vs, vd] 26)) w') := hc
  have HB : Hid (Below w.heap.size w (w.alloc (.cells #[.int .i64 a, vo, vs, vd] 26))) := hB
  obtain ⟨ao, co, rfl, _, x1⟩ := ho
  obtain ⟨as2, cs2, rfl, _, x2⟩ := hs
  obtain ⟨ad, cd, rfl, _, x3⟩ := hd
  clear x1 x2 x3 hc hB hf
  go_enter Tryd.func19, Tryd.ntmps19
  go_wp2_with fail
  refine HC.out.mono ?_
  rintro e w1 ⟨rfl, hb1⟩
  go_wp2
  go_ret2
  exact ⟨rfl, HB.out.trans (hb1.mono HB.out.size)⟩

/-- a string appended to what is owned, and that nothing else turned -/
theorem wp_appStrG {w : World} {ops : Array Oper} {rest : List Oper} {o : Oper} {a : Act} {Q : Exit → Act → World → Prop} (hgd : o.guard = none) (s x : Operand)
    (ho : o.op = .call { callee := .builtin .append, args := #[s, x], argTypes := #[22, 9] })
    (B : Nat) (w0 : World) (v : Value) (l : List UInt8) (hs : a.eval s = v) (hown : OB B w0 w v l) (t : ByteArray) (hx : a.eval x = .string t) (hlen : l.length + t.size ≤ 1000000000)
    (h : ∀ v' w', OB B w0 w' v' (l ++ t.data.toList) → w.grownBy w' v.ownBlock → wpList Tryd.prog ops Q rest (a.put o.dst v') w') : wpList Tryd.prog ops Q (o :: rest) a w := by
  obtain ⟨i0, hi, hz0, hz1, hz2⟩ := info_parts Tryd.info5
  refine Lib.wpList_append_own_string w hgd s x 22 9 ho B 5 i0 Tryd.underlying22 Tryd.underlying9 hi hz0 hz1 hz2 v l.length (bv l) hs hown.1 t hx (by unfold maxLen; omega) (by omega) hown.2.2 ?_
  intro v' w' h1 h2 _
  have e : t.data.toList.length = t.size := Array.length_toList
  refine h v' w' ⟨?_, hown.2.1.grown h2 hown.2.2 (fun k hk => (hown.1.lt k hk).1), Nat.le_trans hown.2.2 h2.size⟩ h2
  rw [List.length_append, bv_append, e]
  exact h1
/-- the block of the three lists -/
def LL (w : World) (g : Nat) (v1 v2 v3 : Value) : Prop := w.heap[g]? = some (.cells #[v1, v2, v3] 24 (0, 0))
theorem LL.kept {w w' : World} {g B : Nat} {w0 : World} {v v1 v2 v3 : Value} {l : List UInt8} (h : LL w g v1 v2 v3) (ho : OB B w0 w v l) (hg : w.grownBy w' v.ownBlock) : LL w' g v1 v2 v3 := by
  have hlt : g < w.heap.size := (Array.getElem?_eq_some_iff.1 h).1
  unfold LL at *
  rw [hg.block g hlt ?_, h]
  intro he
  rcases ho.1.2 with ⟨rfl, _⟩ | ⟨g', cap, cur, rfl, _, hg', _⟩
  · simp [Value.ownBlock] at he
  · simp [Value.ownBlock] at he
    subst he
    rw [h] at hg'
    simp at hg'

/-- what the inner loop of SigText holds -/
def StI (a : Nat) (P l : List ByteArray) (w : World) (g : Nat) (v1 v2 v3 v i : Value) (wr : World) : Prop :=
  ∃ k : Nat, k ≤ l.length ∧ i = .int .i64 k ∧ OB w.heap.size w wr v (kyL a (P ++ l.take k)) ∧ LL wr g v1 v2 v3
/-- what the outer one holds -/
def StO (a : Nat) (o s d : List ByteArray) (w : World) (g : Nat) (v1 v2 v3 v i : Value) (wr : World) : Prop :=
  ∃ j : Nat, j ≤ 3 ∧ i = .int .i64 j ∧ OB w.heap.size w wr v (kyL a (([o, s, d].take j).flatten)) ∧ LL wr g v1 v2 v3

theorem kyL_more (a : Nat) (P l : List ByteArray) (k : Nat) (h : k < l.length) : kyL a (P ++ l.take k) ++ l[k].data.toList = kyL a (P ++ l.take (k + 1)) := by
  unfold kyL
  have e : l.take (k + 1) = l.take k ++ [l[k]] := (List.take_append_getElem h).symm
  rw [e]
  simp only [List.flatMap_append, List.flatMap_cons, List.flatMap_nil, List.append_nil, List.cons_append, List.append_assoc]

theorem LL.cell {w : World} {g : Nat} {v1 v2 v3 : Value} (h : LL w g v1 v2 v3) (j : Nat) (v : Value) (hv : #[v1, v2, v3][j]? = some v) : w.cell? ⟨g, j, none⟩ = some v := by
  rw [cell_of_row w g j _ _ (0, 0) h]
  exact hv

set_option maxRecDepth 100000 in
set_option maxHeartbeats 2000000 in
theorem SigText_yes (a : Nat) (vo vs vd : Value) (g1 o1 g2 o2 g3 o3 : Nat) (o s d : List ByteArray) (w : World) (ho : SS w vo g1 o1 o) (hs : SS w vs g2 o2 s) (hd : SS w vd g3 o3 d) (hf : formB (a : Int) o s d = true) :
    Calls Tryd.prog 19 #[.agg #[.int .i64 a, vo, vs, vd]] w fun e w' => e = .returned (.tuple #[.string (kyB a (o ++ s ++ d)), .bool true]) ∧ Below w.heap.size w w' := by
  obtain ⟨hA, ⟨wo, lo⟩, ⟨ws, ls⟩, wd, ld⟩ := formB_parts hf
  have hB : Below w.heap.size w (w.alloc (.cells #[.int .i64 a, vo, vs, vd] 26)) := (Below.refl _ _).alloc (Nat.le_refl _) _
  have hc := sigFormOk_any (a : Int) vo vs vd g1 o1 g2 o2 g3 o3 o s d _ (ho.below hB ho.lt) (hs.below hB hs.lt) (hd.below hB hd.lt)
  rw [hf] at hc
  have HC : Hid (Calls Tryd.prog 86 #[.agg #[.int .i64 a, vo, vs, vd]] (w.alloc (.cells #[.int .i64 a, vo, vs, vd] 26)) fun e w' => e = .returned (.bool true) ∧ Below (w.alloc (.cells #[.int .i64 a, vo, vs, vd] 26)).heap.size (w.alloc (.cells #[.int .i64 a, vo, vs, vd] 26)) w') := hc
  have HB : Hid (Below w.heap.size w (w.alloc (.cells #[.int .i64 a, vo, vs, vd] 26)) ∧ SgM (w.alloc (.cells #[.int .i64 a, vo, vs, vd] 26)) w.heap.size a vo vs vd) := ⟨hB, SgM.new w _ _ _ _⟩
  have HSEL : Hid (∀ j, j < 3 → ∃ (v : Value) (l : List ByteArray) (g of : Nat) (x : Option Addr) (c : Nat), #[vo, vs, vd][j]? = some v ∧ v = .slice x l.length c ∧ (∀ W, Below w.heap.size w W → SS W v g of l) ∧ kwB l = true ∧ l.length ≤ 8 ∧ ([o, s, d].take j).flatten ++ l = ([o, s, d].take (j + 1)).flatten ∧ ([o, s, d].take (j + 1)).flatten.length ≤ 20) := by
    intro j hj
    have h0 : j = 0 ∨ j = 1 ∨ j = 2 := by omega
    rcases h0 with rfl | rfl | rfl
    · obtain ⟨x, c, hv, _⟩ := id ho
      exact ⟨vo, o, g1, o1, x, c, rfl, hv, fun W hW => ho.below hW ho.lt, wo, by omega, by simp, by simp [lo]⟩
    · obtain ⟨x, c, hv, _⟩ := id hs
      exact ⟨vs, s, g2, o2, x, c, rfl, hv, fun W hW => hs.below hW hs.lt, ws, by omega, by simp, by simp [lo, ls]⟩
    · obtain ⟨x, c, hv, _⟩ := id hd
      exact ⟨vd, d, g3, o3, x, c, rfl, hv, fun W hW => hd.below hW hd.lt, wd, by omega, by simp, by simp [lo, ls, ld]⟩
  have HWI : Hid (∀ j, kwB ([o, s, d].take j).flatten = true) := by
    intro j
    have h0 : j = 0 ∨ j = 1 ∨ j = 2 ∨ 3 ≤ j := by omega
    rcases h0 with rfl | rfl | rfl | h
    · rfl
    · simpa using wo
    · simpa using kwB_append wo ws
    · rw [List.take_of_length_le (by simpa using h)]
      simpa using kwB_append wo (kwB_append ws wd)
  have HEND : Hid (kyL a ([o, s, d].take 3).flatten = kyL a (o ++ s ++ d)) := by show kyL a _ = kyL a _; simp
  obtain ⟨ao, co, rfl, _, x1⟩ := ho
  obtain ⟨as2, cs2, rfl, _, x2⟩ := hs
  obtain ⟨ad, cd, rfl, _, x3⟩ := hd
  rw [lo, ls, ld] at HSEL HC HB ⊢
  clear x1 x2 x3 hc hB hf wo ws wd lo ls ld
  have ha : a ≤ 15 := by omega
  clear hA
  obtain ⟨T, hTe⟩ : ∃ T, kyB a (o ++ s ++ d) = T := ⟨_, rfl⟩
  have HTe : Hid (kyB a (o ++ s ++ d) = T) := hTe
  rw [hTe]
  clear hTe
  go_enter Tryd.func19, Tryd.ntmps19
  go_wp2_with fail
  refine HC.out.mono ?_
  rintro e w1 ⟨rfl, hb1⟩
  have b1 := HB.out.1.trans (hb1.mono HB.out.1.size)
  have hS1 := HB.out.2.later hb1
  have c0 := hS1.c0
  have c1 := hS1.c1
  have c2 := hS1.c2
  have c3 := hS1.c3
  have hlt := hS1.lt
  have HST : Hid (StO a o s d w (w1.heap.size + 1) (.slice ao 8 co) (.slice as2 8 cs2) (.slice ad 4 cd) (.slice (some ⟨w1.heap.size, 0, none⟩) 1 1) (.int .i64 0) ((w1.alloc (.cells #[.int .u8 (a : Int)] 5)).alloc (.cells #[.slice ao 8 co, .slice as2 8 cs2, .slice ad 4 cd] 24))) := by
    have h1 := OB.one w1 (a : Int) (UInt8.ofNat a) (by simp; omega)
    have h2 : OB w.heap.size w (w1.alloc (.cells #[.int .u8 (a : Int)] 5)) (.slice (some ⟨w1.heap.size, 0, none⟩) 1 1) [UInt8.ofNat a] := by
      refine ⟨⟨h1.1.1, ?_⟩, b1.trans (h1.2.1.mono b1.size), Nat.le_trans b1.size h1.2.2⟩
      rcases h1.1.2 with hn | ⟨g, cap, cur, hv, hbg, rest⟩
      · exact .inl hn
      · exact .inr ⟨g, cap, cur, hv, Nat.le_trans b1.size hbg, rest⟩
    refine ⟨0, by omega, rfl, h2.alloc _, ?_⟩
    have e : (w1.alloc (.cells #[.int .u8 (a : Int)] 5)).heap.size = w1.heap.size + 1 := by simp
    unfold LL
    rw [← e]
    exact Go.heap_alloc_new _ _
  clear HC hS1 b1 hb1
  go_wp2
  go_loopw [4, 24] (fun v i wr => StO a o s d w (w1.heap.size + 1) (.slice ao 8 co) (.slice as2 8 cs2) (.slice ad 4 cd) v i wr) (fun _ i _ => 3 - (intOf i).toNat)
  case atStart => exact HST.out
  case round =>
    obtain ⟨j, hj, rfl, hob, hll⟩ := hrel
    clear HST
    by_cases hlt3 : j < 3
    · obtain ⟨v, l, g, of, x, c, hsel, rfl, HSS, hwl, hl8, hnx, hn20⟩ := HSEL.out j hlt3
      have cj := hll.cell j _ hsel
      have hwP := HWI.out j
      have HNX : Hid (∀ v W, OB w.heap.size w W v (kyL a (([o, s, d].take j).flatten ++ l)) → LL W (w1.heap.size + 1) (.slice ao 8 co) (.slice as2 8 cs2) (.slice ad 4 cd) → StO a o s d w (w1.heap.size + 1) (.slice ao 8 co) (.slice as2 8 cs2) (.slice ad 4 cd) v (.int .i64 ((j : Int) + 1)) W) := by
        rw [hnx]
        exact fun v W hW hL => ⟨j + 1, by omega, by simp, hW, hL⟩
      have hPl : (([o, s, d].take j).flatten).length + l.length ≤ 20 := by rw [← List.length_append, hnx]; exact hn20
      generalize ([o, s, d].take j).flatten = P at *
      have i1 : (j : Int) < 3 := by omega
      have i2 : (0 : Int) ≤ (j : Int) := by omega
      obtain ⟨n, hn⟩ : ∃ n, l.length = n := ⟨_, rfl⟩
      have HN : Hid (l.length = n) := hn
      rw [hn] at cj hl8 hPl HSS
      have HSS : Hid (∀ W, Below w.heap.size w W → SS W (.slice x n c) g of l) := HSS
      have HS2 : Hid (StI a P l w (w1.heap.size + 1) (.slice ao 8 co) (.slice as2 8 cs2) (.slice ad 4 cd) u4 (.int .i64 0) wr) := ⟨0, by omega, rfl, by simpa using hob, hll⟩
      have HW1 : Hid (kwB l = true ∧ kwB P = true) := ⟨hwl, hwP⟩
      clear hob hll hsel hnx hn hwl hwP hn20
      go_wp2
      go_loopw [4, 30] (fun v i wr => StI a P l w (w1.heap.size + 1) (.slice ao 8 co) (.slice as2 8 cs2) (.slice ad 4 cd) v i wr) (fun _ i _ => n - (intOf i).toNat)
      case atStart => exact HS2.out
      case round =>
        obtain ⟨k, hk, rfl, hob, hll⟩ := hrel
        clear HS2 cj
        rw [HN.out] at hk
        by_cases hlt4 : k < n
        · have hsw := HSS.out _ hob.2.1
          obtain ⟨x', c', hv', _, hAx, hcx⟩ := hsw
          have ex := hAx (by rw [HN.out]; omega)
          rw [HN.out] at hv'
          simp at hv'
          obtain ⟨rfl, rfl⟩ := hv'
          subst ex
          have c0 := hcx k (by rw [HN.out]; exact hlt4)
          have hst := kyL_more a P l k (by rw [HN.out]; exact hlt4)
          have z2 := kwB_at HW1.out.1 k (by rw [HN.out]; exact hlt4)
          have z1 : (kyL a (P ++ l.take k)).length ≤ 1000 := by
            rw [kyL_len _ _ (kwB_append HW1.out.2 (kwB_take HW1.out.1 k)), List.length_append, List.length_take]
            omega
          have i3 : (k : Int) < (n : Int) := by omega
          have i4 : (0 : Int) ≤ (k : Int) := by omega
          have HNN : Hid (∀ v W, OB w.heap.size w W v (kyL a (P ++ l.take k) ++ (l[k]'(by rw [HN.out]; exact hlt4)).data.toList) → LL W (w1.heap.size + 1) (.slice ao 8 co) (.slice as2 8 cs2) (.slice ad 4 cd) → StI a P l w (w1.heap.size + 1) (.slice ao 8 co) (.slice as2 8 cs2) (.slice ad 4 cd) v (.int .i64 ((k : Int) + 1)) W) := by
            rw [hst]
            exact fun v W hW hL => ⟨k + 1, by rw [HN.out]; omega, by simp, hW, hL⟩
          generalize l[k]'(by rw [HN.out]; exact hlt4) = X at *
          generalize kyL a (P ++ l.take k) = Y at *
          clear hAx hcx hst
          go_wp2_with (at_builtin; refine wp_appStrG rfl _ _ rfl w.heap.size w _ Y rfl hob X rfl ?c1 ?_)
          case c1 => omega
          intro v' w2 hob2 hgr
          have hll2 := hll.kept hob hgr
          clear hgr hob hll c0
          go_wp2
          go_roundw
          case rel => exact HNN.out _ _ hob2 hll2
          case measure => simp [intOf]; omega
        · have hke : k = n := by omega
          have e : l.take k = l := List.take_of_length_le (by rw [HN.out]; omega)
          rw [e] at hob
          have HN3 := HNX.out _ _ hob hll
          subst hke
          clear hob hll e
          have HN3 : Hid _ := HN3
          go_wp2
          go_roundw
          case rel => exact HN3.out
          case measure => simp [intOf]; omega
    · have hje : j = 3 := by omega
      subst hje
      rw [HEND.out] at hob
      have hcv := run_str hob
      have e3 : (⟨(kyL a (o ++ s ++ d)).toArray⟩ : ByteArray) = T := by rw [← HTe.out]; rfl
      rw [e3] at hcv
      clear e3
      go_wp2
      go_ret2
      exact ⟨rfl, hob.2.1⟩

end Go.Proofs.YtmfoliocibjdnaaDoor
/-
  What SigText answers of every signature, the program's and the specification's.
-/
namespace Go.Proofs.YtmfoliocibjdnaaDoor
open Go.RowKit Go.BigFrame
set_option linter.unusedVariables false

theorem SigText_all (a : Int) (vo vs vd : Value) (g1 o1 g2 o2 g3 o3 : Nat) (o s d : List ByteArray) (w : World) (ho : SS w vo g1 o1 o) (hs : SS w vs g2 o2 s) (hd : SS w vd g3 o3 d) :
    Calls Tryd.prog 19 #[.agg #[.int .i64 a, vo, vs, vd]] w fun e w' => e = .returned (.tuple #[.string (sigB a o s d), .bool (formB a o s d)]) ∧ Below w.heap.size w w' := by
  unfold sigB
  cases hf : formB a o s d with
  | false => exact SigText_no a vo vs vd g1 o1 g2 o2 g3 o3 o s d w ho hs hd hf
  | true =>
    obtain ⟨hA, _⟩ := formB_parts hf
    obtain ⟨a, rfl⟩ := Int.eq_ofNat_of_zero_le hA.1
    exact SigText_yes a vo vs vd g1 o1 g2 o2 g3 o3 o s d w ho hs hd hf

theorem sSigText_all (a : Int) (vo vs vd : Value) (g1 o1 g2 o2 g3 o3 : Nat) (o s d : List ByteArray) (w : World) (ho : SS w vo g1 o1 o) (hs : SS w vs g2 o2 s) (hd : SS w vd g3 o3 d) :
    Calls Tryd.prog 100 #[.agg #[.int .i64 a, vo, vs, vd]] w fun e w' => e = .returned (.tuple #[.string (sigB a o s d), .bool (formB a o s d)]) ∧ Below w.heap.size w w' := by
  unfold sigB
  cases hf : formB a o s d with
  | false => exact sSigText_no a vo vs vd g1 o1 g2 o2 g3 o3 o s d w ho hs hd hf
  | true =>
    obtain ⟨hA, _⟩ := formB_parts hf
    obtain ⟨a, rfl⟩ := Int.eq_ofNat_of_zero_le hA.1
    exact sSigText_yes a vo vs vd g1 o1 g2 o2 g3 o3 o s d w ho hs hd hf

theorem sigB_size (a : Int) (o s d : List ByteArray) : (sigB a o s d).size ≤ 321 := by
  unfold sigB
  split
  · rename_i hf
    obtain ⟨_, ⟨h1, l1⟩, ⟨h2, l2⟩, ⟨h3, l3⟩⟩ := formB_parts hf
    rw [kyB_size, kyL_len _ _ (kwB_append (kwB_append h1 h2) h3)]
    simp [l1, l2, l3]
  · exact Nat.zero_le _

end Go.Proofs.YtmfoliocibjdnaaDoor
