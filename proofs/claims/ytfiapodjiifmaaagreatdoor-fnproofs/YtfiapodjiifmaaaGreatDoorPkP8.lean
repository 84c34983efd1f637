/-
  Texts laid together: Rt, Pvd, Pad, Short, Lt.
-/
import Derived.Test.YtfiapodjiifmaaaGreatDoorPkP7
import Derived.Test.YtfiapodjiifmaaaGreatDoorPkP5
import Derived.Test.YtfiapodjiifmaaaGreatDoorPkP4
import Derived.Test.YtfiapodjiifmaaaGreatDoorPkP0
import Derived.Lib.ConvBytes
import Derived.Lib.BufferWrite
import Derived.Test.YtfiapodjiifmaaaGreatDoorPkP6
import Derived.Lib.AppendStr
import Derived.Laws.IdiomCopy
/-
  The reader of a proof: the sides, the end.
-/
namespace Go.Proofs.YtfiapodjiifmaaaGreatDoor
open Go.RowKit Go.BigFrame Go.Sort
set_option linter.unusedVariables false
set_option linter.unusedSimpArgs false

theorem grown_new {w wr : World} {c g j : Nat} (h : w.grownBy wr (some c)) (hg : w.heap.size ≤ g) (v : Value) : w.grownBy (wr.setCell ⟨g, j, none⟩ v) (some c) := by
  have hs := grown_setC wr g j v
  exact ⟨hs.os.trans h.os, hs.tape.trans h.tape, hs.output.trans h.output, Nat.le_trans h.size hs.size, fun k hk hne => (hs.block k (Nat.lt_of_lt_of_le hk h.size) (by simp; omega)).trans (h.block k hk hne)⟩

/-- k pieces of a text, each x bytes wide, from a place on -/
def sdp (s : ByteArray) (x p k : Nat) : List ByteArray := (List.range k).map fun i => piece s (p + i * x) x
theorem sdp_len (s : ByteArray) (x p k : Nat) : (sdp s x p k).length = k := by simp [sdp]
theorem sdp_at (s : ByteArray) (x p k j : Nat) (h : j < (sdp s x p k).length) : (sdp s x p k)[j] = piece s (p + j * x) x := by simp [sdp]

set_option maxRecDepth 100000 in
set_option maxHeartbeats 1000000 in
theorem readerEnd_yes (c : Nat) (s : ByteArray) (w : World) (h : Rd w c s s.size) :
    Calls Tryz.prog 34 #[.pointer (some ⟨c, 0, none⟩)] w fun e w' => e = .returned (.tuple #[]) ∧ Below w.heap.size w w' := by
  have d0 : w.drew.cell? ⟨c, 0, none⟩ = some (.string s) := h.c0
  have d1 : w.drew.cell? ⟨c, 1, none⟩ = some (.int .i64 (s.size : Int)) := h.c1
  clear h
  go_enter Tryz.func34, Tryz.ntmps34
  go_wp2
  go_still_tail 11, (by kernel_rfl)
  go_wp2_with fail
  refine (want_yes _ _).mono ?_
  rintro e w2 ⟨rfl, rfl⟩
  go_wp2
  go_end0
  exact ⟨rfl, (Below.refl _ _).drew⟩
set_option maxRecDepth 100000 in
set_option maxHeartbeats 1000000 in
theorem readerEnd_no (c p : Nat) (s : ByteArray) (w : World) (h : Rd w c s p) (hp : p ≠ s.size) :
    Calls Tryz.prog 34 #[.pointer (some ⟨c, 0, none⟩)] w fun e w' => e = .panicked [unR] ∧ Below w.heap.size w w' := by
  have d0 : w.drew.cell? ⟨c, 0, none⟩ = some (.string s) := h.c0
  have d1 : w.drew.cell? ⟨c, 1, none⟩ = some (.int .i64 (p : Int)) := h.c1
  have q1 : ((p : Int) == (s.size : Int)) = false := by simp; omega
  clear h
  go_enter Tryz.func34, Tryz.ntmps34
  go_wp2
  go_still_tail 11, (by kernel_rfl)
  go_wp2_with fail
  refine (want_no _ _).mono ?_
  rintro e w2 ⟨rfl, rfl⟩
  go_wp2
  exact ⟨rfl, rfl, (Below.refl _ _).drew⟩

set_option maxRecDepth 100000 in
set_option maxHeartbeats 1000000 in
theorem readerCount_yes (c p : Nat) (s : ByteArray) (lim n q : Nat) (w : World) (h : Rd w c s p) (hs : s.size ≤ 1048576) (hp : p ≤ s.size) (hr : M.readVar s.data.toList p = some (n, q)) (hn : n ≤ lim) (hl : lim ≤ 1000) :
    Calls Tryz.prog 63 #[.pointer (some ⟨c, 0, none⟩), .int .i64 (lim : Int)] w fun e w' => e = .returned (.int .i64 (n : Int)) ∧ Rd w' c s q ∧ w.grownBy w' (some c) := by
  have hq := (read_bound s p n q hr).1
  have HC : Hid (∀ W, Below w.heap.size w W → W.cell? ⟨c, 0, none⟩ = some (.string s) ∧ W.cell? ⟨c, 1, none⟩ = some (.int .i64 (p : Int))) := fun W hW => ⟨(h.later hW).c0, (h.later hW).c1⟩
  have H1 : Hid (∀ W, Calls Tryz.prog 85 #[.string s, .int .i64 (p : Int)] W fun e w' => e = .returned (.tuple #[.int .i64 n, .int .i64 q, .bool true]) ∧ w' = W) := fun W => ReadVar_some s (p : Int) n q W hs (by omega) (by simpa using hr)
  have hb0 : Below w.heap.size w w.drew := (Below.refl _ _).drew
  have HR : Hid (Rd w c s p) := h
  have i8 : (n : Int) ≤ (lim : Int) := by omega
  clear h hr
  go_enter Tryz.func63, Tryz.ntmps63
  go_wp2
  go_region_held3 (fun W => W.cell? ⟨c, 0, none⟩ = some (.string s) ∧ W.cell? ⟨c, 1, none⟩ = some (.int .i64 (p : Int))) (first | (go_keep; done) | exact HC.out _ hb0) (first | (go_at_call 85; refine (H1.out _).mono ?_; rintro e w1 ⟨rfl, hw1⟩; subst hw1) | fail)
  have h1 := Rd.later (W' := w.drew) HR.out hb0
  have d1 := h1.c1
  have f1 := h1.f1
  have hlt := h1.lt
  have HF : Hid (Rd (w.drew.setCell ⟨c, 1, none⟩ (.int .i64 (q : Int))) c s q ∧ w.grownBy (w.drew.setCell ⟨c, 1, none⟩ (.int .i64 (q : Int))) (some c)) := ⟨h1.at q, (grown_below hb0).trans (grown_setC w.drew c 1 _)⟩
  clear HC H1 h1 HR
  try rename_i hHeld
  try clear hHeld
  go_wp2_with fail
  refine (want_yes _ _).mono ?_
  rintro e w3 ⟨rfl, hw3⟩
  subst hw3
  go_wp2
  go_ret
  exact ⟨rfl, HF.out⟩

set_option maxRecDepth 100000 in
set_option maxHeartbeats 1000000 in
theorem readerCount_no (c p : Nat) (s : ByteArray) (lim : Nat) (w : World) (h : Rd w c s p) (hs : s.size ≤ 1048576) (hp : p ≤ s.size) (hl : lim ≤ 1000) (hno : M.readVar s.data.toList p = none ∨ ∃ n q, M.readVar s.data.toList p = some (n, q) ∧ lim < n) :
    Calls Tryz.prog 63 #[.pointer (some ⟨c, 0, none⟩), .int .i64 (lim : Int)] w fun e w' => e = .panicked [unR] ∧ Below w.heap.size w w' := by
  have HC : Hid (∀ W, Below w.heap.size w W → W.cell? ⟨c, 0, none⟩ = some (.string s) ∧ W.cell? ⟨c, 1, none⟩ = some (.int .i64 (p : Int))) := fun W hW => ⟨(h.later hW).c0, (h.later hW).c1⟩
  have hb0 : Below w.heap.size w w.drew := (Below.refl _ _).drew
  rcases hno with h0 | ⟨n, q, h0, h8⟩
  · have H1 : Hid (∀ W, Calls Tryz.prog 85 #[.string s, .int .i64 (p : Int)] W fun e w' => e = .returned (.tuple #[.int .i64 0, .int .i64 0, .bool false]) ∧ w' = W) := fun W => ReadVar_none s (p : Int) W hs (.inr ⟨by omega, by simpa using h0⟩)
    clear h h0
    go_enter Tryz.func63, Tryz.ntmps63
    go_wp2
    go_region_held3 (fun W => W.cell? ⟨c, 0, none⟩ = some (.string s) ∧ W.cell? ⟨c, 1, none⟩ = some (.int .i64 (p : Int))) (first | (go_keep; done) | exact HC.out _ hb0) (first | (go_at_call 85; refine (H1.out _).mono ?_; rintro e w1 ⟨rfl, hw1⟩; subst hw1) | fail)
    clear HC H1
    try rename_i hHeld
    try clear hHeld
    go_wp2_with fail
    refine (want_no _ _).mono ?_
    rintro e w3 ⟨rfl, rfl⟩
    go_wp2
    exact ⟨rfl, rfl, hb0⟩
  · have hq := read_bound s p n q h0
    have i8 : decide ((n : Int) ≤ (lim : Int)) = false := decide_eq_false (by omega)
    have i9 : decide (n ≤ lim) = false := decide_eq_false (by omega)
    have H1 : Hid (∀ W, Calls Tryz.prog 85 #[.string s, .int .i64 (p : Int)] W fun e w' => e = .returned (.tuple #[.int .i64 n, .int .i64 q, .bool true]) ∧ w' = W) := fun W => ReadVar_some s (p : Int) n q W hs (by omega) (by simpa using h0)
    clear h h0 hq
    go_enter Tryz.func63, Tryz.ntmps63
    go_wp2
    go_region_held3 (fun W => W.cell? ⟨c, 0, none⟩ = some (.string s) ∧ W.cell? ⟨c, 1, none⟩ = some (.int .i64 (p : Int))) (first | (go_keep; done) | exact HC.out _ hb0) (first | (go_at_call 85; refine (H1.out _).mono ?_; rintro e w1 ⟨rfl, hw1⟩; subst hw1) | fail)
    clear HC H1
    try rename_i hHeld
    try clear hHeld
    go_wp2_with fail
    refine (want_no _ _).mono ?_
    rintro e w3 ⟨rfl, rfl⟩
    go_wp2
    exact ⟨rfl, rfl, hb0⟩

/-- the first m texts of the row that is made are read -/
def RtR (w : World) (c : Nat) (s : ByteArray) (x q n g : Nat) (i : Value) (wr : World) : Prop := ∃ m : Nat, m ≤ n ∧ i = .int .i64 m ∧ q + m * x ≤ s.size ∧ Hid (Rd wr c s (q + m * x) ∧ TB wr g (srow (sdp s x q n) m) ∧ w.grownBy wr (some c) ∧ w.heap.size ≤ g)

set_option maxRecDepth 100000 in
set_option maxHeartbeats 1000000 in
theorem readerHashes_yes (c p : Nat) (s : ByteArray) (lim x n q : Nat) (w : World) (h : Rd w c s p) (hs : s.size ≤ 1048576) (hp : p ≤ s.size) (hx : x ≤ 4096) (hr : M.readVar s.data.toList p = some (n, q)) (hn : n ≤ lim) (hl : lim ≤ 1000) :
    Calls Tryz.prog 33 #[.pointer (some ⟨c, 0, none⟩), .int .i64 (lim : Int), .int .i64 (x : Int)] w fun e w' => (if q + n * x ≤ s.size then ∃ g, e = .returned (.slice (some ⟨g, 0, none⟩) n n) ∧ TB w' g (sdp s x q n) ∧ w.heap.size ≤ g ∧ Rd w' c s (q + n * x) else e = .panicked [unR]) ∧ w.grownBy w' (some c) := by
  have hq := (read_bound s p n q hr).1
  have hcnt := readerCount_yes c p s lim n q w h hs hp hr hn hl
  have hcw := h.lt
  have hn1000 : n ≤ 1000 := by omega
  clear h hr hn hl
  obtain ⟨P, hP⟩ : ∃ P : Ending → World → Prop, (fun e w' => (if q + n * x ≤ s.size then ∃ g, e = .returned (.slice (some ⟨g, 0, none⟩) n n) ∧ TB w' g (sdp s x q n) ∧ w.heap.size ≤ g ∧ Rd w' c s (q + n * x) else e = .panicked [unR]) ∧ w.grownBy w' (some c)) = P := ⟨_, rfl⟩
  have HP : Hid (∀ e w', P e w' ↔ (if q + n * x ≤ s.size then ∃ g, e = .returned (.slice (some ⟨g, 0, none⟩) n n) ∧ TB w' g (sdp s x q n) ∧ w.heap.size ≤ g ∧ Rd w' c s (q + n * x) else e = .panicked [unR]) ∧ w.grownBy w' (some c)) := fun e w' => by rw [← hP]
  rw [hP]
  clear hP
  go_enter Tryz.func33, Tryz.ntmps33
  go_wp2_with fail
  refine hcnt.mono ?_
  rintro e w1 ⟨rfl, hr1, hg1⟩
  obtain ⟨w2, hmk, hib, hb2, hs2⟩ := TB.made n (by omega) w1
  have hsz1 := hg1.size
  have HST : Hid (RtR w c s x q n w1.heap.size (.int .i64 0) w2) := ⟨0, by omega, rfl, by omega, by rw [Nat.zero_mul, Nat.add_zero]; exact hr1.later hb2, by simpa [srow, sdp_len] using hib, hg1.trans (grown_below hb2), hsz1⟩
  clear hib hb2 hs2 hr1 hg1 hcnt
  generalize w1.heap.size = G at *
  go_wp2
  clear hmk
  go_loopw [15] (fun i wr => RtR w c s x q n G i wr) (fun i _ => n - (intOf i).toNat)
  case atStart => exact HST.out
  case round =>
    obtain ⟨m, hm, rfl, hqm, HI⟩ := hrel
    clear HST
    by_cases hlt : m < n
    · have i1 : (m : Int) < (n : Int) := by omega
      have i2 : (0 : Int) ≤ (m : Int) := by omega
      have em : q + (m + 1) * x = q + m * x + x := by rw [Nat.add_mul, Nat.one_mul, Nat.add_assoc]
      by_cases hy : q + m * x + x ≤ s.size
      · have hsd := readerPiece_yes c (q + m * x) s x wr HI.out.1 hs hx hy
        have HX : Hid (piece s (q + m * x) x = (sdp s x q n)[m]'(by rw [sdp_len]; exact hlt)) := (sdp_at s x q n m _).symm
        generalize piece s (q + m * x) x = X at *
        go_wp2_with fail
        refine hsd.mono ?_
        rintro e w4 ⟨rfl, hr4, hg4⟩
        have htb : TB w4 G (srow (sdp s x q n) m) := by
          obtain ⟨cur, h1, h2⟩ := HI.out.2.1
          refine ⟨cur, ?_, h2⟩
          rw [hg4.block G (Array.getElem?_eq_some_iff.1 h1).1 (by simp; omega)]
          exact h1
        have hln : m < (srow (sdp s x q n) m).length := by rw [srow_len _ _ (by rw [sdp_len]; omega), sdp_len]; exact hlt
        have c0 := htb.cell m hln
        have f0 := htb.frozen m
        have hts := htb.set m hln X
        rw [HX.out, srow_step (sdp s x q n) m (by rw [sdp_len]; exact hlt), ← HX.out] at hts
        have HJ : Hid (RtR w c s x q n G (.int .i64 ((m : Int) + 1)) (w4.setCell ⟨G, m, none⟩ (.string X))) := by
          refine ⟨m + 1, by omega, by congr 1, by rw [em]; exact hy, ?_, hts, grown_new (HI.out.2.2.1.trans hg4) hsz1 _, hsz1⟩
          rw [em]
          exact hr4.grown (grown_setC w4 G m _) (by simp; omega)
        generalize (srow (sdp s x q n) m)[m] = Y at *
        clear hts htb hsd hr4 hg4 HI HX hln
        go_wp2
        go_roundw
        case rel => exact HJ.out
        case measure => simp [intOf]; omega
      · have hsd := readerPiece_no c (q + m * x) s x wr HI.out.1 hs hqm hx (by omega)
        have hno : ¬ q + n * x ≤ s.size := fun hh => by
          have h2 : (m + 1) * x ≤ n * x := Nat.mul_le_mul_right _ hlt
          omega
        have HF : Hid (∀ w', Below wr.heap.size wr w' → P (.panicked [unR]) w') := fun w' hb => by
          rw [HP.out, if_neg hno]
          exact ⟨rfl, HI.out.2.2.1.trans (grown_below hb)⟩
        clear HI
        go_wp2_with fail
        refine hsd.mono ?_
        rintro e w4 ⟨rfl, hb4⟩
        have hF := HF.out _ hb4
        clear HF hb4 hsd HP
        go_wp2
        exact ⟨rfl, hF⟩
    · have hme : m = n := by omega
      subst hme
      have i1 : ¬ (m : Int) < (m : Int) := by omega
      have HF : Hid (P (.returned (.slice (some ⟨G, 0, none⟩) m m)) wr) := by
        show P (.returned (.slice (some ⟨G, 0, none⟩) m m)) wr
        rw [HP.out, if_pos hqm]
        have e : srow (sdp s x q m) m = sdp s x q m := by
          have := srow_all (sdp s x q m)
          rw [sdp_len] at this
          exact this
        have h2 := HI.out.2.1
        rw [e] at h2
        exact ⟨⟨G, rfl, h2, hsz1, HI.out.1⟩, HI.out.2.2.1⟩
      clear HI HP
      go_wp2
      exact HF.out

set_option maxRecDepth 100000 in
set_option maxHeartbeats 1000000 in
theorem readerHashes_no (c p : Nat) (s : ByteArray) (lim x : Nat) (w : World) (h : Rd w c s p) (hs : s.size ≤ 1048576) (hp : p ≤ s.size) (hl : lim ≤ 1000) (hno : M.readVar s.data.toList p = none ∨ ∃ n q, M.readVar s.data.toList p = some (n, q) ∧ lim < n) :
    Calls Tryz.prog 33 #[.pointer (some ⟨c, 0, none⟩), .int .i64 (lim : Int), .int .i64 (x : Int)] w fun e w' => e = .panicked [unR] ∧ w.grownBy w' (some c) := by
  have hcnt := readerCount_no c p s lim w h hs hp hl hno
  clear h hno
  go_enter Tryz.func33, Tryz.ntmps33
  go_wp2_with fail
  refine hcnt.mono ?_
  rintro e w1 ⟨rfl, hb1⟩
  have HF : Hid (w.grownBy w1 (some c)) := grown_below hb1
  clear hcnt hb1
  go_wp2
  exact ⟨rfl, rfl, HF.out⟩

end Go.Proofs.YtfiapodjiifmaaaGreatDoor
/-
  A proof that is answered, and a word beside it.
-/
namespace Go.Proofs.YtfiapodjiifmaaaGreatDoor
open Go.RowKit Go.BigFrame Go.Sort
set_option linter.unusedVariables false
set_option linter.unusedSimpArgs false

/-- a proof answered, in new memory, and a word beside it -/
def PvP (B : List Le) (S : List ByteArray) (b : Bool) (w : World) (e : Ending) (w' : World) : Prop := ∃ ab cb aS cS gb gs, e = .returned (.tuple #[.agg #[.slice ab B.length cb, .slice aS S.length cS], .bool b]) ∧ RW 2 lcs w' (.slice ab B.length cb) gb B ∧ TS w' (.slice aS S.length cS) gs S ∧ w.heap.size ≤ gb ∧ w.heap.size ≤ gs ∧ ((0 < B.length → 0 < S.length → gb ≠ gs) ∧ S.length ≤ cS) ∧ Below w.heap.size w w'
theorem PvP.no {w w' : World} (hb : Below w.heap.size w w') : PvP [] [] false w (.returned (.tuple #[.agg #[.slice none 0 0, .slice none 0 0], .bool false])) w' :=
  ⟨none, 0, none, 0, w.heap.size, w.heap.size, rfl, RW.nil _ _, TS.nil _ _, Nat.le_refl _, Nat.le_refl _, ⟨fun h => absurd h (by simp), Nat.le_refl _⟩, hb⟩

end Go.Proofs.YtfiapodjiifmaaaGreatDoor
/-
  What PadText answers, in plain words; a row of bytes that the call owns, also one that was made of a string.
-/
namespace Go.Proofs.YtfiapodjiifmaaaGreatDoor
open Go.RowKit
set_option linter.unusedVariables false

/-- the byte of place j of the length, the highest first -/
def lenB (n j : Nat) : UInt8 := UInt8.ofNat (n / 256 ^ (7 - j))
def lenL (n k : Nat) : List UInt8 := (List.range k).map (lenB n)
def padZ (n : Nat) : Nat := (119 - n % 64) % 64
def padL (l : List UInt8) : List UInt8 := (l ++ [128] ++ List.replicate (padZ l.length) 0) ++ lenL (8 * l.length) 8

theorem lenL_len (n k : Nat) : (lenL n k).length = k := by simp [lenL]
theorem lenL_succ (n k : Nat) : lenL n (k + 1) = lenL n k ++ [lenB n k] := by simp [lenL, List.range_succ]
theorem padZ_mod (n : Nat) : (n + 1 + padZ n) % 64 = 56 := by unfold padZ; omega
theorem padZ_least (n k : Nat) (h : k < padZ n) : (n + 1 + k) % 64 ≠ 56 := by unfold padZ at h; omega
theorem padL_len (l : List UInt8) : (padL l).length = l.length + 1 + padZ l.length + 8 := by
  unfold padL
  rw [List.length_append, lenL_len]
  simp
  omega
theorem padL_blocks (l : List UInt8) : (padL l).length = (l.length + 72) / 64 * 64 := by
  rw [padL_len]
  unfold padZ
  omega

/-- v owns the bytes l, in blocks from B on; what lies behind its row may bear a mark; below B all is as it was in w0 -/
def OG (B : Nat) (w0 w : World) (v : Value) (l : List UInt8) : Prop :=
  (∃ (g cap : Nat) (cur : Array Value) (fz : Nat × Nat), v = .slice (some ⟨g, 0, none⟩) l.length cap ∧ B ≤ g ∧ w.heap[g]? = some (.cells cur 5 fz) ∧ (fz = (0, 0) ∨ cap ≤ fz.1) ∧ l.length ≤ cap ∧ cap ≤ maxLen ∧ cur.size = cap ∧
    ∀ j (h : j < l.length), cur[j]? = some (.int .u8 (l[j].toNat : Int))) ∧ Below B w0 w ∧ B ≤ w.heap.size

theorem OG.alloc {B : Nat} {w0 w : World} {v : Value} {l : List UInt8} (h : OG B w0 w v l) (o : Obj) : OG B w0 (w.alloc o) v l := by
  obtain ⟨⟨g, cap, cur, fz, hv, hb, hg, hr⟩, h2, h3⟩ := h
  exact ⟨⟨g, cap, cur, fz, hv, hb, by rw [Go.heap_alloc_old w o (Array.getElem?_eq_some_iff.1 hg).1]; exact hg, hr⟩, h2.alloc h3 o, by simp; omega⟩

theorem OG.size {B : Nat} {w0 w : World} {v : Value} {l : List UInt8} (h : OG B w0 w v l) : ∃ a cap, v = .slice a l.length cap := by
  obtain ⟨⟨g, cap, cur, fz, hv, _⟩, _⟩ := h
  exact ⟨_, cap, hv⟩

theorem OG.conv (t : ByteArray) (w : World) (ht : t.size ≤ maxLen) : ∃ (w' : World) (cap : Nat), (convert 9 22 (.string t)).run Tryz.prog w = .ok (.slice (some ⟨w.heap.size, 0, none⟩) t.size cap) w' ∧ OG w.heap.size w w' (.slice (some ⟨w.heap.size, 0, none⟩) t.size cap) t.data.toList := by
  have h1 : t.data.toList.length = t.size := Array.length_toList
  have hge := grownCap_ge w t.size 0 5
  have hcm := grownCap_le_maxLen w t.size 0 5 ht
  refine ⟨Lib.bytesWorld w 5 t, grownCap w t.size 0 5, Lib.run_convert_string_bytes w 9 22 5 t Tryz.underlying9 Tryz.underlying22 Tryz.underlying5, ⟨_, _, _, _, by rw [h1], Nat.le_refl _, Lib.bytesWorld_at_new w 5 t, ?_, by omega, hcm, ?_, ?_⟩, ⟨?_, ?_, ?_, ?_, ?_⟩, ?_⟩
  · right
    simp [Lib.bytesCells]
    have : t.data.size = t.size := rfl
    omega
  · simp [Lib.bytesCells]
    have : t.data.size = t.size := rfl
    omega
  · intro j hj
    have hj' : j < t.data.size := by have : t.data.size = t.size := rfl; omega
    have hj2 : j < t.size := hj'
    simp [Lib.bytesCells, Array.getElem?_append, hj2]
  · simp [Lib.bytesWorld, World.freeze, World.alloc, World.drew, -World.alloc_eq, -World.drew_eq]
  · simp [Lib.bytesWorld, World.freeze, World.alloc, World.drew, -World.alloc_eq, -World.drew_eq]
  · simp [Lib.bytesWorld, World.freeze, World.alloc, World.drew, -World.alloc_eq, -World.drew_eq]
  · rw [Lib.bytesWorld_size]; omega
  · intro b hb
    exact Lib.bytesWorld_at_old w 5 t b hb
  · rw [Lib.bytesWorld_size]; omega

/-- one byte more -/
theorem OG.app {B : Nat} {w0 w : World} {v : Value} {l : List UInt8} (h : OG B w0 w v l) (ty : TypeId) (ad : Addr) (c : Nat) (b : UInt8) (hx : w.cell? ad = some (.int .u8 (b.toNat : Int))) (hlen : l.length + 1 ≤ 1000000000) :
    ∃ v' w', (Builtin.append_ #[22, 22] ty #[v, .slice (some ad) 1 c]).run Tryz.prog w = .ok v' w' ∧ OG B w0 w' v' (l ++ [b]) := by
  obtain ⟨i0, hi, hz0, hz1, hz2⟩ := info_parts Tryz.info5
  obtain ⟨⟨g, cap, cur, fz, rfl, hb, hg, hfz, hn, hm, hcs, hcell⟩, hbel, hB⟩ := h
  have hglt := (Array.getElem?_eq_some_iff.1 hg).1
  have hnews : ∀ j u, [Value.int .u8 (b.toNat : Int)][j]? = some u → w.cell? (ad.add j) = some u := by
    intro j u hj
    have h0 : j = 0 := by
      rcases Nat.eq_zero_or_pos j with h0 | h0
      · exact h0
      · simp [List.getElem?_eq_none (show [Value.int .u8 (b.toNat : Int)].length ≤ j by simp; omega)] at hj
    subst h0
    simp at hj
    subst hj
    have : ad.add 0 = ad := by unfold Addr.add; split <;> simp_all
    rw [this]; exact hx
  by_cases hroom : l.length + 1 ≤ cap
  · have hi' : l.length < cur.size := by omega
    have hadd : (⟨g, 0, none⟩ : Addr).add l.length = ⟨g, l.length, none⟩ := by unfold Addr.add; split <;> simp_all
    have hadd0 : (⟨g, l.length, none⟩ : Addr).add 0 = ⟨g, l.length, none⟩ := by unfold Addr.add; split <;> simp_all
    have hc : w.cell? ⟨g, l.length, none⟩ = some cur[l.length] := by simp [World.cell?, hg, hi']
    have hf : w.frozen? ⟨g, l.length, none⟩ = false := by
      obtain ⟨lo, hi2⟩ := fz
      simp only [World.frozen?, hg, Bool.and_eq_false_iff, decide_eq_false_iff_not]
      rcases hfz with h0 | h0
      · simp at h0; right; omega
      · left; simp only at h0; omega
    have hfc := run_firstCells_some (P := Tryz.prog) w 1 1 ad 1 c [Value.int .u8 (b.toNat : Int)] rfl hnews
    have hst := run_store Tryz.prog w ⟨g, l.length, none⟩ (.int .u8 (b.toNat : Int)) .plain rfl
    rw [hc] at hst
    simp [hf] at hst
    refine ⟨.slice (some ⟨g, 0, none⟩) (l.length + 1) cap, w.setCell ⟨g, l.length, none⟩ (.int .u8 (b.toNat : Int)), ?_, ⟨g, cap, cur.setIfInBounds l.length (.int .u8 (b.toNat : Int)), fz, by simp, hb, ?_, hfz, by simpa using hroom, hm, by simpa using hcs, ?_⟩, hbel.setCell (p := ⟨g, l.length, none⟩) hb _, by simpa using hB⟩
    · simp [Builtin.append_, run_underlying Tryz.underlying22, sizeOf, typeInfo, hi, hz1, Builtin.lenOf, hroom, hfc, storeCells, hadd, hadd0, hst]
    · have := setCell_eq_setRow w g l.length cur 5 fz (.int .u8 (b.toNat : Int)) hg
      rw [this]
      exact setRow_heap w g cur _ 5 _ hg
    · intro j hj
      rw [Array.getElem?_setIfInBounds]
      by_cases he : l.length = j
      · subst he
        simp [hi']
      · rw [if_neg he]
        have hj2 : j < l.length := by simp at hj; omega
        rw [hcell j hj2, List.getElem_append_left hj2]
  · have hxs : ∀ j u, (bv l)[j]? = some u → w.cell? ((⟨g, 0, none⟩ : Addr).add j) = some u := by
      intro j u hj
      obtain ⟨hj', rfl⟩ := bv_get _ _ _ hj
      have hadd : (⟨g, 0, none⟩ : Addr).add j = ⟨g, j, none⟩ := by unfold Addr.add; split <;> simp_all
      rw [hadd, cell_of_row w g j cur 5 fz hg]
      exact hcell j hj'
    have hr := run_append_grow (P := Tryz.prog) w 22 ty 5 i0 (.int .u8 0) Tryz.underlying22 hi hz0 ⟨g, 0, none⟩ l.length cap (bv l) (by rw [hz1]; simp [bv]) hxs ad 1 c [Value.int .u8 (b.toNat : Int)] (by rw [hz1]; rfl) hnews (by omega) (by omega) (growslice_fits (by omega) (by rw [hz2]; omega))
    have hge := grownCap_ge w (l.length + 1) cap 5
    have hcm := grownCap_le_maxLen w (l.length + 1) cap 5 (by unfold maxLen; omega)
    refine ⟨_, _, hr, ⟨w.heap.size, _, _, (0, 0), by simp, by omega, heap_alloc_new w.drew _, .inl rfl, by simpa using hge, hcm, ?_, ?_⟩, (hbel.drew).alloc hB _, by simp; omega⟩
    · have hz : (Value.int IntKind.u8 0).cells.size = 1 := rfl
      simp only [Array.size_append, List.size_toArray, size_zeroCells, hz, bv_length]
      simp
      omega
    · intro j hj
      have hj2 : j < l.length + 1 := by simpa using hj
      simp only [List.append_toArray]
      rw [Array.getElem?_append_left (by simp [bv]; omega)]
      by_cases he : j < l.length
      · simp [bv, List.getElem?_append_left, he, List.getElem_append_left]
      · have : j = l.length := by omega
        subst this
        simp [bv]

/-- 'string(b)' -/
theorem OG.str {B : Nat} {w0 w : World} {v : Value} {l : List UInt8} (h : OG B w0 w v l) : (convert 22 9 v).run Tryz.prog w = .ok (.string ⟨l.toArray⟩) w := by
  obtain ⟨⟨g, cap, cur, fz, rfl, hb, hg, hfz, hn, hm, hcs, hcell⟩, hbel, hB⟩ := h
  refine run_convert_bytes_back w 22 9 5 ⟨g, 0, none⟩ cap l Tryz.underlying22 Tryz.underlying5 Tryz.underlying9 ?_
  intro j hj
  have hadd : (⟨g, 0, none⟩ : Addr).add j = ⟨g, j, none⟩ := by unfold Addr.add; split <;> simp_all
  rw [hadd, cell_of_row w g j cur 5 fz hg]
  exact hcell j hj

theorem wp_appg {w : World} {ops : Array Oper} {rest : List Oper} {o : Oper} {a : Act} {Q : Exit → Act → World → Prop} (hgd : o.guard = none) (s x : Operand)
    (ho : o.op = .call { callee := .builtin .append, args := #[s, x], argTypes := #[22, 22] })
    (B : Nat) (w0 : World) (v : Value) (l : List UInt8) (hs : a.eval s = v) (hown : OG B w0 w v l)
    (ad : Addr) (c : Nat) (b : UInt8) (hx : a.eval x = .slice (some ad) 1 c)
    (hnews : w.cell? ad = some (.int .u8 (b.toNat : Int))) (hlen : l.length + 1 ≤ 1000000000)
    (h : ∀ v' w', OG B w0 w' v' (l ++ [b]) → wpList Tryz.prog ops Q rest (a.put o.dst v') w') : wpList Tryz.prog ops Q (o :: rest) a w := by
  refine wpList_plain hgd fun K hK => ?_
  obtain ⟨v', w', hr, h2⟩ := hown.app o.type ad c b hnews hlen
  unfold Oper.wp
  simp [execOp, ho, resolve, invoke, builtin, hs, hx, hr, Result.andThen]
  exact hK _ _ (h v' w' h2)

end Go.Proofs.YtfiapodjiifmaaaGreatDoor
/-
  What ShortText answers, the program's and the specification's: varL of the length, and the text.
-/
namespace Go.Proofs.YtfiapodjiifmaaaGreatDoor
open Go.RowKit

theorem varA_size (n : Nat) : (⟨(M.varL n).toArray⟩ : ByteArray).size ≤ 10 := by
  have := M.varL_len n
  show (M.varL n).toArray.size ≤ 10
  simpa using this

theorem Short_yes (s : ByteArray) (w : World) (hs : s.size ≤ 20000) :
    Calls Tryz.prog 58 #[.string s] w fun e w' => e = .returned (.tuple #[.string (⟨(M.varL s.size).toArray⟩ ++ s), .bool true]) ∧ Below w.heap.size w w' := by
  have hz := varA_size s.size
  go_enter Tryz.func58, Tryz.ntmps58
  go_wp2_with fail
  refine (VarText_yes s.size _ (by omega)).mono ?_
  rintro e w' ⟨rfl, hb⟩
  go_wp2
  go_ret2
  exact ⟨rfl, hb⟩

theorem Short_no (s : ByteArray) (w : World) (hs : 20000 < s.size) (hm : s.size ≤ 1048576) :
    Calls Tryz.prog 58 #[.string s] w fun e w' => e = .returned (.tuple #[.string ⟨#[]⟩, .bool false]) ∧ Below w.heap.size w w' := by
  go_enter Tryz.func58, Tryz.ntmps58
  go_wp2
  go_ret2
  exact ⟨rfl, Below.refl _ _⟩

end Go.Proofs.YtfiapodjiifmaaaGreatDoor
/-
  The text of leaves: the program's and the specification's answers.
-/
namespace Go.Proofs.YtfiapodjiifmaaaGreatDoor
open Go.RowKit Go.BigFrame Go.Sort
set_option linter.unusedVariables false
set_option linter.unusedSimpArgs false

theorem OG.later {B : Nat} {w0 w w' : World} {v : Value} {l : List UInt8} (h : OG B w0 w v l) (hb : Below w.heap.size w w') : OG B w0 w' v l := by
  obtain ⟨⟨g, cap, cur, fz, hv, hB, hg, hr⟩, h2, h3⟩ := h
  exact ⟨⟨g, cap, cur, fz, hv, hB, by rw [hb.block g (Array.getElem?_eq_some_iff.1 hg).1]; exact hg, hr⟩, h2.trans (hb.mono h3), Nat.le_trans h3 hb.size⟩
theorem OG.from {B : Nat} {w0 w1 w : World} {v : Value} {l : List UInt8} (h : OG B w1 w v l) (hb : Below B w0 w1) : OG B w0 w v l := ⟨h.1, hb.trans h.2.1, h.2.2⟩
theorem OG.mono {B B' : Nat} {w0 w : World} {v : Value} {l : List UInt8} (h : OG B' w0 w v l) (hB : B ≤ B') : OG B w0 w v l := by
  obtain ⟨⟨g, cap, cur, fz, hv, hb, hg, hr⟩, h2, h3⟩ := h
  exact ⟨⟨g, cap, cur, fz, hv, by omega, hg, hr⟩, h2.mono hB, by omega⟩

/-- a string's bytes more -/
theorem OG.appStr {B : Nat} {w0 w : World} {v : Value} {l : List UInt8} (h : OG B w0 w v l) (ty : TypeId) (t : ByteArray) (hlen : l.length + t.size ≤ 1000000000) :
    ∃ v' w', (Builtin.append_ #[22, 9] ty #[v, .string t]).run Tryz.prog w = .ok v' w' ∧ OG B w0 w' v' (l ++ t.data.toList) := by
  obtain ⟨i0, hi, hz0, hz1, hz2⟩ := info_parts Tryz.info5
  have htl : t.data.toList.length = t.size := Array.length_toList
  obtain ⟨⟨g, cap, cur, fz, rfl, hb, hg, hfz, hn, hm, hcs, hcell⟩, hbel, hB⟩ := h
  by_cases hroom : l.length + t.size ≤ cap
  · have hc : ∀ j, j < t.size → (w.cell? ⟨g, l.length + j, none⟩).isSome = true := fun j hj => by
      rw [cell_of_row w g (l.length + j) cur 5 fz hg, Array.getElem?_eq_getElem (by omega)]
      rfl
    have hf : ∀ j, j < t.size → w.frozen? ⟨g, l.length + j, none⟩ = false := fun j hj => by
      obtain ⟨lo, hi2⟩ := fz
      simp only [World.frozen?, hg, Bool.and_eq_false_iff, decide_eq_false_iff_not]
      rcases hfz with h0 | h0
      · simp at h0; right; omega
      · left; simp only at h0; omega
    have hfc := Lib.run_firstCells_string (P := Tryz.prog) w 1 t
    have hst := run_storeCells_cells (P := Tryz.prog) g l.length (Lib.strCells t) 0 w (fun j hj => by rw [Lib.strCells_length] at hj; simpa using hc j hj) (fun j hj => by rw [Lib.strCells_length] at hj; simpa using hf j hj) (Lib.strCells_oneCell t)
    have hset : ∀ (vs : List Value) (o : Nat) (W : World) (c : Array Value), W.heap[g]? = some (.cells c 5 fz) → o + vs.length ≤ c.size → ∃ c', (W.setCells g o vs).heap[g]? = some (.cells c' 5 fz) ∧ c'.size = c.size ∧ (∀ j, j < o → c'[j]? = c[j]?) ∧ ∀ j (h : j < vs.length), c'[o + j]? = some vs[j] := by
      intro vs
      induction vs with
      | nil => intro o W c hW ho; exact ⟨c, hW, rfl, fun _ _ => rfl, fun j h => absurd h (by simp)⟩
      | cons x r ih =>
        intro o W c hW ho
        have hx : (W.setCell ⟨g, o, none⟩ x).heap[g]? = some (.cells (c.setIfInBounds o x) 5 fz) := by
          have := setCell_eq_setRow W g o c 5 fz x hW
          rw [this]
          exact setRow_heap W g c _ 5 _ hW
        simp only [List.length_cons] at ho
        obtain ⟨c', h1, h2, h3, h4⟩ := ih (o + 1) (W.setCell ⟨g, o, none⟩ x) _ hx (by simp; omega)
        refine ⟨c', h1, by simpa using h2, fun j hj => ?_, fun j hj => ?_⟩
        · rw [h3 j (by omega), Array.getElem?_setIfInBounds, if_neg (by omega)]
        · match j, hj with
          | 0, _ => rw [Nat.add_zero, h3 o (by omega)]; simp [show o < c.size by omega]
          | j + 1, hj =>
            have := h4 j (by simpa using hj)
            rw [show o + 1 + j = o + (j + 1) by omega] at this
            rw [this]
            rfl
    obtain ⟨c', h1, h2, h3, h4⟩ := hset (Lib.strCells t) l.length w cur hg (by rw [Lib.strCells_length]; omega)
    refine ⟨.slice (some ⟨g, 0, none⟩) (l.length + t.size) cap, w.setCells g l.length (Lib.strCells t), ?_, ⟨g, cap, c', fz, by simp [htl], hb, h1, hfz, by simp [htl]; omega, hm, by omega, ?_⟩, below_setCells hb _ _ _ hbel, by rw [size_setCells]; exact hB⟩
    · have hadd : (⟨g, 0, none⟩ : Addr).add l.length = ⟨g, l.length, none⟩ := by unfold Addr.add; split <;> simp_all
      simp only [Nat.add_zero] at hst
      simp [Builtin.append_, run_underlying Tryz.underlying22, run_underlying Tryz.underlying9, sizeOf, typeInfo, hi, hz1, Builtin.lenOf, hroom, hfc, hadd, hst]
    · intro j hj
      by_cases he : j < l.length
      · rw [h3 j he, hcell j he, List.getElem_append_left he]
      · obtain ⟨k, rfl⟩ : ∃ k, j = l.length + k := ⟨j - l.length, by omega⟩
        have hk : k < (Lib.strCells t).length := by rw [Lib.strCells_length]; simp [htl] at hj; omega
        rw [h4 k hk, List.getElem_append_right (by omega)]
        simp [Lib.strCells]
  · have hxs : ∀ j u, (bv l)[j]? = some u → w.cell? ((⟨g, 0, none⟩ : Addr).add j) = some u := by
      intro j u hj
      obtain ⟨hj', rfl⟩ := bv_get _ _ _ hj
      have hadd : (⟨g, 0, none⟩ : Addr).add j = ⟨g, j, none⟩ := by unfold Addr.add; split <;> simp_all
      rw [hadd, cell_of_row w g j cur 5 fz hg]
      exact hcell j hj'
    have hr := Lib.run_append_grow_string (P := Tryz.prog) w 22 9 ty 5 i0 (.int .u8 0) Tryz.underlying22 Tryz.underlying9 hi hz0 ⟨g, 0, none⟩ l.length cap (bv l) (by rw [hz1]; simp [bv]) hxs t (by omega) (by omega) (growslice_fits (by omega) (by rw [hz2]; omega))
    have hge := grownCap_ge w (l.length + t.size) cap 5
    have hcm := grownCap_le_maxLen w (l.length + t.size) cap 5 (by unfold maxLen; omega)
    refine ⟨_, _, hr, ⟨w.heap.size, _, _, (0, 0), by simp [htl], by omega, heap_alloc_new w.drew _, .inl rfl, by simp [htl]; omega, hcm, ?_, ?_⟩, (hbel.drew).alloc hB _, by simp; omega⟩
    · have hz : (Value.int IntKind.u8 0).cells.size = 1 := rfl
      simp only [Array.size_append, List.size_toArray, size_zeroCells, hz, bv_length, Lib.strCells_length]
      omega
    · intro j hj
      have hj2 : j < l.length + t.size := by simpa [htl] using hj
      rw [Array.getElem?_append_left (by simp [bv, Lib.strCells_length]; omega)]
      by_cases he : j < l.length
      · rw [Array.getElem?_append_left (by simp [bv]; omega)]
        simp [bv, he, List.getElem_append_left]
      · rw [Array.getElem?_append_right (by simp [bv]; omega)]
        have : j - l.length < t.size := by omega
        simp [bv, Lib.strCells, List.getElem_append_right, Nat.le_of_not_lt he, List.getElem?_eq_getElem (show j - l.length < t.data.toList.length by omega)]

theorem wp_appGS {w : World} {ops : Array Oper} {rest : List Oper} {o : Oper} {a : Act} {Q : Exit → Act → World → Prop} (hgd : o.guard = none) (s x : Operand)
    (ho : o.op = .call { callee := .builtin .append, args := #[s, x], argTypes := #[22, 9] })
    (B : Nat) (w0 : World) (v : Value) (l : List UInt8) (hs : a.eval s = v) (hown : OG B w0 w v l) (t : ByteArray) (hx : a.eval x = .string t) (hlen : l.length + t.size ≤ 1000000000)
    (h : ∀ v' w', OG B w0 w' v' (l ++ t.data.toList) → wpList Tryz.prog ops Q rest (a.put o.dst v') w') : wpList Tryz.prog ops Q (o :: rest) a w := by
  refine wpList_plain hgd fun K hK => ?_
  obtain ⟨v', w', hr, h2⟩ := hown.appStr o.type t hlen
  unfold Oper.wp
  simp [execOp, ho, resolve, invoke, builtin, hs, hx, hr, Result.andThen]
  exact hK _ _ (h v' w' h2)

/-- the text of the first m leaves, behind how many there are -/
def lvP (L : List Le) (m : Nat) : List UInt8 := M.varL L.length ++ LV.ltL (L.take m)
theorem lvP_zero (L : List Le) : lvP L 0 = M.varL L.length := by simp [lvP, LV.ltL]
theorem lvP_all (L : List Le) : lvP L L.length = LV.lvL L := by simp [lvP, LV.lvL]
theorem lvP_step {L : List Le} {m : Nat} (h : m < L.length) : lvP L (m + 1) = lvP L m ++ LV.leL L[m] := by
  unfold lvP
  rw [List.take_succ_eq_append_getElem h, LV.ltL_snoc, List.append_assoc]
theorem lvP_len {L : List Le} (h : LV.LOk L) (m : Nat) : (lvP L m).length ≤ 1100 := by
  have h1 := M.varL_len L.length
  have h2 := LV.ltL_len (L := L.take m) (fun f hf => h.2.1 f (List.mem_of_mem_take hf))
  have h3 := h.1
  have h4 : (L.take m).length ≤ 24 := by simp; omega
  simp only [lvP, List.length_append]
  omega

def LvR (L : List Le) (w : World) (v i : Value) (wr : World) : Prop := ∃ m : Nat, m ≤ L.length ∧ i = .int .i64 m ∧ OG w.heap.size w wr v (lvP L m)

noncomputable def lvT (L : List Le) : ByteArray := if LV.leavesB L then ⟨(LV.lvL L).toArray⟩ else ⟨#[]⟩
theorem lvT_yes {L : List Le} (h : LV.leavesB L = true) : lvT L = ⟨(LV.lvL L).toArray⟩ := if_pos h
theorem lvT_no {L : List Le} (h : LV.leavesB L = false) : lvT L = ⟨#[]⟩ := if_neg (by rw [h]; simp)

set_option maxRecDepth 100000 in
set_option maxHeartbeats 1000000 in
theorem LeavesText_any (v : Value) (ga oa : Nat) (L : List Le) (w : World) (hv : RS 2 lcs w v ga oa L) (hsm : SmallL L) :
    Calls Tryz.prog 28 #[v] w fun e w' => e = .returned (.tuple #[.string (lvT L), .bool (LV.leavesB L)]) ∧ Below w.heap.size w w' := by
  have HOK := LeavesOk_any v ga oa L w hv hsm
  have HVV : Hid (RS 2 lcs w v ga oa L) := hv
  obtain ⟨a, cap, rfl, hl, hA, hc⟩ := hv
  obtain ⟨n, hn⟩ : ∃ n, L.length = n := ⟨_, rfl⟩
  have HA : Hid (0 < n → a = some ⟨ga, oa, none⟩) := by rw [← hn]; exact fun h => (hA h).1
  clear hc hA
  cases hR : LV.leavesB L
  · rw [lvT_no hR]
    rw [hR] at HOK
    rw [hn] at HOK ⊢
    clear HVV HA
    go_enter Tryz.func28, Tryz.ntmps28
    go_wp2_with fail
    refine HOK.mono ?_
    rintro e w1 ⟨rfl, hb1⟩
    go_wp2
    go_ret2
    exact ⟨rfl, hb1⟩
  · obtain ⟨T, hT⟩ : ∃ T, lvT L = T := ⟨_, rfl⟩
    have HT : Hid ((⟨(LV.lvL L).toArray⟩ : ByteArray) = T) := by rw [← hT, lvT_yes hR]; rfl
    have hok := LV.leavesB_iff.1 hR
    have HL : Hid (LV.LOk L) := hok
    have h24 := hok.1
    rw [hR] at HOK
    rw [hT]
    rw [hn] at h24 hl HOK ⊢
    clear hT hok hR hsm
    go_enter Tryz.func28, Tryz.ntmps28
    go_wp2_with fail
    refine HOK.mono ?_
    rintro e w1 ⟨rfl, hb1⟩
    clear HOK
    go_wp2_with fail
    refine (VarText_yes n _ (by omega)).mono ?_
    rintro e w2 ⟨rfl, hb2⟩
    have b2 := hb1.trans (hb2.mono hb1.size)
    have hvz := varA_size n
    obtain ⟨w3, cap3, hcv, ho3⟩ := OG.conv ⟨(M.varL n).toArray⟩ w2 (by unfold maxLen; omega)
    have HST : Hid (LvR L w (.slice (some ⟨w2.heap.size, 0, none⟩) (⟨(M.varL n).toArray⟩ : ByteArray).size cap3) (.int .i64 0) w3) := by
      refine ⟨0, by omega, rfl, ?_⟩
      rw [lvP_zero, hn]
      exact OG.from (OG.mono (by simpa using ho3) b2.size) b2
    clear ho3 hb1 hb2
    generalize (⟨(M.varL n).toArray⟩ : ByteArray) = V at *
    go_wp2
    clear hcv
    go_loopw [6, 26] (fun v i wr => LvR L w v i wr) (fun _ i _ => n - (intOf i).toNat)
    case atStart => exact HST.out
    case round =>
      obtain ⟨m, hm, rfl, hown⟩ := hrel
      rw [hn] at hm
      clear HST
      by_cases hlt : m < n
      · have ea := HA.out (by omega)
        subst ea
        obtain ⟨c0, c1⟩ := (HVV.out.later hown.2.1).leaf m (by omega)
        have i1 : (m : Int) < (n : Int) := by omega
        have i2 : (0 : Int) ≤ (m : Int) := by omega
        obtain ⟨X, hX⟩ : ∃ X, L[m]'(by omega) = X := ⟨_, rfl⟩
        rw [hX] at c0 c1
        have hxs := LV.leB_sizes (HL.out.2.1 X (by rw [← hX]; exact List.getElem_mem _))
        have hsz := lvP_len HL.out m
        have HN : Hid (∀ v W, OG w.heap.size w W v (lvP L m ++ (⟨(M.varL X.n.size).toArray⟩ ++ X.n : ByteArray).data.toList ++ (⟨(M.varL X.v.size).toArray⟩ ++ X.v : ByteArray).data.toList) → LvR L w v (.int .i64 ((m : Int) + 1)) W) := by
          intro v W hW
          refine ⟨m + 1, by omega, by simp, ?_⟩
          rw [lvP_step (by omega), hX]
          simpa [LV.leL, ByteArray.data_append] using hW
        have hva := varA_size X.n.size
        have hvb := varA_size X.v.size
        clear HVV HA HL hX HT
        generalize lvP L m = S at *
        have hown0 := hown.alloc (.cells #[.string X.n, .string X.v] 53)
        clear hown
        go_wp2_with fail
        refine (Short_yes X.n _ (by omega)).mono ?_
        rintro e w4 ⟨rfl, hb4⟩
        have hown1 := hown0.later hb4
        have d1 : w4.cell? ⟨wr.heap.size, 1, none⟩ = some (.string X.v) := by
          rw [hb4.cell (p := ⟨wr.heap.size, 1, none⟩) (by simp)]
          simp
        clear hown0 hb4
        go_wp2_with fail
        refine (Short_yes X.v _ (by omega)).mono ?_
        rintro e w5 ⟨rfl, hb5⟩
        have hown2 := hown1.later hb5
        have hz : ((⟨(M.varL X.n.size).toArray⟩ : ByteArray) ++ X.n).size ≤ 30 := by
          rw [ByteArray.size_append]
          omega
        have hz2 : ((⟨(M.varL X.v.size).toArray⟩ : ByteArray) ++ X.v).size ≤ 30 := by
          rw [ByteArray.size_append]
          omega
        generalize (⟨(M.varL X.n.size).toArray⟩ : ByteArray) ++ X.n = Y at *
        generalize (⟨(M.varL X.v.size).toArray⟩ : ByteArray) ++ X.v = Z at *
        clear hown1 hb5 d1
        have hyl : Y.data.toList.length = Y.size := Array.length_toList
        go_wp2_with (at_builtin; refine wp_appGS rfl _ _ rfl w.heap.size w _ S rfl hown2 Y rfl ?c1 ?_)
        case c1 => omega
        intro v' w6 hown3
        go_wp2_with (at_builtin; refine wp_appGS rfl _ _ rfl w.heap.size w _ _ rfl hown3 Z rfl ?c2 ?_)
        case c2 => rw [List.length_append]; omega
        intro v' w7 hown4
        go_wp2
        go_roundw
        case rel => exact HN.out _ _ (by rw [List.append_assoc]; exact hown4)
        case measure => simp [intOf]; omega
      · have hme : m = n := by omega
        have e2 : lvP L m = LV.lvL L := by rw [hme, ← hn]; exact lvP_all L
        rw [e2] at hown
        have hcv := hown.str
        rw [HT.out] at hcv
        subst hme
        clear HVV HA HL HT e2
        go_wp2
        go_ret2
        exact ⟨rfl, hown.2.1⟩

/-- the text so far -/
def lvQ (L : List Le) (m : Nat) : ByteArray := ⟨(lvP L m).toArray⟩
theorem lvQ_zero (L : List Le) : lvQ L 0 = ⟨(M.varL L.length).toArray⟩ := by unfold lvQ; rw [lvP_zero]
theorem lvQ_step {L : List Le} {m : Nat} (h : m < L.length) : lvQ L (m + 1) = lvQ L m ++ ⟨(M.varL (L[m]).n.size).toArray⟩ ++ (L[m]).n ++ ⟨(M.varL (L[m]).v.size).toArray⟩ ++ (L[m]).v := by
  refine ByteArray.ext (Array.toList_inj.1 ?_)
  unfold lvQ
  rw [lvP_step h]
  simp [ByteArray.data_append, LV.leL]
theorem lvQ_size {L : List Le} (h : LV.LOk L) (m : Nat) : (lvQ L m).size ≤ 1100 := by
  have := lvP_len h m
  unfold lvQ
  show (lvP L m).toArray.size ≤ 1100
  simpa using this

def LqR (L : List Le) (w : World) (s i : Value) (wr : World) : Prop := ∃ m : Nat, m ≤ L.length ∧ i = .int .i64 m ∧ s = .string (lvQ L m) ∧ Below w.heap.size w wr

end Go.Proofs.YtfiapodjiifmaaaGreatDoor
