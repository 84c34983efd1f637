/-
  The reader of a proof: the sides, the end.
-/
import Derived.Test.YtfojmagcoipbnaaRs
namespace Go.Proofs.Ytfojmagcoipbnaa
open Go.RowKit Go.BigFrame Go.Sort
set_option linter.unusedVariables false
set_option linter.unusedSimpArgs false

theorem grown_new {w wr : World} {c g j : Nat} (h : w.grownBy wr (some c)) (hg : w.heap.size ≤ g) (v : Value) : w.grownBy (wr.setCell ⟨g, j, none⟩ v) (some c) := by
  have hs := grown_setC wr g j v
  exact ⟨hs.os.trans h.os, hs.tape.trans h.tape, hs.output.trans h.output, Nat.le_trans h.size hs.size, fun k hk hne => (hs.block k (Nat.lt_of_lt_of_le hk h.size) (by simp; omega)).trans (h.block k hk hne)⟩

/-- k pieces of a text, each x bytes wide, from a place on -/
def sdp (s : ByteArray) (x p k : Nat) : List ByteArray := (List.range k).map fun i => piece s (p + i * x) x
theorem sdp_len (s : ByteArray) (x p k : Nat) : (sdp s x p k).length = k := by simp [sdp]
theorem sdp_at (s : ByteArray) (x p k j : Nat) (h : j < (sdp s x p k).length) : (sdp s x p k)[j] = piece s (p + j * x) x := by simp [sdp]

set_option maxRecDepth 100000 in
set_option maxHeartbeats 1000000 in
theorem readerEnd_yes (c : Nat) (s : ByteArray) (w : World) (h : Rd w c s s.size) :
    Calls Try.prog 50 #[.pointer (some ⟨c, 0, none⟩)] w fun e w' => e = .returned (.tuple #[]) ∧ Below w.heap.size w w' := by
  have d0 : w.drew.cell? ⟨c, 0, none⟩ = some (.string s) := h.c0
  have d1 : w.drew.cell? ⟨c, 1, none⟩ = some (.int .i64 (s.size : Int)) := h.c1
  clear h
  go_enter Try.func50, Try.ntmps50
  go_wp2
  go_still_tail 11, (by kernel_rfl)
  go_wp2_with fail
  refine (want_yes _ _).mono ?_
  rintro e w2 ⟨rfl, rfl⟩
  go_wp2
  go_end0
  exact ⟨rfl, (Below.refl _ _).drew⟩
set_option maxRecDepth 100000 in
set_option maxHeartbeats 1000000 in
theorem readerEnd_no (c p : Nat) (s : ByteArray) (w : World) (h : Rd w c s p) (hp : p ≠ s.size) :
    Calls Try.prog 50 #[.pointer (some ⟨c, 0, none⟩)] w fun e w' => e = .panicked [unR] ∧ Below w.heap.size w w' := by
  have d0 : w.drew.cell? ⟨c, 0, none⟩ = some (.string s) := h.c0
  have d1 : w.drew.cell? ⟨c, 1, none⟩ = some (.int .i64 (p : Int)) := h.c1
  have q1 : ((p : Int) == (s.size : Int)) = false := by simp; omega
  clear h
  go_enter Try.func50, Try.ntmps50
  go_wp2
  go_still_tail 11, (by kernel_rfl)
  go_wp2_with fail
  refine (want_no _ _).mono ?_
  rintro e w2 ⟨rfl, rfl⟩
  go_wp2
  exact ⟨rfl, rfl, (Below.refl _ _).drew⟩

set_option maxRecDepth 100000 in
set_option maxHeartbeats 1000000 in
theorem readerCount_yes (c p : Nat) (s : ByteArray) (lim n q : Nat) (w : World) (h : Rd w c s p) (hs : s.size ≤ 1048576) (hp : p ≤ s.size) (hr : M.readVar s.data.toList p = some (n, q)) (hn : n ≤ lim) (hl : lim ≤ 1000) :
    Calls Try.prog 92 #[.pointer (some ⟨c, 0, none⟩), .int .i64 (lim : Int)] w fun e w' => e = .returned (.int .i64 (n : Int)) ∧ Rd w' c s q ∧ w.grownBy w' (some c) := by
  have hq := (read_bound s p n q hr).1
  have HC : Hid (∀ W, Below w.heap.size w W → W.cell? ⟨c, 0, none⟩ = some (.string s) ∧ W.cell? ⟨c, 1, none⟩ = some (.int .i64 (p : Int))) := fun W hW => ⟨(h.later hW).c0, (h.later hW).c1⟩
  have H1 : Hid (∀ W, Calls Try.prog 124 #[.string s, .int .i64 (p : Int)] W fun e w' => e = .returned (.tuple #[.int .i64 n, .int .i64 q, .bool true]) ∧ w' = W) := fun W => ReadVar_some s (p : Int) n q W hs (by omega) (by simpa using hr)
  have hb0 : Below w.heap.size w w.drew := (Below.refl _ _).drew
  have HR : Hid (Rd w c s p) := h
  have i8 : (n : Int) ≤ (lim : Int) := by omega
  clear h hr
  go_enter Try.func92, Try.ntmps92
  go_wp2
  go_region_held3 (fun W => W.cell? ⟨c, 0, none⟩ = some (.string s) ∧ W.cell? ⟨c, 1, none⟩ = some (.int .i64 (p : Int))) (first | (go_keep; done) | exact HC.out _ hb0) (first | (go_at_call 124; refine (H1.out _).mono ?_; rintro e w1 ⟨rfl, hw1⟩; subst hw1) | fail)
  have h1 := Rd.later (W' := w.drew) HR.out hb0
  have d1 := h1.c1
  have f1 := h1.f1
  have hlt := h1.lt
  have HF : Hid (Rd (w.drew.setCell ⟨c, 1, none⟩ (.int .i64 (q : Int))) c s q ∧ w.grownBy (w.drew.setCell ⟨c, 1, none⟩ (.int .i64 (q : Int))) (some c)) := ⟨h1.at q, (grown_below hb0).trans (grown_setC w.drew c 1 _)⟩
  clear HC H1 h1 HR
  try rename_i hHeld
  try clear hHeld
  go_wp2_with fail
  refine (want_yes _ _).mono ?_
  rintro e w3 ⟨rfl, hw3⟩
  subst hw3
  go_wp2
  go_ret
  exact ⟨rfl, HF.out⟩

set_option maxRecDepth 100000 in
set_option maxHeartbeats 1000000 in
theorem readerCount_no (c p : Nat) (s : ByteArray) (lim : Nat) (w : World) (h : Rd w c s p) (hs : s.size ≤ 1048576) (hp : p ≤ s.size) (hl : lim ≤ 1000) (hno : M.readVar s.data.toList p = none ∨ ∃ n q, M.readVar s.data.toList p = some (n, q) ∧ lim < n) :
    Calls Try.prog 92 #[.pointer (some ⟨c, 0, none⟩), .int .i64 (lim : Int)] w fun e w' => e = .panicked [unR] ∧ Below w.heap.size w w' := by
  have HC : Hid (∀ W, Below w.heap.size w W → W.cell? ⟨c, 0, none⟩ = some (.string s) ∧ W.cell? ⟨c, 1, none⟩ = some (.int .i64 (p : Int))) := fun W hW => ⟨(h.later hW).c0, (h.later hW).c1⟩
  have hb0 : Below w.heap.size w w.drew := (Below.refl _ _).drew
  rcases hno with h0 | ⟨n, q, h0, h8⟩
  · have H1 : Hid (∀ W, Calls Try.prog 124 #[.string s, .int .i64 (p : Int)] W fun e w' => e = .returned (.tuple #[.int .i64 0, .int .i64 0, .bool false]) ∧ w' = W) := fun W => ReadVar_none s (p : Int) W hs (.inr ⟨by omega, by simpa using h0⟩)
    clear h h0
    go_enter Try.func92, Try.ntmps92
    go_wp2
    go_region_held3 (fun W => W.cell? ⟨c, 0, none⟩ = some (.string s) ∧ W.cell? ⟨c, 1, none⟩ = some (.int .i64 (p : Int))) (first | (go_keep; done) | exact HC.out _ hb0) (first | (go_at_call 124; refine (H1.out _).mono ?_; rintro e w1 ⟨rfl, hw1⟩; subst hw1) | fail)
    clear HC H1
    try rename_i hHeld
    try clear hHeld
    go_wp2_with fail
    refine (want_no _ _).mono ?_
    rintro e w3 ⟨rfl, rfl⟩
    go_wp2
    exact ⟨rfl, rfl, hb0⟩
  · have hq := read_bound s p n q h0
    have i8 : decide ((n : Int) ≤ (lim : Int)) = false := decide_eq_false (by omega)
    have i9 : decide (n ≤ lim) = false := decide_eq_false (by omega)
    have H1 : Hid (∀ W, Calls Try.prog 124 #[.string s, .int .i64 (p : Int)] W fun e w' => e = .returned (.tuple #[.int .i64 n, .int .i64 q, .bool true]) ∧ w' = W) := fun W => ReadVar_some s (p : Int) n q W hs (by omega) (by simpa using h0)
    clear h h0 hq
    go_enter Try.func92, Try.ntmps92
    go_wp2
    go_region_held3 (fun W => W.cell? ⟨c, 0, none⟩ = some (.string s) ∧ W.cell? ⟨c, 1, none⟩ = some (.int .i64 (p : Int))) (first | (go_keep; done) | exact HC.out _ hb0) (first | (go_at_call 124; refine (H1.out _).mono ?_; rintro e w1 ⟨rfl, hw1⟩; subst hw1) | fail)
    clear HC H1
    try rename_i hHeld
    try clear hHeld
    go_wp2_with fail
    refine (want_no _ _).mono ?_
    rintro e w3 ⟨rfl, rfl⟩
    go_wp2
    exact ⟨rfl, rfl, hb0⟩

/-- the first m texts of the row that is made are read -/
def RtR (w : World) (c : Nat) (s : ByteArray) (x q n g : Nat) (i : Value) (wr : World) : Prop := ∃ m : Nat, m ≤ n ∧ i = .int .i64 m ∧ q + m * x ≤ s.size ∧ Hid (Rd wr c s (q + m * x) ∧ TB wr g (srow (sdp s x q n) m) ∧ w.grownBy wr (some c) ∧ w.heap.size ≤ g)

set_option maxRecDepth 100000 in
set_option maxHeartbeats 1000000 in
theorem readerHashes_yes (c p : Nat) (s : ByteArray) (lim x n q : Nat) (w : World) (h : Rd w c s p) (hs : s.size ≤ 1048576) (hp : p ≤ s.size) (hx : x ≤ 4096) (hr : M.readVar s.data.toList p = some (n, q)) (hn : n ≤ lim) (hl : lim ≤ 1000) :
    Calls Try.prog 49 #[.pointer (some ⟨c, 0, none⟩), .int .i64 (lim : Int), .int .i64 (x : Int)] w fun e w' => (if q + n * x ≤ s.size then ∃ g, e = .returned (.slice (some ⟨g, 0, none⟩) n n) ∧ TB w' g (sdp s x q n) ∧ w.heap.size ≤ g ∧ Rd w' c s (q + n * x) else e = .panicked [unR]) ∧ w.grownBy w' (some c) := by
  have hq := (read_bound s p n q hr).1
  have hcnt := readerCount_yes c p s lim n q w h hs hp hr hn hl
  have hcw := h.lt
  have hn1000 : n ≤ 1000 := by omega
  clear h hr hn hl
  obtain ⟨P, hP⟩ : ∃ P : Ending → World → Prop, (fun e w' => (if q + n * x ≤ s.size then ∃ g, e = .returned (.slice (some ⟨g, 0, none⟩) n n) ∧ TB w' g (sdp s x q n) ∧ w.heap.size ≤ g ∧ Rd w' c s (q + n * x) else e = .panicked [unR]) ∧ w.grownBy w' (some c)) = P := ⟨_, rfl⟩
  have HP : Hid (∀ e w', P e w' ↔ (if q + n * x ≤ s.size then ∃ g, e = .returned (.slice (some ⟨g, 0, none⟩) n n) ∧ TB w' g (sdp s x q n) ∧ w.heap.size ≤ g ∧ Rd w' c s (q + n * x) else e = .panicked [unR]) ∧ w.grownBy w' (some c)) := fun e w' => by rw [← hP]
  rw [hP]
  clear hP
  go_enter Try.func49, Try.ntmps49
  go_wp2_with fail
  refine hcnt.mono ?_
  rintro e w1 ⟨rfl, hr1, hg1⟩
  obtain ⟨w2, hmk, hib, hb2, hs2⟩ := TB.made n (by omega) w1
  have hsz1 := hg1.size
  have HST : Hid (RtR w c s x q n w1.heap.size (.int .i64 0) w2) := ⟨0, by omega, rfl, by omega, by rw [Nat.zero_mul, Nat.add_zero]; exact hr1.later hb2, by simpa [srow, sdp_len] using hib, hg1.trans (grown_below hb2), hsz1⟩
  clear hib hb2 hs2 hr1 hg1 hcnt
  generalize w1.heap.size = G at *
  go_wp2
  clear hmk
  go_loopw [15] (fun i wr => RtR w c s x q n G i wr) (fun i _ => n - (intOf i).toNat)
  case atStart => exact HST.out
  case round =>
    obtain ⟨m, hm, rfl, hqm, HI⟩ := hrel
    clear HST
    by_cases hlt : m < n
    · have i1 : (m : Int) < (n : Int) := by omega
      have i2 : (0 : Int) ≤ (m : Int) := by omega
      have em : q + (m + 1) * x = q + m * x + x := by rw [Nat.add_mul, Nat.one_mul, Nat.add_assoc]
      by_cases hy : q + m * x + x ≤ s.size
      · have hsd := readerPiece_yes c (q + m * x) s x wr HI.out.1 hs hx hy
        have HX : Hid (piece s (q + m * x) x = (sdp s x q n)[m]'(by rw [sdp_len]; exact hlt)) := (sdp_at s x q n m _).symm
        generalize piece s (q + m * x) x = X at *
        go_wp2_with fail
        refine hsd.mono ?_
        rintro e w4 ⟨rfl, hr4, hg4⟩
        have htb : TB w4 G (srow (sdp s x q n) m) := by
          obtain ⟨cur, h1, h2⟩ := HI.out.2.1
          refine ⟨cur, ?_, h2⟩
          rw [hg4.block G (Array.getElem?_eq_some_iff.1 h1).1 (by simp; omega)]
          exact h1
        have hln : m < (srow (sdp s x q n) m).length := by rw [srow_len _ _ (by rw [sdp_len]; omega), sdp_len]; exact hlt
        have c0 := htb.cell m hln
        have f0 := htb.frozen m
        have hts := htb.set m hln X
        rw [HX.out, srow_step (sdp s x q n) m (by rw [sdp_len]; exact hlt), ← HX.out] at hts
        have HJ : Hid (RtR w c s x q n G (.int .i64 ((m : Int) + 1)) (w4.setCell ⟨G, m, none⟩ (.string X))) := by
          refine ⟨m + 1, by omega, by congr 1, by rw [em]; exact hy, ?_, hts, grown_new (HI.out.2.2.1.trans hg4) hsz1 _, hsz1⟩
          rw [em]
          exact hr4.grown (grown_setC w4 G m _) (by simp; omega)
        generalize (srow (sdp s x q n) m)[m] = Y at *
        clear hts htb hsd hr4 hg4 HI HX hln
        go_wp2
        go_roundw
        case rel => exact HJ.out
        case measure => simp [intOf]; omega
      · have hsd := readerPiece_no c (q + m * x) s x wr HI.out.1 hs hqm hx (by omega)
        have hno : ¬ q + n * x ≤ s.size := fun hh => by
          have h2 : (m + 1) * x ≤ n * x := Nat.mul_le_mul_right _ hlt
          omega
        have HF : Hid (∀ w', Below wr.heap.size wr w' → P (.panicked [unR]) w') := fun w' hb => by
          rw [HP.out, if_neg hno]
          exact ⟨rfl, HI.out.2.2.1.trans (grown_below hb)⟩
        clear HI
        go_wp2_with fail
        refine hsd.mono ?_
        rintro e w4 ⟨rfl, hb4⟩
        have hF := HF.out _ hb4
        clear HF hb4 hsd HP
        go_wp2
        exact ⟨rfl, hF⟩
    · have hme : m = n := by omega
      subst hme
      have i1 : ¬ (m : Int) < (m : Int) := by omega
      have HF : Hid (P (.returned (.slice (some ⟨G, 0, none⟩) m m)) wr) := by
        show P (.returned (.slice (some ⟨G, 0, none⟩) m m)) wr
        rw [HP.out, if_pos hqm]
        have e : srow (sdp s x q m) m = sdp s x q m := by
          have := srow_all (sdp s x q m)
          rw [sdp_len] at this
          exact this
        have h2 := HI.out.2.1
        rw [e] at h2
        exact ⟨⟨G, rfl, h2, hsz1, HI.out.1⟩, HI.out.2.2.1⟩
      clear HI HP
      go_wp2
      exact HF.out

set_option maxRecDepth 100000 in
set_option maxHeartbeats 1000000 in
theorem readerHashes_no (c p : Nat) (s : ByteArray) (lim x : Nat) (w : World) (h : Rd w c s p) (hs : s.size ≤ 1048576) (hp : p ≤ s.size) (hl : lim ≤ 1000) (hno : M.readVar s.data.toList p = none ∨ ∃ n q, M.readVar s.data.toList p = some (n, q) ∧ lim < n) :
    Calls Try.prog 49 #[.pointer (some ⟨c, 0, none⟩), .int .i64 (lim : Int), .int .i64 (x : Int)] w fun e w' => e = .panicked [unR] ∧ w.grownBy w' (some c) := by
  have hcnt := readerCount_no c p s lim w h hs hp hl hno
  clear h hno
  go_enter Try.func49, Try.ntmps49
  go_wp2_with fail
  refine hcnt.mono ?_
  rintro e w1 ⟨rfl, hb1⟩
  have HF : Hid (w.grownBy w1 (some c)) := grown_below hb1
  clear hcnt hb1
  go_wp2
  exact ⟨rfl, rfl, HF.out⟩

end Go.Proofs.Ytfojmagcoipbnaa
