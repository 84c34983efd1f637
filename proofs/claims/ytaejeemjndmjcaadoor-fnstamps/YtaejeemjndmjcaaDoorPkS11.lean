/-
  Texts laid together: Ta, Pub, Nam, Form.
-/
import Derived.Test.YtaejeemjndmjcaaDoorPkS2
import Derived.Test.YtaejeemjndmjcaaDoorPkS6
import Derived.Test.YtaejeemjndmjcaaDoorPkS10
import Derived.Test.YtaejeemjndmjcaaDoorPkS0
import Derived.Deep.QuietTactic
import Derived.BigQuiet
import Derived.Test.YtaejeemjndmjcaaDoorPkS1
/-
  Arrays of texts by value: made, loaded, stored whole, sliced.
-/
namespace Go.Proofs.YtaejeemjndmjcaaDoor
open Go.RowKit
set_option linter.unusedVariables false

/-- block g is just the array of the texts l -/
def TA (w : World) (g t : Nat) (l : List ByteArray) : Prop := w.heap[g]? = some (.cells (svs l).toArray t (0, 0))
theorem TA.cell {w : World} {g t : Nat} {l : List ByteArray} (h : TA w g t l) (j : Nat) (hj : j < l.length) : w.cell? ⟨g, j, none⟩ = some (.string l[j]) := by
  rw [cell_of_row w g j _ t (0, 0) h]
  simp [svs, List.getElem?_eq_getElem hj]
theorem TA.frozen {w : World} {g t : Nat} {l : List ByteArray} (h : TA w g t l) (j : Nat) : w.frozen? ⟨g, j, none⟩ = false := by
  simp [World.frozen?, show w.heap[g]? = some (.cells (svs l).toArray t (0, 0)) from h]
theorem TA.lt {w : World} {g t : Nat} {l : List ByteArray} (h : TA w g t l) : g < w.heap.size := (Array.getElem?_eq_some_iff.1 h).1
theorem TA.set {w : World} {g t : Nat} {l : List ByteArray} (h : TA w g t l) (i : Nat) (x : ByteArray) : TA (w.setCell ⟨g, i, none⟩ (.string x)) g t (l.set i x) := by
  unfold TA at *
  rw [heap_setCell_same w g i _ t _ h]
  congr 2
  simp [svs, List.map_set]
theorem TA.keep {w w' : World} {g t : Nat} {l : List ByteArray} (h : TA w g t l) (he : w'.heap[g]? = w.heap[g]?) : TA w' g t l := by
  unfold TA at *
  rw [he, h]
theorem TA.below {w w' : World} {g t B : Nat} {l : List ByteArray} (h : TA w g t l) (hb : Below B w w') (hg : g < B) : TA w' g t l := h.keep (hb.block g hg)
theorem TA.later {w w' : World} {g t : Nat} {l : List ByteArray} (h : TA w g t l) (hb : Below w.heap.size w w') : TA w' g t l := h.below hb h.lt
theorem TA.ss {w : World} {g t : Nat} {l : List ByteArray} (h : TA w g t l) (cap n : Nat) (hn : l.length = n) (hl : n ≤ 1100000) : SS w (.slice (some ⟨g, 0, none⟩) n cap) g 0 l := by
  subst hn
  exact ⟨_, cap, rfl, hl, fun _ => rfl, fun j hj => by rw [Nat.zero_add]; exact h.cell j hj⟩
theorem TA.new (w : World) (l : List ByteArray) (t : Nat) : TA (w.alloc (.cells (svs l).toArray t)) w.heap.size t l := Go.heap_alloc_new w _

/-- an array of so many empty texts -/
def zT (n : Nat) : Array Value := (svs (List.replicate n ByteArray.empty)).toArray
theorem zT_size (n : Nat) : (zT n).size = n := by simp [zT, svs]
theorem TA.zero (w : World) (L : List ByteArray) (t n : Nat) (hn : L.length = n) : TA (w.alloc (.cells (zT n) t)) w.heap.size t (srow L 0) := by
  have e : srow L 0 = List.replicate n ByteArray.empty := by unfold srow; rw [hn]; rfl
  rw [e]
  exact TA.new w _ t
theorem svs_one (l : List ByteArray) : (svs l).toArray.all (·.oneCell') = true := by
  rw [Array.all_eq_true]
  intro i hi
  simp [svs]
  rfl
theorem svs_size (l : List ByteArray) : (svs l).toArray.size = l.length := by simp [svs]

theorem zeroP : (Tryd.prog.info? 106).map (fun i => (i.zero, i.size)) = some (some (.agg (zT 16)), 16) := by kernel_rfl
theorem sizePT : (Tryd.prog.info? 106).map (·.size) = some 16 := by kernel_rfl
theorem zeroA : (Tryd.prog.info? 105).map (fun i => (i.zero, i.size)) = some (some (.agg (zT 16)), 16) := by kernel_rfl
theorem sizeA : (Tryd.prog.info? 105).map (·.size) = some 16 := by kernel_rfl

section
variable {w : World} {ops : Array Oper} {rest : List Oper} {o : Oper} {a : Act} {Q : Exit → Act → World → Prop}

theorem wp_allocT (hgd : o.guard = none) (ty : TypeId) (n : Nat) (ho : o.op = .alloc ty) (hz : (Tryd.prog.info? ty).map (fun i => (i.zero, i.size)) = some (some (.agg (zT n)), n))
    (h : wpList Tryd.prog ops Q rest (a.put o.dst (.pointer (some ⟨w.heap.size, 0, none⟩))) (w.alloc (.cells (zT n) ty))) : wpList Tryd.prog ops Q (o :: rest) a w := by
  refine wpList_plain hgd fun K hK => ?_
  have h1 := (zero_of_info hz).1
  have hr : (Instr.alloc ty true (.tuple #[])).run Tryd.prog w = .ok (.pointer (some ⟨w.heap.size, 0, none⟩)) (w.alloc (.cells (zT n) ty)) := by
    unfold Instr.alloc
    simp [h1, newVar, newRow, Value.cells]
  unfold Oper.wp
  simp [execOp, ho, hr, Result.andThen]
  exact hK _ _ h
theorem run_loadT {w : World} {g t n : Nat} {l : List ByteArray} (ty e : TypeId) (hu : Tryd.prog.underlying ty = some (.array n e)) (hi : (Tryd.prog.info? ty).map (·.size) = some n) (hl : l.length = n) (hA : TA w g t l) :
    (Instr.loadAt ty (.pointer (some ⟨g, 0, none⟩))).run Tryd.prog w = .ok (.agg (svs l).toArray) w := by
  simp only [Instr.loadAt, Instr.sureAddr, Sem.run_bind, Sem.run_pure, Result.andThen]
  exact run_loadVar_row w g t ty _ (0, 0) _ hA hu rfl (by rw [svs_size, hl]; exact hi)
theorem wp_loadT (hgd : o.guard = none) (ty : TypeId) (p : Operand) (ho : o.op = .load ty p) (g t n : Nat) (l : List ByteArray) (e : TypeId) (hp : a.eval p = .pointer (some ⟨g, 0, none⟩)) (hA : TA w g t l) (hl : l.length = n)
    (hu : Tryd.prog.underlying ty = some (.array n e)) (hi : (Tryd.prog.info? ty).map (·.size) = some n)
    (h : wpList Tryd.prog ops Q rest (a.put o.dst (.agg (svs l).toArray)) w) : wpList Tryd.prog ops Q (o :: rest) a w := by
  refine wpList_plain hgd fun K hK => ?_
  have hr := run_loadT ty e hu hi hl hA
  unfold Oper.wp
  simp [execOp, ho, hp, hr, Result.andThen]
  exact hK _ _ h
theorem run_storeT {w : World} {g t n : Nat} {l r : List ByteArray} (ty : TypeId) (hi : (Tryd.prog.info? ty).map (·.size) = some n) (hA : TA w g t l) (hl : l.length = n) (hr : r.length = n) :
    (Instr.storeAt ty (.pointer (some ⟨g, 0, none⟩)) (.agg (svs r).toArray)).run Tryd.prog w = .ok () (w.setRow g (svs r).toArray) ∧ TA (w.setRow g (svs r).toArray) g t r := by
  constructor
  · simp only [Instr.storeAt, Instr.sureAddr, Sem.run_bind, Sem.run_pure, Result.andThen]
    exact run_storeVar_row w g t ty _ _ hA (by rw [svs_size, hr]; exact hi) (by rw [svs_size, svs_size, hl, hr]) (svs_one r)
  · exact setRow_heap w g _ _ t _ hA
/-- a whole array over an old one -/
theorem wp_storeT (hgd : o.guard = none) (ty : TypeId) (p v : Operand) (ho : o.op = .store ty p v) (g t n : Nat) (l r : List ByteArray) (hA : TA w g t l) (hl : l.length = n) (hr : r.length = n) (hp : a.eval p = .pointer (some ⟨g, 0, none⟩)) (hv : a.eval v = .agg (svs r).toArray)
    (hi : (Tryd.prog.info? ty).map (·.size) = some n)
    (h : TA (w.setRow g (svs r).toArray) g t r → wpList Tryd.prog ops Q rest (a.put o.dst (.tuple #[])) (w.setRow g (svs r).toArray)) : wpList Tryd.prog ops Q (o :: rest) a w := by
  refine wpList_plain hgd fun K hK => ?_
  obtain ⟨h1, h2⟩ := run_storeT ty hi hA hl hr
  unfold Oper.wp
  simp [execOp, ho, hp, hv, h1, Result.andThen]
  exact hK _ _ (h h2)
/-- a whole array into the block that was made last -/
theorem wp_storeNewT (hgd : o.guard = none) (ty n : Nat) (p v : Operand) (ho : o.op = .store ty p v) (w0 : World) (c : Array Value) (r : List ByteArray) (hw : w = w0.alloc (.cells c ty)) (hc : c.size = n) (hr : r.length = n) (hp : a.eval p = .pointer (some ⟨w0.heap.size, 0, none⟩)) (hv : a.eval v = .agg (svs r).toArray)
    (hi : (Tryd.prog.info? ty).map (·.size) = some n)
    (h : wpList Tryd.prog ops Q rest (a.put o.dst (.tuple #[])) (w0.alloc (.cells (svs r).toArray ty))) : wpList Tryd.prog ops Q (o :: rest) a w := by
  subst hw
  refine wpList_plain hgd fun K hK => ?_
  have h1 := run_storeAt_new (P := Tryd.prog) w0 ty c (svs r).toArray (by rw [svs_size, hr]; exact hi) (by rw [hc, svs_size, hr]) (svs_one r)
  unfold Oper.wp
  simp [execOp, ho, hp, hv, h1, Result.andThen]
  exact hK _ _ h
end

theorem TA.otherRow {w : World} {g t k : Nat} {l : List ByteArray} {R : Array Value} (h : TA w g t l) (hk : g ≠ k) : TA (w.setRow k R) g t l :=
  h.keep (setRow_other w k g R hk)

end Go.Proofs.YtaejeemjndmjcaaDoor
/-
  What PublicOf answers, the program's and the specification's.
-/
namespace Go.Proofs.YtaejeemjndmjcaaDoor
open Go.RowKit Go.BigFrame
set_option linter.unusedVariables false

/-- the sixteen locks of a place -/
def locksL (s : ByteArray) (a : Nat) : List ByteArray := (List.range 16).map fun i => lockB (secB s a (i / 2) (i % 2))
theorem locksL_len (s : ByteArray) (a : Nat) : (locksL s a).length = 16 := by simp [locksL]
theorem locksL_at (s : ByteArray) (a i : Nat) (h : i < (locksL s a).length) : (locksL s a)[i] = lockB (secB s a (i / 2) (i % 2)) := by simp [locksL]
/-- what PublicOf is -/
def pubB (s : ByteArray) (a : Nat) : ByteArray := hashB 6 (locksL s a) 16
def pubA (s : ByteArray) (a : Int) : ByteArray := if s.size ≤ 100 ∧ (0 ≤ a ∧ a ≤ 15) then pubB s a.toNat else ⟨#[]⟩

theorem SecretOf_at (s : ByteArray) (a b c : Nat) (z x y : Int) (w : World) (hz : z = (a : Int)) (hx : x = (b : Int)) (hy : y = (c : Int)) (h1 : s.size ≤ 100) (h2 : a ≤ 15) (h3 : b ≤ 7) (h4 : c ≤ 1) (hT : Tb w) :
    Calls Tryd.prog 88 #[.string s, .int .i64 z, .int .i64 x, .int .i64 y] w fun e w' => e = .returned (.string (secB s a b c)) ∧ Below w.heap.size w w' := by
  subst hx hy hz
  exact SecretOf_yes s a b c w h1 h2 h3 h4 hT
theorem sSecretOf_at (s : ByteArray) (a b c : Nat) (z x y : Int) (w : World) (hz : z = (a : Int)) (hx : x = (b : Int)) (hy : y = (c : Int)) (h1 : s.size ≤ 100) (h2 : a ≤ 15) (h3 : b ≤ 7) (h4 : c ≤ 1) :
    Calls Tryd.prog 80 #[.string s, .int .i64 z, .int .i64 x, .int .i64 y] w fun e w' => e = .returned (.string (secB s a b c)) ∧ Below w.heap.size w w' := by
  subst hx hy hz
  exact sSecretOf_yes s a b c w h1 h2 h3 h4

theorem not_nil {D : ByteArray} (h : 0 < D.size) : (D.toList == []) = false := by
  rw [beq_eq_false_iff_ne]
  intro he
  have : D.toList.length = 0 := by rw [he]; rfl
  rw [ByteArray.toList_eq, Array.length_toList] at this
  have h2 : D.data.size = D.size := rfl
  omega

def PuR (s : ByteArray) (a : Nat) (w : World) (i : Value) (wr : World) : Prop :=
  ∃ m : Nat, m ≤ 16 ∧ i = .int .i64 m ∧ TA wr w.heap.size 105 (srow (locksL s a) m) ∧ Below w.heap.size w wr

set_option maxRecDepth 100000 in
set_option maxHeartbeats 1000000 in
theorem PublicOf_yes (s : ByteArray) (a : Nat) (w : World) (h1 : s.size ≤ 100) (h2 : a ≤ 15) (hT : Tb w) :
    Calls Tryd.prog 84 #[.string s, .int .i64 a] w fun e w' => e = .returned (.string (pubB s a)) ∧ Below w.heap.size w w' := by
  have HT : Hid (Tb w) := hT
  have HST : Hid (PuR s a w (.int .i64 0) (w.alloc (.cells (zT 16) 105))) := ⟨0, by omega, rfl, TA.zero w _ _ 16 (locksL_len s a), (Below.refl _ _).alloc (Nat.le_refl _) _⟩
  have HL : Hid ((locksL s a).length = 16 ∧ ∀ i (h : i < (locksL s a).length), (locksL s a)[i] = lockB (secB s a (i / 2) (i % 2))) := ⟨locksL_len s a, locksL_at s a⟩
  unfold pubB
  generalize hL : locksL s a = L at *
  obtain ⟨T, hTe⟩ : ∃ T, hashB 6 L 16 = T := ⟨_, rfl⟩
  have HTe : Hid (hashB 6 L 16 = T) := hTe
  rw [hTe]
  clear hT hTe
  go_enter Tryd.func84, Tryd.ntmps84
  go_wp2_with (refine wp_allocT rfl 105 16 rfl zeroA ?_)
  go_loopw [8] (fun i wr => PuR s a w i wr) (fun i _ => 16 - (intOf i).toNat)
  case atStart => exact HST.out
  case round =>
    obtain ⟨m, hm, rfl, hta, hbel⟩ := hrel
    rw [hL] at hta
    clear HST
    have hT1 := HT.out.later hbel
    by_cases hlt : m < 16
    · have i1 : (m : Int) < 16 := by omega
      go_wp2_with fail
      refine (SecretOf_at s a (m / 2) (m % 2) _ _ _ _ rfl (by omega) (by omega) h1 h2 (by omega) (by omega) hT1).mono ?_
      rintro e w1 ⟨rfl, hb1⟩
      have hz := not_nil (show 0 < (secB s a (m / 2) (m % 2)).size by rw [secB_size _ _ _ _ h1]; omega)
      have hlk := HL.out.2 m (by rw [HL.out.1]; exact hlt)
      generalize secB s a (m / 2) (m % 2) = S at *
      have hta1 := hta.later hb1
      have b1 := hbel.trans (hb1.mono hbel.size)
      have hT2 := HT.out.later b1
      clear hT1 hta hbel hb1
      go_wp2_with fail
      refine (LockOf_any S _ hT2).mono ?_
      rintro e w2 ⟨rfl, hb2⟩
      have hta2 := hta1.later hb2
      have b2 := b1.trans (hb2.mono b1.size)
      have hl16 : (srow L m).length = 16 := by rw [srow_len _ _ (by rw [HL.out.1]; omega)]; exact HL.out.1
      have c0 := hta2.cell m (by omega)
      have f0 := hta2.frozen m
      have hs := hta2.set m (lockB S)
      rw [← hlk, srow_step L m (by rw [HL.out.1]; exact hlt), hlk] at hs
      have HS : Hid (TA (w2.setCell ⟨w.heap.size, m, none⟩ (.string (lockB S))) w.heap.size 105 (srow L (m + 1)) ∧ Below w.heap.size w (w2.setCell ⟨w.heap.size, m, none⟩ (.string (lockB S)))) := ⟨hs, b2.setCell (p := ⟨w.heap.size, m, none⟩) (Nat.le_refl _) _⟩
      generalize (srow L m)[m]'(by omega) = Y at *
      generalize lockB S = K at *
      clear hs hta2 b2 hb2 hta1 b1 hT2 hlk HL hl16
      go_wp2
      go_roundw
      case rel => exact ⟨m + 1, by omega, by go_num, by rw [hL]; exact HS.out.1, HS.out.2⟩
      case measure => simp [intOf]; omega
    · have hme : m = 16 := by omega
      subst hme
      have e : srow L 16 = L := by have := srow_all L; rw [HL.out.1] at this; exact this
      rw [e] at hta
      have hc := taggedHash_any 16 6 _ _ _ L wr (hta.ss 16 16 HL.out.1 (by omega)) hT1.1 hT1.2
      rw [HTe.out] at hc
      clear hta e hT1
      go_wp2_with fail
      refine hc.mono ?_
      rintro e w1 ⟨rfl, hb1⟩
      go_wp2
      go_ret
      exact ⟨rfl, hbel.trans (hb1.mono hbel.size)⟩

def NoR (w : World) (i : Value) (wr : World) : Prop := i = .int .i64 0 ∧ Below w.heap.size w wr
theorem PublicOf_no (s : ByteArray) (a : Int) (w : World) (hs : s.size ≤ 1100000) (h : ¬ (s.size ≤ 100 ∧ (0 ≤ a ∧ a ≤ 15))) :
    Calls Tryd.prog 84 #[.string s, .int .i64 a] w fun e w' => e = .returned (.string ⟨#[]⟩) ∧ Below w.heap.size w w' := by
  have HS : Hid (∀ W, Calls Tryd.prog 88 #[.string s, .int .i64 a, .int .i64 0, .int .i64 0] W fun e w' => e = .returned (.string ⟨#[]⟩) ∧ Below W.heap.size W w') := fun W => SecretOf_no s a 0 0 W hs (by omega)
  clear h
  go_enter Tryd.func84, Tryd.ntmps84
  go_wp2_with (refine wp_allocT rfl 105 16 rfl zeroA ?_)
  go_loopw [8] (fun i wr => NoR w i wr) (fun i _ => 16 - (intOf i).toNat)
  case atStart => exact ⟨rfl, (Below.refl _ _).alloc (Nat.le_refl _) _⟩
  case round =>
    obtain ⟨rfl, hbel⟩ := hrel
    go_wp2_with fail
    refine (HS.out _).mono ?_
    rintro e w1 ⟨rfl, hb1⟩
    go_wp2
    try rw [Exit.noGoto_ret]
    go_ret
    exact ⟨rfl, hbel.trans (hb1.mono hbel.size)⟩
theorem PublicOf_any (s : ByteArray) (a : Int) (w : World) (hs : s.size ≤ 1100000) (hT : Tb w) :
    Calls Tryd.prog 84 #[.string s, .int .i64 a] w fun e w' => e = .returned (.string (pubA s a)) ∧ Below w.heap.size w w' := by
  unfold pubA
  by_cases h : s.size ≤ 100 ∧ (0 ≤ a ∧ a ≤ 15)
  · rw [if_pos h]
    obtain ⟨h1, h2⟩ := h
    obtain ⟨a, rfl⟩ := Int.eq_ofNat_of_zero_le h2.1
    exact PublicOf_yes s a w h1 (by omega) hT
  · rw [if_neg h]
    exact PublicOf_no s a w hs h

/-- what the outer loop holds, and the inner one -/
def PsO (s : ByteArray) (a : Nat) (w : World) (v i : Value) (wr : World) : Prop :=
  ∃ m : Nat, m ≤ 8 ∧ i = .int .i64 m ∧ OS w.heap.size w wr v ((locksL s a).take (2 * m))
def PsI (s : ByteArray) (a m : Nat) (w : World) (v i : Value) (wr : World) : Prop :=
  ∃ k : Nat, k ≤ 2 ∧ i = .int .i64 k ∧ OS w.heap.size w wr v ((locksL s a).take (2 * m + k))

theorem locks_step (s : ByteArray) (a b c : Nat) (hb : b < 8) (hc : c < 2) : (locksL s a).take (2 * b + c) ++ [lockB (secB s a b c)] = (locksL s a).take (2 * b + (c + 1)) := by
  have hl := locksL_len s a
  have h := locksL_at s a (2 * b + c) (by omega)
  rw [show (2 * b + c) / 2 = b by omega, show (2 * b + c) % 2 = c by omega] at h
  rw [← h, show 2 * b + (c + 1) = (2 * b + c) + 1 by omega]
  exact List.take_append_getElem (by omega)

set_option maxRecDepth 100000 in
set_option maxHeartbeats 1000000 in
theorem sPublicOf_yes (s : ByteArray) (a : Nat) (w : World) (h1 : s.size ≤ 100) (h2 : a ≤ 15) :
    Calls Tryd.prog 49 #[.string s, .int .i64 a] w fun e w' => e = .returned (.string (pubB s a)) ∧ Below w.heap.size w w' := by
  have HST : Hid (PsO s a w (.slice (some ⟨w.heap.size, 0, none⟩) 0 0) (.int .i64 0) (w.alloc (.cells #[] 9))) := ⟨0, by omega, rfl, OS.made w⟩
  unfold pubB
  obtain ⟨T, hTe⟩ : ∃ T, hashB 6 (locksL s a) 16 = T := ⟨_, rfl⟩
  have HTe : Hid (hashB 6 (locksL s a) 16 = T) := hTe
  rw [hTe]
  clear hTe
  go_enter Tryd.func49, Tryd.ntmps49
  go_wp2
  go_loopw [5, 6] (fun v i wr => PsO s a w v i wr) (fun _ i _ => 8 - (intOf i).toNat)
  case atStart => exact HST.out
  case round =>
    obtain ⟨m, hm, rfl, hos⟩ := hrel
    clear HST
    by_cases hlt : m < 8
    · have i1 : (m : Int) < 8 := by omega
      have HS2 : Hid (PsI s a m w u5 (.int .i64 0) wr) := ⟨0, by omega, rfl, hos⟩
      clear hos
      go_wp2
      go_loopw [5, 7] (fun v i wr => PsI s a m w v i wr) (fun _ i _ => 2 - (intOf i).toNat)
      case atStart => exact HS2.out
      case round =>
        obtain ⟨k, hk, rfl, hos⟩ := hrel
        clear HS2
        by_cases hlt2 : k < 2
        · have i2 : (k : Int) < 2 := by omega
          have hst := locks_step s a m k hlt hlt2
          have hll : ((locksL s a).take (2 * m + k)).length ≤ 16 := by rw [List.length_take, locksL_len]; omega
          go_wp2_with fail
          refine (sSecretOf_at s a m k _ _ _ _ rfl rfl rfl h1 h2 (by omega) (by omega)).mono ?_
          rintro e w1 ⟨rfl, hb1⟩
          have hz := not_nil (show 0 < (secB s a m k).size by rw [secB_size _ _ _ _ h1]; omega)
          generalize secB s a m k = S at *
          have hos1 := hos.later hb1
          clear hos hb1
          go_wp2_with fail
          refine (sLockOf_any S _).mono ?_
          rintro e w2 ⟨rfl, hb2⟩
          have hos2 := hos1.later hb2
          have HN : Hid (∀ v W, OS w.heap.size w W v ((locksL s a).take (2 * m + k) ++ [lockB S]) → PsI s a m w v (.int .i64 ((k : Int) + 1)) W) := by
            rw [hst]
            exact fun v W hW => ⟨k + 1, by omega, by simp, hW⟩
          generalize (locksL s a).take (2 * m + k) = X at *
          generalize lockB S = K at *
          clear hos1 hb2 hst
          go_wp2_with (at_builtin; refine wp_appS rfl _ _ rfl w.heap.size w _ X rfl (hos2.alloc _) ⟨w2.heap.size, 0, none⟩ K rfl ?c1 ?c2 ?_)
          case c1 => exact one_text _ _ _
          case c2 => omega
          intro v' w3 hos3
          go_wp2
          go_roundw
          case rel => exact HN.out _ _ hos3
          case measure => simp [intOf]; omega
        · have hke : k = 2 := by omega
          subst hke
          have HN : Hid (PsO s a w _ (.int .i64 ((m : Int) + 1)) wr) := ⟨m + 1, by omega, by simp, by rw [show 2 * (m + 1) = 2 * m + 2 by omega]; exact hos⟩
          clear hos
          go_wp2
          go_roundw
          case rel => exact HN.out
          case measure => simp [intOf]; omega
    · have hme : m = 8 := by omega
      subst hme
      have e : (locksL s a).take (2 * 8) = locksL s a := List.take_of_length_le (by rw [locksL_len]; omega)
      rw [e] at hos
      obtain ⟨g, hss⟩ := hos.ss (by rw [locksL_len]; omega)
      have hc := sTagHash_any 6 _ 16 g 0 (locksL s a) wr hss
      have hbel := hos.2.1
      rw [HTe.out] at hc
      obtain ⟨aa, cc, hv⟩ := own_slice hos.1
      subst hv
      clear hos e hss
      go_wp2_with fail
      refine hc.mono ?_
      rintro e w1 ⟨rfl, hb1⟩
      go_wp2
      go_ret
      exact ⟨rfl, hbel.trans (hb1.mono hbel.size)⟩

theorem sPublicOf_no (s : ByteArray) (a : Int) (w : World) (hs : s.size ≤ 1100000) (h : ¬ (s.size ≤ 100 ∧ (0 ≤ a ∧ a ≤ 15))) :
    Calls Tryd.prog 49 #[.string s, .int .i64 a] w fun e w' => e = .returned (.string ⟨#[]⟩) ∧ Below w.heap.size w w' := by
  have HS : Hid (∀ W, Calls Tryd.prog 80 #[.string s, .int .i64 a, .int .i64 0, .int .i64 0] W fun e w' => e = .returned (.string ⟨#[]⟩) ∧ Below W.heap.size W w') := fun W => sSecretOf_no s a 0 0 W hs (by omega)
  clear h
  go_enter Tryd.func49, Tryd.ntmps49
  go_wp2
  go_loopw [6] (fun i wr => NoR w i wr) (fun i _ => 8 - (intOf i).toNat)
  case atStart => exact ⟨rfl, (Below.refl _ _).alloc (Nat.le_refl _) _⟩
  case round =>
    obtain ⟨rfl, hbel⟩ := hrel
    go_wp2
    go_loopw [7] (fun i wr => NoR w i wr) (fun i _ => 2 - (intOf i).toNat)
    case atStart => exact ⟨rfl, hbel⟩
    case round =>
      obtain ⟨rfl, hbel⟩ := hrel
      go_wp2_with fail
      refine (HS.out _).mono ?_
      rintro e w1 ⟨rfl, hb1⟩
      go_wp2
      try rw [Exit.noGoto_ret]
      go_ret
      exact ⟨rfl, hbel.trans (hb1.mono hbel.size)⟩
theorem sPublicOf_any (s : ByteArray) (a : Int) (w : World) (hs : s.size ≤ 1100000) :
    Calls Tryd.prog 49 #[.string s, .int .i64 a] w fun e w' => e = .returned (.string (pubA s a)) ∧ Below w.heap.size w w' := by
  unfold pubA
  by_cases h : s.size ≤ 100 ∧ (0 ≤ a ∧ a ≤ 15)
  · rw [if_pos h]
    obtain ⟨h1, h2⟩ := h
    obtain ⟨a, rfl⟩ := Int.eq_ofNat_of_zero_le h2.1
    exact sPublicOf_yes s a w h1 (by omega)
  · rw [if_neg h]
    exact sPublicOf_no s a w hs h

end Go.Proofs.YtaejeemjndmjcaaDoor
/-
  What NameOk, ValueOk and BitOf answer, the program's and the specification's.
-/
namespace Go.Proofs.YtaejeemjndmjcaaDoor
open Go.RowKit
set_option linter.unusedVariables false

def nameB (b : UInt8) : Bool := decide ((97 ≤ b.toNat ∧ b.toNat ≤ 122) ∨ (48 ≤ b.toNat ∧ b.toNat ≤ 57) ∨ b.toNat = 64 ∨ b.toNat = 46)
def valB (b : UInt8) : Bool := decide (33 ≤ b.toNat ∧ b.toNat ≤ 126)
/-- one to twelve bytes, each as p wants it -/
def okB (p : UInt8 → Bool) (s : ByteArray) : Bool := decide (1 ≤ s.size ∧ s.size ≤ 12) && s.data.toList.all p

theorem okB_bad (p : UInt8 → Bool) (s : ByteArray) (k : Nat) (h : k < s.size) (hb : p s[k] = false) : okB p s = false := by
  unfold okB
  have : s.data.toList.all p = false := by
    rw [List.all_eq_false]
    exact ⟨s[k], by rw [ByteArray.getElem_eq_getElem_data]; exact Array.getElem_mem_toList .., by simp [hb]⟩
  rw [this, Bool.and_false]
theorem okB_good (p : UInt8 → Bool) (s : ByteArray) (h : ∀ k (h : k < s.size), p s[k] = true) : okB p s = decide (1 ≤ s.size ∧ s.size ≤ 12) := by
  unfold okB
  have : s.data.toList.all p = true := by
    rw [List.all_eq_true]
    intro x hx
    obtain ⟨k, hk, rfl⟩ := List.getElem_of_mem hx
    have hk' : k < s.size := by simpa using hk
    have := h k hk'
    rw [ByteArray.getElem_eq_getElem_data] at this
    simpa using this
  rw [this, Bool.and_true]
theorem okB_len (p : UInt8 → Bool) (s : ByteArray) (h : ¬ (1 ≤ s.size ∧ s.size ≤ 12)) : okB p s = false := by
  unfold okB
  rw [decide_eq_false h, Bool.false_and]

theorem byte_of (b : UInt8) : b.toNat < 46 ∨ b.toNat = 46 ∨ b.toNat = 47 ∨ (48 ≤ b.toNat ∧ b.toNat ≤ 57) ∨ (58 ≤ b.toNat ∧ b.toNat ≤ 63) ∨ b.toNat = 64 ∨ (65 ≤ b.toNat ∧ b.toNat ≤ 96) ∨ (97 ≤ b.toNat ∧ b.toNat ≤ 122) ∨ 123 ≤ b.toNat := by omega

theorem ret_b {a b : Bool} (h : a = b) : Ending.returned (.bool a) = .returned (.bool b) := by rw [h]

def NmRel (p : UInt8 → Bool) (s : ByteArray) (w : World) (i : Value) (wr : World) : Prop := ∃ k : Nat, k ≤ s.size ∧ i = .int .i64 k ∧ Hid (∀ j (h : j < s.size), j < k → p s[j] = true) ∧ wr = w
theorem NmRel.step {p : UInt8 → Bool} {s : ByteArray} {k : Nat} (hk : k < s.size) (hp : p s[k] = true) (h : ∀ j (h : j < s.size), j < k → p s[j] = true) : Hid (∀ j (h : j < s.size), j < k + 1 → p s[j] = true) := by
  intro j hj hlt
  rcases Nat.lt_or_ge j k with h1 | h1
  · exact h j hj h1
  · have : j = k := by omega
    subst this
    exact hp

theorem not_empty (s : ByteArray) (h : 1 ≤ s.size) : s.toList.isEmpty = false := by
  rw [ByteArray.toList_eq, List.isEmpty_eq_false_iff]
  intro h0
  have : s.data.toList.length = 0 := by rw [h0]; rfl
  have h1 : s.data.toList.length = s.size := Array.length_toList
  omega
theorem is_empty (s : ByteArray) (h : s.size = 0) : s.toList.isEmpty = true := by
  rw [ByteArray.toList_eq, List.isEmpty_iff]
  have h1 : s.data.toList.length = s.size := Array.length_toList
  exact List.length_eq_zero_iff.1 (by omega)

theorem BitOf_no (x y : Int) (w : World) (h : y < 0 ∨ 7 < y) : Calls Tryd.prog 104 #[.int .i64 x, .int .i64 y] w fun e w' => e = .returned (.int .i64 0) ∧ w' = w := by
  rcases h with h | h
  · go_enter Tryd.func104, Tryd.ntmps104
    go_wp2
    go_ret
    exact ⟨rfl, rfl⟩
  · have h' : ¬ y < 0 := by omega
    go_enter Tryd.func104, Tryd.ntmps104
    go_wp2
    go_ret
    exact ⟨rfl, rfl⟩
theorem sBitOf_no (x y : Int) (w : World) (h : y < 0 ∨ 7 < y) : Calls Tryd.prog 45 #[.int .i64 x, .int .i64 y] w fun e w' => e = .returned (.int .i64 0) ∧ w' = w := by
  have hd : decide ((0 : Int) ≤ y ∧ y ≤ 7) = false := by simp; omega
  go_enter Tryd.func45, Tryd.ntmps45
  go_wp2_with fail
  refine (l01In_any _ _ _ _).mono ?_
  rintro e w' ⟨rfl, rfl⟩
  rw [hd]
  go_wp2
  go_ret
  exact ⟨rfl, rfl⟩
/-- the bit of a number at a level -/
def bitI (x : Int) (y : Nat) : Int := bits .and .i64 (x / 2 ^ (7 - y)) 1
theorem BitOf_yes (x : Int) (y : Nat) (w : World) (h : y ≤ 7) : Calls Tryd.prog 104 #[.int .i64 x, .int .i64 y] w fun e w' => e = .returned (.int .i64 (bitI x y)) ∧ w' = w := by
  go_enter Tryd.func104, Tryd.ntmps104
  go_wp2
  go_ret
  exact ⟨rfl, rfl⟩
theorem sBitOf_yes (x : Int) (y : Nat) (w : World) (h : y ≤ 7) : Calls Tryd.prog 45 #[.int .i64 x, .int .i64 y] w fun e w' => e = .returned (.int .i64 (bitI x y)) ∧ w' = w := by
  have hd : decide ((0 : Int) ≤ (y : Int) ∧ (y : Int) ≤ 7) = true := by simp; omega
  go_enter Tryd.func45, Tryd.ntmps45
  go_wp2_with fail
  refine (l01In_any _ _ _ _).mono ?_
  rintro e w' ⟨rfl, rfl⟩
  rw [hd]
  go_wp2
  go_ret
  exact ⟨rfl, rfl⟩

end Go.Proofs.YtaejeemjndmjcaaDoor
/-
  What the forms of a signature are held against: how many texts, how wide, the program's and the specification's.
-/
namespace Go.Proofs.YtaejeemjndmjcaaDoor
open Go.RowKit Go.BigFrame
set_option linter.unusedVariables false

/-- each text is sixteen bytes wide -/
def kwB (l : List ByteArray) : Bool := l.all (fun p => decide (p.size = 16))
theorem kwB_no (l : List ByteArray) (m : Nat) (h : m < l.length) (hb : l[m].size ≠ 16) : kwB l = false := by
  unfold kwB
  rw [List.all_eq_false]
  exact ⟨l[m], List.getElem_mem _, by simpa using hb⟩
theorem kwB_yes (l : List ByteArray) (h : ∀ j (h : j < l.length), l[j].size = 16) : kwB l = true := by
  unfold kwB
  rw [List.all_eq_true]
  intro x hx
  obtain ⟨j, hj, rfl⟩ := List.getElem_of_mem hx
  simpa using h j hj
theorem kwB_at {l : List ByteArray} (h : kwB l = true) (j : Nat) (hj : j < l.length) : l[j].size = 16 := by
  unfold kwB at h
  rw [List.all_eq_true] at h
  simpa using h l[j] (List.getElem_mem _)

def KwR (l : List ByteArray) (w : World) (i : Value) (wr : World) : Prop :=
  ∃ m : Nat, m ≤ l.length ∧ i = .int .i64 m ∧ Hid (∀ j (h : j < l.length), j < m → l[j].size = 16) ∧ wr = w
theorem kw_step {l : List ByteArray} {m : Nat} (hm : m < l.length) (hp : l[m].size = 16) (h : ∀ j (h : j < l.length), j < m → l[j].size = 16) : Hid (∀ j (h : j < l.length), j < m + 1 → l[j].size = 16) := by
  intro j hj hlt
  rcases Nat.lt_or_ge j m with h1 | h1
  · exact h j hj h1
  · have : j = m := by omega
    subst this
    exact hp

set_option maxRecDepth 100000 in
set_option maxHeartbeats 400000 in
theorem allWide_16 (v : Value) (ga oa : Nat) (l : List ByteArray) (w : World) (hv : SS w v ga oa l) :
    Calls Tryd.prog 94 #[v, .int .i64 16] w fun e w' => e = .returned (.bool (kwB l)) ∧ w' = w := by
  obtain ⟨a, cap, rfl, hl, hA, hc⟩ := hv
  obtain ⟨n, hn⟩ : ∃ n, l.length = n := ⟨_, rfl⟩
  have HA : Hid (0 < n → a = some ⟨ga, oa, none⟩) := by rw [← hn]; exact hA
  have HC : Hid (∀ j (h : j < l.length), w.cell? ⟨ga, oa + j, none⟩ = some (.string l[j])) := hc
  have HST : Hid (KwR l w (.int .i64 0) w) := ⟨0, by omega, rfl, by intro j _ h; omega, rfl⟩
  obtain ⟨R, hR⟩ : ∃ R, kwB l = R := ⟨_, rfl⟩
  have HR : Hid (kwB l = R) := hR
  rw [hn] at hl ⊢
  rw [hR]
  clear hA hc hR
  go_enter Tryd.func94, Tryd.ntmps94
  go_wp2
  go_loopw [9] (fun i wr => KwR l w i wr) (fun i _ => n - (intOf i).toNat)
  case atStart => exact HST.out
  case round =>
    obtain ⟨m, hm, rfl, HI, rfl⟩ := hrel
    rw [hn] at hm
    clear HST
    by_cases hlt : m < n
    · have ea := HA.out (by omega)
      subst ea
      have c0 := HC.out m (by omega)
      have i1 : (m : Int) < (n : Int) := by omega
      have i2 : (0 : Int) ≤ (m : Int) := by omega
      by_cases hx : (l[m]'(by omega)).size = 16
      · have HI2 := kw_step (show m < l.length by omega) hx HI.out
        have q : (((l[m]'(by omega)).size : Int) != 16) = false := by simp; omega
        clear HI HR HC HA hx
        generalize l[m]'(by omega) = X at *
        go_wp2
        go_roundw
        case rel => exact ⟨m + 1, by omega, by go_num, HI2, rfl⟩
        case measure => simp [intOf]; omega
      · have hF := kwB_no l m (by omega) hx
        rw [HR.out] at hF
        subst hF
        have q : (((l[m]'(by omega)).size : Int) != 16) = true := by simp; omega
        clear HI HR HC HA hx
        generalize l[m]'(by omega) = X at *
        go_wp2
        try rw [Exit.noGoto_ret]
        go_ret
        exact ⟨rfl, rfl⟩
    · have hme : m = n := by omega
      have hF := kwB_yes l (fun j hj => HI.out j hj (by omega))
      rw [HR.out] at hF
      subst hF
      subst hme
      clear HI HR HC HA
      go_wp2
      go_ret
      exact ⟨rfl, rfl⟩

set_option maxRecDepth 100000 in
set_option maxHeartbeats 400000 in
theorem l05Wide_any (v : Value) (x : Int) (k : Nat) (ga oa : Nat) (l : List ByteArray) (w : World) (hx : x = (k : Int)) (hv : SS w v ga oa l) :
    Calls Tryd.prog 77 #[v, .int .i64 x] w fun e w' => e = .returned (.bool (kwB l && decide (l.length = k))) ∧ w' = w := by
  subst hx
  obtain ⟨a, cap, rfl, hl, hA, hc⟩ := hv
  obtain ⟨n, hn⟩ : ∃ n, l.length = n := ⟨_, rfl⟩
  have HA : Hid (0 < n → a = some ⟨ga, oa, none⟩) := by rw [← hn]; exact hA
  have HC : Hid (∀ j (h : j < l.length), w.cell? ⟨ga, oa + j, none⟩ = some (.string l[j])) := hc
  have HST : Hid (KwR l w (.int .i64 0) w) := ⟨0, by omega, rfl, by intro j _ h; omega, rfl⟩
  obtain ⟨R, hR⟩ : ∃ R, kwB l = R := ⟨_, rfl⟩
  have HR : Hid (kwB l = R) := hR
  rw [hn] at hl ⊢
  rw [hR]
  clear hA hc hR
  go_enter Tryd.func77, Tryd.ntmps77
  go_wp2
  go_loopw [5] (fun i wr => KwR l w i wr) (fun i _ => n - (intOf i).toNat)
  case atStart => exact HST.out
  case round =>
    obtain ⟨m, hm, rfl, HI, rfl⟩ := hrel
    rw [hn] at hm
    clear HST
    by_cases hlt : m < n
    · have ea := HA.out (by omega)
      subst ea
      have c0 := HC.out m (by omega)
      have i1 : (m : Int) < (n : Int) := by omega
      have i2 : (0 : Int) ≤ (m : Int) := by omega
      by_cases hx : (l[m]'(by omega)).size = 16
      · have HI2 := kw_step (show m < l.length by omega) hx HI.out
        have q : (((l[m]'(by omega)).size : Int) != 16) = false := by simp; omega
        clear HI HR HC HA hx
        generalize l[m]'(by omega) = X at *
        go_wp2
        go_roundw
        case rel => exact ⟨m + 1, by omega, by go_num, HI2, rfl⟩
        case measure => simp [intOf]; omega
      · have hF := kwB_no l m (by omega) hx
        rw [HR.out] at hF
        subst hF
        have q : (((l[m]'(by omega)).size : Int) != 16) = true := by simp; omega
        clear HI HR HC HA hx
        generalize l[m]'(by omega) = X at *
        go_wp2
        try rw [Exit.noGoto_ret]
        go_ret
        exact ⟨rfl, rfl⟩
    · have hme : m = n := by omega
      have hF := kwB_yes l (fun j hj => HI.out j hj (by omega))
      rw [HR.out] at hF
      subst hF
      subst hme
      clear HI HR HC HA hn
      by_cases hk : m = k
      · have q : ((m : Int) == (k : Int)) = true := by simp; omega
        go_wp2
        go_ret
        exact ⟨by simp [hk], rfl⟩
      · have q : ((m : Int) == (k : Int)) = false := by simp; omega
        go_wp2
        go_ret
        exact ⟨by simp [hk], rfl⟩

/-- the form that a signature must have -/
def formB (a : Int) (o s d : List ByteArray) : Bool := decide (0 ≤ a ∧ a ≤ 15) && ((kwB o && decide (o.length = 8)) && ((kwB s && decide (s.length = 8)) && (kwB d && decide (d.length = 4))))
theorem formB_parts {a : Int} {o s d : List ByteArray} (h : formB a o s d = true) : (0 ≤ a ∧ a ≤ 15) ∧ (kwB o = true ∧ o.length = 8) ∧ (kwB s = true ∧ s.length = 8) ∧ (kwB d = true ∧ d.length = 4) := by
  unfold formB at h
  simpa only [Bool.and_eq_true, decide_eq_true_eq] using h
theorem formB_mk {a : Int} {o s d : List ByteArray} (h : (0 ≤ a ∧ a ≤ 15) ∧ (kwB o = true ∧ o.length = 8) ∧ (kwB s = true ∧ s.length = 8) ∧ (kwB d = true ∧ d.length = 4)) : formB a o s d = true := by
  unfold formB
  simpa only [Bool.and_eq_true, decide_eq_true_eq] using h

set_option maxRecDepth 100000 in
set_option maxHeartbeats 1000000 in
theorem l05Form_any (a : Int) (vo vs vd : Value) (g1 o1 g2 o2 g3 o3 : Nat) (o s d : List ByteArray) (w : World) (ho : SS w vo g1 o1 o) (hs : SS w vs g2 o2 s) (hd : SS w vd g3 o3 d) :
    Calls Tryd.prog 43 #[.agg #[.int .i64 a, vo, vs, vd]] w fun e w' => e = .returned (.bool (formB a o s d)) ∧ Below w.heap.size w w' := by
  have hb : Below w.heap.size w (w.alloc (.cells #[.int .i64 a, vo, vs, vd] 28)) := (Below.refl _ _).alloc (Nat.le_refl _) _
  have H1 : Hid (Calls Tryd.prog 77 #[vo, .int .i64 8] (w.alloc (.cells #[.int .i64 a, vo, vs, vd] 28)) fun e w' => e = .returned (.bool (kwB o && decide (o.length = 8))) ∧ w' = (w.alloc (.cells #[.int .i64 a, vo, vs, vd] 28))) := l05Wide_any vo 8 8 g1 o1 o _ rfl (ho.below hb ho.lt)
  have H2 : Hid (Calls Tryd.prog 77 #[vs, .int .i64 8] (w.alloc (.cells #[.int .i64 a, vo, vs, vd] 28)) fun e w' => e = .returned (.bool (kwB s && decide (s.length = 8))) ∧ w' = (w.alloc (.cells #[.int .i64 a, vo, vs, vd] 28))) := l05Wide_any vs 8 8 g2 o2 s _ rfl (hs.below hb hs.lt)
  have H3 : Hid (Calls Tryd.prog 77 #[vd, .int .i64 4] (w.alloc (.cells #[.int .i64 a, vo, vs, vd] 28)) fun e w' => e = .returned (.bool (kwB d && decide (d.length = 4))) ∧ w' = (w.alloc (.cells #[.int .i64 a, vo, vs, vd] 28))) := l05Wide_any vd 4 4 g3 o3 d _ rfl (hd.below hb hd.lt)
  have HB : Hid (Below w.heap.size w (w.alloc (.cells #[.int .i64 a, vo, vs, vd] 28))) := hb
  unfold formB
  generalize (kwB o && decide (o.length = 8)) = A1 at *
  generalize (kwB s && decide (s.length = 8)) = A2 at *
  generalize (kwB d && decide (d.length = 4)) = A3 at *
  generalize hA0 : decide (0 ≤ a ∧ a ≤ 15) = A0
  obtain ⟨ao, co, rfl, _⟩ := ho
  obtain ⟨as2, cs2, rfl, _⟩ := hs
  obtain ⟨ad, cd, rfl, _⟩ := hd
  clear hb
  go_enter Tryd.func43, Tryd.ntmps43
  go_wp2_with fail
  refine (l01In_any _ _ _ _).mono ?_
  rintro e w' ⟨rfl, rfl⟩
  rw [hA0]
  clear hA0
  cases A0 with
  | false =>
    go_wp2
    go_ret
    exact ⟨by simp, HB.out⟩
  | true =>
    go_wp2_with fail
    refine H1.out.mono ?_
    rintro e w' ⟨rfl, rfl⟩
    cases A1 with
    | false =>
      go_wp2
      go_ret
      exact ⟨by simp, HB.out⟩
    | true =>
      go_wp2_with fail
      refine H2.out.mono ?_
      rintro e w' ⟨rfl, rfl⟩
      cases A2 with
      | false =>
        go_wp2
        go_ret
        exact ⟨by simp, HB.out⟩
      | true =>
        go_wp2_with fail
        refine H3.out.mono ?_
        rintro e w' ⟨rfl, rfl⟩
        cases A3 with
        | false =>
          go_wp2
          go_ret
          exact ⟨by simp, HB.out⟩
        | true =>
          go_wp2
          go_ret
          exact ⟨by simp, HB.out⟩

theorem inPool_f (x : Int) (w : World) : Calls Tryd.prog 70 #[.int .i64 x] w fun e w' => e = .returned (.bool (decide (0 ≤ x ∧ x ≤ 15))) ∧ w' = w := by
  by_cases h1 : x < 0
  · have hd : decide (0 ≤ x ∧ x ≤ 15) = false := by simp; omega
    rw [hd]
    go_enter Tryd.func70, Tryd.ntmps70
    go_wp2
    go_ret
    exact ⟨rfl, rfl⟩
  · by_cases h2 : x < 16
    · have hd : decide (0 ≤ x ∧ x ≤ 15) = true := by simp; omega
      rw [hd]
      go_enter Tryd.func70, Tryd.ntmps70
      go_wp2
      go_ret
      exact ⟨rfl, rfl⟩
    · have hd : decide (0 ≤ x ∧ x ≤ 15) = false := by simp; omega
      rw [hd]
      go_enter Tryd.func70, Tryd.ntmps70
      go_wp2
      go_ret
      exact ⟨rfl, rfl⟩

set_option maxRecDepth 100000 in
set_option maxHeartbeats 1000000 in
theorem sigFormOk_any (a : Int) (vo vs vd : Value) (g1 o1 g2 o2 g3 o3 : Nat) (o s d : List ByteArray) (w : World) (ho : SS w vo g1 o1 o) (hs : SS w vs g2 o2 s) (hd : SS w vd g3 o3 d) :
    Calls Tryd.prog 65 #[.agg #[.int .i64 a, vo, vs, vd]] w fun e w' => e = .returned (.bool (formB a o s d)) ∧ Below w.heap.size w w' := by
  have H1 : Hid (∀ W, Below w.heap.size w W → Calls Tryd.prog 94 #[vo, .int .i64 16] W fun e w' => e = .returned (.bool (kwB o)) ∧ w' = W) := fun W hW => allWide_16 vo g1 o1 o _ (ho.below hW ho.lt)
  have H2 : Hid (∀ W, Below w.heap.size w W → Calls Tryd.prog 94 #[vs, .int .i64 16] W fun e w' => e = .returned (.bool (kwB s)) ∧ w' = W) := fun W hW => allWide_16 vs g2 o2 s _ (hs.below hW hs.lt)
  have H3 : Hid (∀ W, Below w.heap.size w W → Calls Tryd.prog 94 #[vd, .int .i64 16] W fun e w' => e = .returned (.bool (kwB d)) ∧ w' = W) := fun W hW => allWide_16 vd g3 o3 d _ (hd.below hW hd.lt)
  unfold formB
  generalize kwB o = A1 at *
  generalize kwB s = A2 at *
  generalize kwB d = A3 at *
  generalize hA0 : decide (0 ≤ a ∧ a ≤ 15) = A0
  obtain ⟨ao, co, rfl, hlo, hx1⟩ := ho
  obtain ⟨as2, cs2, rfl, hls, hx2⟩ := hs
  obtain ⟨ad, cd, rfl, hld, hx3⟩ := hd
  clear hx1 hx2 hx3
  generalize o.length = n1 at *
  generalize s.length = n2 at *
  generalize d.length = n3 at *
  have HB : Hid (∀ x y z : Obj, Below w.heap.size w (((w.alloc x).alloc y).alloc z)) := fun x y z => (((Below.refl _ _).alloc (Nat.le_refl _) _).alloc (by simp) _).alloc (by simp; omega) _
  by_cases h1 : (n1 : Int) = 8
  · by_cases h2 : (n2 : Int) = 8
    · by_cases h3 : (n3 : Int) = 4
      · obtain rfl : n1 = 8 := by omega
        obtain rfl : n2 = 8 := by omega
        obtain rfl : n3 = 4 := by omega
        clear h1 h2 h3 hlo hls hld
        go_enter Tryd.func65, Tryd.ntmps65
        go_wp2_with fail
        refine (inPool_f _ _).mono ?_
        rintro e w1 ⟨rfl, rfl⟩
        rw [hA0]
        clear hA0
        cases A0 with
        | false =>
          go_wp2
          go_ret
          exact ⟨by simp, HB.out _ _ _⟩
        | true =>
          go_wp2_with fail
          refine (H1.out _ (HB.out _ _ _)).mono ?_
          rintro e w1 ⟨rfl, rfl⟩
          cases A1 with
          | false =>
            go_wp2
            go_ret
            exact ⟨by simp, HB.out _ _ _⟩
          | true =>
            go_wp2_with fail
            refine (H2.out _ (HB.out _ _ _)).mono ?_
            rintro e w1 ⟨rfl, rfl⟩
            cases A2 with
            | false =>
              go_wp2
              go_ret
              exact ⟨by simp, HB.out _ _ _⟩
            | true =>
              go_wp2_with fail
              refine (H3.out _ (HB.out _ _ _)).mono ?_
              rintro e w1 ⟨rfl, rfl⟩
              go_wp2
              go_ret
              exact ⟨by simp, HB.out _ _ _⟩
      · obtain rfl : n1 = 8 := by omega
        obtain rfl : n2 = 8 := by omega
        have hF : (A0 && ((A1 && decide ((8 : Nat) = 8)) && ((A2 && decide ((8 : Nat) = 8)) && (A3 && decide (n3 = 4))))) = false := by
          rw [decide_eq_false (show ¬ n3 = 4 by omega)]; simp
        rw [hF]
        clear h1 h2 hlo hls hF
        go_enter Tryd.func65, Tryd.ntmps65
        go_wp2_with fail
        refine (inPool_f _ _).mono ?_
        rintro e w1 ⟨rfl, rfl⟩
        rw [hA0]
        clear hA0
        cases A0 with
        | false =>
          go_wp2
          go_ret
          exact ⟨by simp, HB.out _ _ _⟩
        | true =>
          go_wp2
          go_ret
          exact ⟨by simp, HB.out _ _ _⟩
    · obtain rfl : n1 = 8 := by omega
      have hF : (A0 && ((A1 && decide ((8 : Nat) = 8)) && ((A2 && decide (n2 = 8)) && (A3 && decide (n3 = 4))))) = false := by
        rw [decide_eq_false (show ¬ n2 = 8 by omega)]; simp
      rw [hF]
      clear h1 hlo hF
      go_enter Tryd.func65, Tryd.ntmps65
      go_wp2_with fail
      refine (inPool_f _ _).mono ?_
      rintro e w1 ⟨rfl, rfl⟩
      rw [hA0]
      clear hA0
      cases A0 with
      | false =>
        go_wp2
        go_ret
        exact ⟨by simp, HB.out _ _ _⟩
      | true =>
        go_wp2
        go_ret
        exact ⟨by simp, HB.out _ _ _⟩
  · have hF : (A0 && ((A1 && decide (n1 = 8)) && ((A2 && decide (n2 = 8)) && (A3 && decide (n3 = 4))))) = false := by
      rw [decide_eq_false (show ¬ n1 = 8 by omega)]; simp
    rw [hF]
    clear hF
    go_enter Tryd.func65, Tryd.ntmps65
    go_wp2_with fail
    refine (inPool_f _ _).mono ?_
    rintro e w1 ⟨rfl, rfl⟩
    rw [hA0]
    clear hA0
    cases A0 with
    | false =>
      go_wp2
      go_ret
      exact ⟨by simp, HB.out _ _ _⟩
    | true =>
      go_wp2
      go_ret
      exact ⟨by simp, HB.out _ _ _⟩

end Go.Proofs.YtaejeemjndmjcaaDoor
