/-
  Texts laid together: Bk, Pb, Lsd.
-/
import Derived.Test.YtklpanjedolkdaaGreatDoorPkELS35
import Derived.Test.YtklpanjedolkdaaGreatDoorPkELS26
import Derived.Test.YtklpanjedolkdaaGreatDoorPkELS31
import Derived.Test.YtklpanjedolkdaaGreatDoorPkELS11
import Derived.Lib.QuietBelow
import Derived.Test.YtklpanjedolkdaaGreatDoorPkELS33
import Derived.Test.YtklpanjedolkdaaGreatDoorPkELS13
import Derived.Test.YtklpanjedolkdaaGreatDoorPkELS9
/-
  The leaves whose names have an index: the program's answer.
-/
namespace Go.Proofs.YtklpanjedolkdaaGreatDoor
open Go.RowKit Go.BigFrame Go.Sort
set_option linter.unusedVariables false
set_option linter.unusedSimpArgs false

set_option maxRecDepth 100000 in
set_option maxHeartbeats 1000000 in
theorem BucketOf_any (v : Value) (ga oa : Nat) (L : List Le) (i : Int) (w : World) (hv : RS 2 lcs w v ga oa L) (hsm : SmallL L) (hK : TabK w) (hF : TabF w) :
    Calls Tryz.prog 120 #[v, .int .i64 i] w fun e w' => ∃ u, e = .returned u ∧ OL w.heap.size w w' u (bkL L i) := by
  have HV : Hid (RS 2 lcs w v ga oa L ∧ SmallL L ∧ TabK w ∧ TabF w) := ⟨hv, hsm, hK, hF⟩
  obtain ⟨a, cap, rfl, hl, hA, _⟩ := hv
  obtain ⟨n, hn⟩ : ∃ n, L.length = n := ⟨_, rfl⟩
  have HA : Hid (0 < n → a = some ⟨ga, oa, none⟩) := by rw [← hn]; exact fun h => (hA h).1
  rw [hn] at hl HV ⊢
  clear hA hsm hK hF
  have HST : Hid (BkR w L i (.slice (some ⟨w.heap.size, 0, none⟩) 0 0) (.int .i64 0) (w.alloc (.cells #[] 109))) := ⟨0, by omega, rfl, OL.made _ w w (Below.refl _ _) (Nat.le_refl _)⟩
  go_enter Tryz.func120, Tryz.ntmps120
  go_wp2
  go_loopw [5, 11] (fun u j wr => BkR w L i u j wr) (fun _ j _ => n - (intOf j).toNat)
  case atStart => exact HST.out
  case round =>
    obtain ⟨m, hm, rfl, HI⟩ := hrel
    clear HST
    rw [hn] at hm
    obtain ⟨au, cu, rfl⟩ := HI.out.shape
    by_cases hlt : m < n
    · have ea := HA.out (by omega)
      subst ea
      obtain ⟨c0, c1⟩ := (HV.out.1.later HI.out.2.1).leaf m (by omega)
      obtain ⟨X, hX⟩ : ∃ X, L[m]'(by omega) = X := ⟨_, rfl⟩
      rw [hX] at c0 c1
      have hxs := HV.out.2.1 X (by rw [← hX]; exact List.getElem_mem _)
      have hst := bk_step (L := L) (m := m) i (by omega)
      rw [hX] at hst
      have hle : ((L.take m).filter (bkP i)).length ≤ L.length := LV.filt_len L m _
      have i1 : (m : Int) < (n : Int) := by omega
      have i2 : (0 : Int) ≤ (m : Int) := by omega
      have hba : Below wr.heap.size wr (wr.alloc (.cells #[.string X.n, .string X.v] 109)) := (Below.refl _ _).alloc (Nat.le_refl _) _
      have hwa : Below w.heap.size w (wr.alloc (.cells #[.string X.n, .string X.v] 109)) := HI.out.2.1.trans (hba.mono HI.out.2.2)
      have hix := IndexOf_any X.n _ hxs.1 (HV.out.2.2.1.later hwa HV.out.2.2.1.pos) (HV.out.2.2.2.later hwa HV.out.2.2.2.pos)
      change Calls Tryz.prog 119 _ _ (fun e w' => e = .returned (.int .i64 (idxN X.n : Int)) ∧ Below _ _ w') at hix
      obtain ⟨N, hN⟩ : ∃ N, idxN X.n = N := ⟨_, rfl⟩
      rw [hN] at hix
      have HBK : Hid (bkP i X = decide ((N : Int) = i)) := by rw [← hN]; rfl
      have HO1 : Hid (OL w.heap.size w (wr.alloc (.cells #[.string X.n, .string X.v] 109)) (.slice au ((L.take m).filter (bkP i)).length cu) ((L.take m).filter (bkP i))) := HI.out.later hba
      clear HV HA hX hN hba hwa HI
      generalize hl0 : (L.take m).filter (bkP i) = l at *
      clear hl0
      go_wp2_with fail
      refine hix.mono ?_
      rintro e w1 ⟨rfl, hb1⟩
      have HO2 : Hid (OL w.heap.size w w1 (.slice au l.length cu) l) := HO1.out.later hb1
      have hbx : BL w1 wr.heap.size X.n X.v := (BL.new wr X.n X.v).later hb1
      have x0 := hbx.c0
      have x1 := hbx.c1
      clear hix hb1 HO1 hbx
      by_cases hk : (N : Int) = i
      · rw [HBK.out, decide_eq_true hk] at hst
        have HJ : Hid ((L.take (m + 1)).filter (bkP i) = l ++ [X]) := hst
        have hk2 : ((N : Int) == i) = true := by simpa using hk
        clear hst HBK
        go_wp2_with fail
        refine (copiedL_any X _ hxs.1 hxs.2).mono ?_
        rintro e w2 ⟨rfl, hb2⟩
        have hbc : Below w1.heap.size w1 (w2.alloc (.cells #[.string X.n, .string X.v] 109)) := hb2.alloc hb2.size _
        have hoa := HO2.out.later hbc
        have HRN : Hid ((w2.alloc (.cells #[.string X.n, .string X.v] 109)).rangeAt w2.heap.size 0 (lcs X)) := range_new _ [.string X.n, .string X.v] 109
        clear hbc hb2 HO2 x0 x1 c0 c1
        go_wp2_with (at_builtin; refine wp_leafL rfl _ _ rfl w.heap.size w (.slice au l.length cu) l X rfl hoa _ rfl HRN.out (by omega) ?_)
        intro g5 cap5 w5 ho5 hg5 hl5
        have HK : Hid (OL w.heap.size w w5 (.slice (some ⟨g5, 0, none⟩) (l.length + 1) cap5) ((L.take (m + 1)).filter (bkP i))) := by rw [HJ.out]; exact ho5
        clear ho5 hg5 hl5 hoa HRN HJ
        go_wp2
        go_roundw
        case rel => exact ⟨m + 1, by omega, by go_num, HK⟩
        case measure => simp [intOf]; omega
      · rw [HBK.out, decide_eq_false hk] at hst
        have HJ : Hid (OL w.heap.size w w1 (.slice au l.length cu) ((L.take (m + 1)).filter (bkP i))) := by rw [hst]; exact HO2.out
        have hk2 : ((N : Int) == i) = false := by simpa using hk
        clear hst HBK HO2
        go_wp2
        go_roundw
        case rel => exact ⟨m + 1, by omega, by go_num, HJ⟩
        case measure => simp [intOf]; omega
    · have hme : m = n := by omega
      have e : (L.take m).filter (bkP i) = bkL L i := by rw [List.take_of_length_le (by omega)]; rfl
      have HF : Hid (∃ u, Ending.returned (.slice au ((L.take m).filter (bkP i)).length cu) = .returned u ∧ OL w.heap.size w wr u (bkL L i)) := ⟨_, rfl, by rw [← e]; exact HI.out⟩
      generalize (L.take m).filter (bkP i) = l at *
      subst hme
      clear HI HA HV e
      go_wp2
      go_ret
      exact HF.out

end Go.Proofs.YtklpanjedolkdaaGreatDoor
/-
  Proofs: whether a bucket is of one index, and when they are right: the program's answers.
-/
namespace Go.Proofs.YtklpanjedolkdaaGreatDoor
open Go.RowKit Go.BigFrame Go.Sort
set_option linter.unusedVariables false
set_option linter.unusedSimpArgs false

def allI (B : List Le) (i : Int) : Bool := B.all (bkP i)
theorem allI_len (B : List Le) (i : Int) : allI B i = decide (((bkL B i).length : Int) = (B.length : Int)) := by
  unfold allI bkL
  cases h : B.all (bkP i) with
  | true =>
    rw [List.filter_eq_self.2 (List.all_eq_true.1 h)]
    simp
  | false =>
    have : (B.filter (bkP i)).length ≠ B.length := fun e => by
      have h2 := List.length_filter_eq_length_iff.1 e
      rw [← List.all_eq_true, h] at h2
      cases h2
    exact (decide_eq_false (by omega)).symm
theorem allI_is (B : List Le) (nm : ByteArray) : allI B (idxN nm) = B.all (fun f => decide (idxN f.n = idxN nm)) := by
  unfold allI
  congr 1
  funext f
  unfold bkP
  by_cases h : idxN f.n = idxN nm
  · rw [decide_eq_true h, decide_eq_true (by omega)]
  · rw [decide_eq_false h, decide_eq_false (by omega)]

end Go.Proofs.YtklpanjedolkdaaGreatDoor
/-
  The walk of the law FnExactSidesOf: it answers true of every row of leaves, every index, level and width.
-/
namespace Go.Proofs.YtklpanjedolkdaaGreatDoor
open Go.RowKit Go.BigFrame Go.Sort
set_option linter.unusedVariables false
set_option linter.unusedSimpArgs false

/-- texts answered, k of them -/
def TdP (k : Nat) (M : List ByteArray) (w : World) (e : Ending) (w' : World) : Prop := ∃ a cap g, e = .returned (.slice a k cap) ∧ TS w' (.slice a k cap) g M ∧ w.heap.size ≤ g ∧ Below w.heap.size w w'
theorem TdP.of {f : FuncId} {args : Array Value} {M : List ByteArray} {k : Nat} {w : World} (h : Calls Tryz.prog f args w fun e w' => ∃ u, e = .returned u ∧ OS w.heap.size w w' u M) (hk : M.length = k) (hl : k ≤ 1100000) : Calls Tryz.prog f args w (TdP k M w) :=
  h.mono fun e w' ⟨u, he, ho⟩ => by
    obtain ⟨gz, hts, hgz⟩ := ho.ts (by omega)
    obtain ⟨az, cz, rfl⟩ := ho.slice
    rw [hk] at he hts
    exact ⟨az, cz, gz, he, hts, hgz, ho.2.1⟩
theorem sdA_len (L : List Le) (ix l x : Int) : (sdA L ix l x).length ≤ 8 := by
  unfold sdA
  split
  · rw [sdL_len]; omega
  · simp
theorem markT_one (v : Value) (g : Nat) (l : List ByteArray) (w : World) (h : TS w v g l) :
    Calls Tryz.prog 71 #[v, .int .i64 1] w fun e w' => e = .returned (.int .i64 (1 + l.length : Nat)) ∧ TS w' v g (marks 1 l.length) ∧ w.grownBy w' (rowOf g l) := markStringS_any v g l 1 1 w rfl h (by omega) (by omega)
theorem heldT_one (v : Value) (g n : Nat) (w : World) (h : TS w v g (marks 1 n)) :
    Calls Tryz.prog 73 #[v, .int .i64 1] w fun e w' => e = .returned (.int .i64 (1 + n : Nat)) ∧ Below w.heap.size w w' := heldStringS_any v g 1 1 n w rfl h (by omega) (by omega)
theorem markS_one (v : Value) (g : Nat) (l : List Le) (w : World) (h : RW 2 lcs w v g l) :
    Calls Tryz.prog 70 #[v, .int .i64 1] w fun e w' => e = .returned (.int .i64 (1 + 2 * l.length : Nat)) ∧ RW 2 lcs w' v g (lmarks 1 l.length) ∧ w.grownBy w' (rowF g l.length) := markLeafS_any v g l 1 1 w rfl h (by omega) (by omega)
theorem rowOf_leT {g B : Nat} {l : List ByteArray} (h : B ≤ g) (q : Nat) (hq : rowOf g l = some q) : B ≤ q := by
  unfold rowOf at hq
  split at hq
  · cases hq
  · have : g = q := by simpa using hq
    omega
/-- two rows of texts compared: below, in plain words -/
theorem eqT_yes (va vb : Value) (ga gb : Nat) (l : List ByteArray) (w : World) (ha : TS w va ga l) (hb : TS w vb gb l) :
    Calls Tryz.prog 69 #[va, vb] w fun e w' => e = .returned (.bool true) ∧ Below w.heap.size w w' :=
  (eqStringS_yes va vb ga 0 gb 0 l w ha.ss hb.ss).mono fun e w' ⟨he, q, hw⟩ => ⟨he, by rw [hw]; exact below_drn (Below.refl _ _) q⟩

end Go.Proofs.YtklpanjedolkdaaGreatDoor
