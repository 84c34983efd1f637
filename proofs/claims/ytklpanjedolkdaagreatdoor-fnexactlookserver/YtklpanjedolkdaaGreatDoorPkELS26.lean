/-
  Texts laid together: Bkd, Lit, Tbl.
-/
import Derived.Test.YtklpanjedolkdaaGreatDoorPkELS11
import Derived.Test.YtklpanjedolkdaaGreatDoorPkELS25
import Derived.Test.YtklpanjedolkdaaGreatDoorPkELS7
/-
  The leaves whose names have an index: the specification's answer.
-/
namespace Go.Proofs.YtklpanjedolkdaaGreatDoor
open Go.RowKit Go.BigFrame Go.Sort
set_option linter.unusedVariables false
set_option linter.unusedSimpArgs false

def idxN (t : ByteArray) : Nat := (byte0 (digB t)).toNat
/-- has it this index? -/
def bkP (i : Int) (f : Le) : Bool := decide ((idxN f.n : Int) = i)
def bkL (L : List Le) (i : Int) : List Le := L.filter (bkP i)
theorem bk_step {L : List Le} {m : Nat} (i : Int) (hm : m < L.length) : (L.take (m + 1)).filter (bkP i) = if bkP i L[m] = true then (L.take m).filter (bkP i) ++ [L[m]] else (L.take m).filter (bkP i) := LV.filt_step _ hm

def BkR (w : World) (L : List Le) (i : Int) (u j : Value) (wr : World) : Prop := ∃ m : Nat, m ≤ L.length ∧ j = .int .i64 m ∧ Hid (OL w.heap.size w wr u ((L.take m).filter (bkP i)))

set_option maxRecDepth 100000 in
set_option maxHeartbeats 1000000 in
theorem sBucketOf_any (v : Value) (ga oa : Nat) (L : List Le) (i : Int) (w : World) (hv : RS 2 lcs w v ga oa L) (hsm : SmallL L) :
    Calls Tryz.prog 112 #[v, .int .i64 i] w fun e w' => ∃ u, e = .returned u ∧ OL w.heap.size w w' u (bkL L i) := by
  have HV : Hid (RS 2 lcs w v ga oa L ∧ SmallL L) := ⟨hv, hsm⟩
  obtain ⟨a, cap, rfl, hl, hA, _⟩ := hv
  obtain ⟨n, hn⟩ : ∃ n, L.length = n := ⟨_, rfl⟩
  have HA : Hid (0 < n → a = some ⟨ga, oa, none⟩) := by rw [← hn]; exact fun h => (hA h).1
  rw [hn] at hl HV ⊢
  clear hA hsm
  have HST : Hid (BkR w L i (.slice (some ⟨w.heap.size, 0, none⟩) 0 0) (.int .i64 0) (w.alloc (.cells #[] 109))) := ⟨0, by omega, rfl, OL.made _ w w (Below.refl _ _) (Nat.le_refl _)⟩
  go_enter Tryz.func112, Tryz.ntmps112
  go_wp2
  go_loopw [5, 6] (fun u j wr => BkR w L i u j wr) (fun _ j _ => n - (intOf j).toNat)
  case atStart => exact HST.out
  case round =>
    obtain ⟨m, hm, rfl, HI⟩ := hrel
    clear HST
    rw [hn] at hm
    obtain ⟨au, cu, rfl⟩ := HI.out.shape
    by_cases hlt : m < n
    · have ea := HA.out (by omega)
      subst ea
      obtain ⟨c0, c1⟩ := (HV.out.1.later HI.out.2.1).leaf m (by omega)
      obtain ⟨X, hX⟩ : ∃ X, L[m]'(by omega) = X := ⟨_, rfl⟩
      rw [hX] at c0 c1
      have hxs := HV.out.2 X (by rw [← hX]; exact List.getElem_mem _)
      have hst := bk_step (L := L) (m := m) i (by omega)
      rw [hX] at hst
      have hle : ((L.take m).filter (bkP i)).length ≤ L.length := LV.filt_len L m _
      have i1 : (m : Int) < (n : Int) := by omega
      have i2 : (0 : Int) ≤ (m : Int) := by omega
      have hix := sIndexOf_any X.n wr hxs.1
      change Calls Tryz.prog 109 _ _ (fun e w' => e = .returned (.int .i64 (idxN X.n : Int)) ∧ Below _ _ w') at hix
      obtain ⟨N, hN⟩ : ∃ N, idxN X.n = N := ⟨_, rfl⟩
      rw [hN] at hix
      have HBK : Hid (bkP i X = decide ((N : Int) = i)) := by rw [← hN]; rfl
      have HCC : Hid (∀ W, Below wr.heap.size wr W → W.cell? ⟨ga, oa + m * 2, none⟩ = some (.string X.n) ∧ W.cell? ⟨ga, oa + m * 2 + 1, none⟩ = some (.string X.v)) := fun W hW => ⟨(cell_kept (hW.block ga (lt_of_cell c0))).trans c0, (cell_kept (hW.block ga (lt_of_cell c0))).trans c1⟩
      clear HV HA hX hN
      generalize hl0 : (L.take m).filter (bkP i) = l at *
      clear hl0
      go_wp2_with fail
      refine hix.mono ?_
      rintro e w1 ⟨rfl, hb1⟩
      have HO2 : Hid (OL w.heap.size w w1 (.slice au l.length cu) l) := HI.out.later hb1
      obtain ⟨x0, x1⟩ := HCC.out _ hb1
      clear hix hb1 HI HCC c0 c1
      by_cases hk : (N : Int) = i
      · rw [HBK.out, decide_eq_true hk] at hst
        have HJ : Hid ((L.take (m + 1)).filter (bkP i) = l ++ [X]) := hst
        have hk2 : ((N : Int) == i) = true := by simpa using hk
        have hbc : Below w1.heap.size w1 (w1.alloc (.cells #[.string X.n, .string X.v] 109)) := (Below.refl _ _).alloc (Nat.le_refl _) _
        have hoa := HO2.out.later hbc
        have HRN : Hid ((w1.alloc (.cells #[.string X.n, .string X.v] 109)).rangeAt w1.heap.size 0 (lcs X)) := range_new _ [.string X.n, .string X.v] 109
        clear hbc HO2 hst HBK
        go_wp2_with (at_builtin; refine wp_leafL rfl _ _ rfl w.heap.size w (.slice au l.length cu) l X rfl hoa _ rfl HRN.out (by omega) ?_)
        intro g5 cap5 w5 ho5 hg5 hl5
        have HK : Hid (OL w.heap.size w w5 (.slice (some ⟨g5, 0, none⟩) (l.length + 1) cap5) ((L.take (m + 1)).filter (bkP i))) := by rw [HJ.out]; exact ho5
        clear ho5 hg5 hl5 hoa HRN HJ
        go_wp2
        go_roundw
        case rel => exact ⟨m + 1, by omega, by go_num, HK⟩
        case measure => simp [intOf]; omega
      · rw [HBK.out, decide_eq_false hk] at hst
        have HJ : Hid (OL w.heap.size w w1 (.slice au l.length cu) ((L.take (m + 1)).filter (bkP i))) := by rw [hst]; exact HO2.out
        have hk2 : ((N : Int) == i) = false := by simpa using hk
        clear hst HBK HO2
        go_wp2
        go_roundw
        case rel => exact ⟨m + 1, by omega, by go_num, HJ⟩
        case measure => simp [intOf]; omega
    · have hme : m = n := by omega
      have e : (L.take m).filter (bkP i) = bkL L i := by rw [List.take_of_length_le (by omega)]; rfl
      have HF : Hid (∃ u, Ending.returned (.slice au ((L.take m).filter (bkP i)).length cu) = .returned u ∧ OL w.heap.size w wr u (bkL L i)) := ⟨_, rfl, by rw [← e]; exact HI.out⟩
      generalize (L.take m).filter (bkP i) = l at *
      subst hme
      clear HI HA HV e
      go_wp2
      go_ret
      exact HF.out

end Go.Proofs.YtklpanjedolkdaaGreatDoor
/-
  Rows of texts that are written out.
-/
namespace Go.Proofs.YtklpanjedolkdaaGreatDoor
open Go.RowKit
set_option linter.unusedVariables false

/-- texts that are written out -/
theorem ss_lits (w : World) (l : List ByteArray) (cs : Array Value) (n : Nat) (hn : l.length = n) (hl : n ≤ 1100000) (hc : cs = (svs l).toArray) : SS (w.alloc (.cells cs 9)) (.slice (some ⟨w.heap.size, 0, none⟩) n n) w.heap.size 0 l := by
  subst hc
  subst hn
  refine ⟨_, _, rfl, hl, fun _ => rfl, fun j hj => ?_⟩
  rw [Nat.zero_add, World.cell?_alloc_at _ _ _ _ rfl]
  simp [svs, List.getElem?_eq_getElem hj]

end Go.Proofs.YtklpanjedolkdaaGreatDoor
/-
  Tagged hashes of texts that are written out, at any width.
-/
namespace Go.Proofs.YtklpanjedolkdaaGreatDoor
open Go.RowKit Go.BigFrame
set_option linter.unusedVariables false

/-- the two tables lie as the program's text lays them -/
def Tb (w : World) : Prop := TabK w ∧ TabF w
theorem Tb.later {w w' : World} (h : Tb w) (hb : Below w.heap.size w w') : Tb w' := ⟨h.1.later hb h.1.pos, h.2.later hb h.2.pos⟩
theorem Tb.alloc {w : World} (h : Tb w) (o : Obj) : Tb (w.alloc o) := h.later ((Below.refl _ _).alloc (Nat.le_refl _) _)

theorem taggedHash_w (x k : Int) (l : List ByteArray) (n : Nat) (cs : Array Value) (w : World) (g : Nat) (hg : w.heap.size = g) (hn : l.length = n) (hl : n ≤ 60) (hc : cs = (svs l).toArray) (hT : Tb w) :
    Hid (Calls Tryz.prog 225 #[.int .i64 x, .int .i64 k, .slice (some ⟨g, 0, none⟩) n n] (w.alloc (.cells cs 9)) fun e w' => e = .returned (.string (hashB k l x)) ∧ Below w.heap.size w w') := by
  subst hg
  have hT' := hT.alloc (.cells cs 9)
  exact (taggedHash_any x k _ w.heap.size 0 l (w.alloc (.cells cs 9)) (ss_lits w l cs n hn (by omega) hc) hT'.1 hT'.2).mono fun e w' ⟨he, hb⟩ => ⟨he, ((Below.refl _ _).alloc (Nat.le_refl _) _).trans (hb.mono (by simp))⟩
theorem taggedHash_wd (x k : Int) (l : List ByteArray) (n : Nat) (cs : Array Value) (w : World) (g : Nat) (hg : w.heap.size = g) (hn : l.length = n) (hl : n ≤ 60) (hc : cs = (svs l).toArray) (hT : Tb w) :
    Hid (Calls Tryz.prog 225 #[.int .i64 x, .int .i64 k, .slice (some ⟨g, 0, none⟩) n n] (w.alloc (.cells cs 9)).drew fun e w' => e = .returned (.string (hashB k l x)) ∧ Below w.heap.size w w') := by
  have h := taggedHash_w x k l n cs w.drew g hg hn hl hc hT
  exact h.out.mono fun e w' ⟨he, hb⟩ => ⟨he, (Below.refl _ _).drew.trans hb⟩
theorem sTagHash_w (x k : Int) (l : List ByteArray) (n : Nat) (cs : Array Value) (w : World) (g : Nat) (hg : w.heap.size = g) (hn : l.length = n) (hl : n ≤ 60) (hc : cs = (svs l).toArray) :
    Hid (Calls Tryz.prog 187 #[.int .i64 k, .slice (some ⟨g, 0, none⟩) n n, .int .i64 x] (w.alloc (.cells cs 9)) fun e w' => e = .returned (.string (hashB k l x)) ∧ Below w.heap.size w w') := by
  subst hg
  exact (sTagHash_any k _ x w.heap.size 0 l (w.alloc (.cells cs 9)) (ss_lits w l cs n hn (by omega) hc)).mono fun e w' ⟨he, hb⟩ => ⟨he, ((Below.refl _ _).alloc (Nat.le_refl _) _).trans (hb.mono (by simp))⟩
theorem sTagHash_wd (x k : Int) (l : List ByteArray) (n : Nat) (cs : Array Value) (w : World) (g : Nat) (hg : w.heap.size = g) (hn : l.length = n) (hl : n ≤ 60) (hc : cs = (svs l).toArray) :
    Hid (Calls Tryz.prog 187 #[.int .i64 k, .slice (some ⟨g, 0, none⟩) n n, .int .i64 x] (w.alloc (.cells cs 9)).drew fun e w' => e = .returned (.string (hashB k l x)) ∧ Below w.heap.size w w') := by
  have h := sTagHash_w x k l n cs w.drew g hg hn hl hc
  exact h.out.mono fun e w' ⟨he, hb⟩ => ⟨he, (Below.refl _ _).drew.trans hb⟩

end Go.Proofs.YtklpanjedolkdaaGreatDoor
