/-
  The walk of the law FnLeaves: it answers true of every code.
-/
import Derived.Test.YtofdlkfihhjlgaaDv
import Derived.Test.YtofdlkfihhjlgaaSm
import Derived.Test.YtofdlkfihhjlgaaLs
namespace Go.Proofs.Ytofdlkfihhjlgaa
open Go.RowKit Go.BigFrame Go.Sort
set_option linter.unusedVariables false
set_option linter.unusedSimpArgs false

theorem code_later9 {w w' : World} {v : Value} (h : Code w.heap.size w v) (hb : Below w.heap.size w w') : Code w'.heap.size w' v := by
  obtain ⟨ao, b, off, len, cap, rfl, hl, h1, h2⟩ := h
  refine ⟨ao, b, off, len, cap, rfl, hl, fun h0 => ⟨(h1 h0).1, Nat.lt_of_lt_of_le (h1 h0).2 hb.size⟩, fun j hj => ?_⟩
  obtain ⟨n, hn, hc⟩ := h2 j hj
  exact ⟨n, hn, (hb.cell (p := ⟨b, off + j, none⟩) (h1 (by omega)).2).trans hc⟩
theorem small_ok {L : List Le} (h : LV.LOk L) : SmallL L := fun f hf => by have := LV.leB_sizes (h.2.1 f hf); omega
def valT : ByteArray := ⟨#[118, 97, 108, 117, 101]⟩
theorem valT_ok : okB valB valT = true := by decide +kernel
/-- what the law knows of a drawn list and a drawn name -/
theorem leaves_facts {L : List Le} {x : ByteArray} (hL : LV.LOk L) (hl : L.length ≤ 8) (hx : okB nameB x = true) :
    LV.putB L ⟨x, valT⟩ = true ∧ LV.LOk (LV.put L ⟨x, valT⟩) ∧ LV.LOk (LV.wout (LV.put L ⟨x, valT⟩) x) ∧ (LV.getV (LV.put L ⟨x, valT⟩) x = valT ∧ LV.getB (LV.put L ⟨x, valT⟩) x = true) ∧ LV.dropB (LV.put L ⟨x, valT⟩) x = true ∧ LV.getB (LV.wout (LV.put L ⟨x, valT⟩) x) x = false
      ∧ (∀ g ∈ L, g.n ≠ x → (LV.getV (LV.put L ⟨x, valT⟩) g.n = g.v ∧ LV.getB (LV.put L ⟨x, valT⟩) g.n = true) ∧ (LV.getV (LV.wout (LV.put L ⟨x, valT⟩) x) g.n = g.v ∧ LV.getB (LV.wout (LV.put L ⟨x, valT⟩) x) g.n = true))
      ∧ (LV.wout (LV.put L ⟨x, valT⟩) x).length + 1 = (LV.put L ⟨x, valT⟩).length := by
  have hlb : LV.leB ⟨x, valT⟩ = true := by unfold LV.leB; rw [hx, valT_ok]; rfl
  have hpb := LV.putB_yes (f := ⟨x, valT⟩) hL (by omega) hlb
  have hok := LV.putB_ok hpb
  have how := LV.ok_wout hok x
  refine ⟨hpb, hok, how, LV.get_of (f := ⟨x, valT⟩) hok.2.2 (LV.mem_put.2 (.inl rfl)), LV.dropB_yes (f := ⟨x, valT⟩) hok, LV.get_not (LV.wout_put (f := ⟨x, valT⟩)), fun g hg hne => ?_, LV.len_drop hL.2.2 ⟨x, valT⟩⟩
  have hm : g ∈ LV.put L ⟨x, valT⟩ := LV.mem_put.2 (.inr ⟨hg, hne⟩)
  exact ⟨LV.get_of hok.2.2 hm, LV.get_of how.2.2 (LV.mem_wout.2 ⟨hm, hne⟩)⟩

set_option maxRecDepth 100000 in
set_option maxHeartbeats 4000000 in
theorem leavesLaw_any (a0 : Option Addr) (len0 cap0 : Nat) (w : World) (hl0 : len0 ≤ 1048576) (hc : Code w.heap.size w (.slice a0 len0 cap0)) :
    Calls Try.prog 3 #[.slice a0 len0 cap0] w fun e w' => e = .returned (.bool true) ∧ Below w.heap.size w w' := by
  have HC : Hid (Code w.heap.size w (.slice a0 len0 cap0)) := hc
  clear hc
  go_enter Try.func3, Try.ntmps3
  go_wp2_with fail
  refine (big_no a0 len0 cap0 _ hl0).mono ?_
  rintro e w0 ⟨rfl, rfl⟩
  go_wp2_with fail
  refine (DrawLeaves_any _ _ HC.out).mono ?_
  rintro e w1 ⟨a1, c1, g1, L, rfl, ⟨hl8, hLk, _⟩, hr1, hg1, hb1⟩
  have HC1 : Hid (Code w1.heap.size w1 (.slice a0 len0 cap0)) := code_later9 HC.out hb1
  go_wp2_with fail
  refine (DrawName_any _ _ HC1.out).mono ?_
  rintro e w2 ⟨x, ⟨hx, hx12⟩, rfl, hb2⟩
  have hF := leaves_facts (x := x) hLk hl8 hx
  have HW2 : Hid (RW 2 lcs w2 (.slice a1 L.length c1) g1 L ∧ Below w0.heap.size w0 w2) := ⟨hr1.later hb2, hb1.trans (hb2.mono hb1.size)⟩
  have hsL := small_ok hLk
  have hP := LeafPut_any _ g1 0 L ⟨x, valT⟩ w2 HW2.out.1.1 hsL (by show x.size ≤ 1048576; omega) (by show valT.size ≤ 1048576; decide)
  obtain ⟨hpb, hAk, hDk, hgA, hdb, hgD, hall, hlen⟩ := hF
  rw [hpb, putR_yes hpb] at hP
  have hdr := dropR_yes hdb
  have HA : Hid (LV.LOk (LV.put L ⟨x, valT⟩) ∧ LV.LOk (LV.wout (LV.put L ⟨x, valT⟩) x)) := ⟨hAk, hDk⟩
  have HALL : Hid (∀ g ∈ L, g.n ≠ x → (LV.getV (LV.put L ⟨x, valT⟩) g.n = g.v ∧ LV.getB (LV.put L ⟨x, valT⟩) g.n = true) ∧ (LV.getV (LV.wout (LV.put L ⟨x, valT⟩) x) g.n = g.v ∧ LV.getB (LV.wout (LV.put L ⟨x, valT⟩) x) g.n = true)) := hall
  generalize hAe : LV.put L ⟨x, valT⟩ = A at *
  generalize hDe : LV.wout A x = D at *
  clear hr1 hb1 hb2 hg1 hAk hDk hall HC HC1 hAe hDe hLk hsL hx hpb
  go_wp2_with fail
  refine hP.mono ?_
  rintro e w3 ⟨a3, c3, g3, rfl, hr3, hg3, hb3⟩
  have HW3 : Hid (RW 2 lcs w3 (.slice a1 L.length c1) g1 L ∧ RW 2 lcs w3 (.slice a3 A.length c3) g3 A ∧ Below w0.heap.size w0 w3) := ⟨HW2.out.1.later hb3, hr3, HW2.out.2.trans (hb3.mono HW2.out.2.size)⟩
  clear hP hr3 hg3 hb3 HW2
  have hG := LeafGet_any _ g3 0 A x w3 HW3.out.2.1.1 (small_ok HA.out.1)
  rw [hgA.1, hgA.2] at hG
  go_wp2_with fail
  refine hG.mono ?_
  rintro e w4 ⟨rfl, hb4⟩
  have HW4 : Hid (RW 2 lcs w4 (.slice a1 L.length c1) g1 L ∧ RW 2 lcs w4 (.slice a3 A.length c3) g3 A ∧ Below w0.heap.size w0 w4) := ⟨HW3.out.1.later hb4, HW3.out.2.1.later hb4, HW3.out.2.2.trans (hb4.mono HW3.out.2.2.size)⟩
  clear hG hb4 HW3
  have hD := LeafDrop_any _ g3 0 A x w4 HW4.out.2.1.1 (small_ok HA.out.1) (by omega)
  rw [hdb, hdr] at hD
  go_wp2_with fail
  refine hD.mono ?_
  rintro e w5 ⟨a5, c5, g5, rfl, hr5, hg5, hb5⟩
  have HW5 : Hid (RW 2 lcs w5 (.slice a1 L.length c1) g1 L ∧ RW 2 lcs w5 (.slice a3 A.length c3) g3 A ∧ RW 2 lcs w5 (.slice a5 D.length c5) g5 D ∧ Below w0.heap.size w0 w5) := ⟨HW4.out.1.later hb5, HW4.out.2.1.later hb5, hr5, HW4.out.2.2.trans (hb5.mono HW4.out.2.2.size)⟩
  clear hD hr5 hg5 hb5 HW4
  have hG2 := LeafGet_any _ g5 0 D x w5 HW5.out.2.2.1.1 (small_ok HA.out.2)
  rw [hgD] at hG2
  generalize LV.getV D x = T0 at *
  go_wp2_with fail
  refine hG2.mono ?_
  rintro e w6 ⟨rfl, hb6⟩
  have HW6 : Hid (RW 2 lcs w6 (.slice a1 L.length c1) g1 L ∧ RW 2 lcs w6 (.slice a3 A.length c3) g3 A ∧ RW 2 lcs w6 (.slice a5 D.length c5) g5 D ∧ Below w0.heap.size w0 w6) := by
    obtain ⟨h1, h2, h3, h4⟩ := HW5.out
    exact ⟨h1.later hb6, h2.later hb6, h3.later hb6, h4.trans (hb6.mono h4.size)⟩
  clear hG2 hb6 HW5 hgA hgD hdb hdr
  have HL1 : Hid (0 < L.length → a1 = some ⟨g1, 0, none⟩) := by
    obtain ⟨⟨a', c', ev, _, h1, _⟩, _⟩ := HW6.out.1
    simp at ev
    rw [ev.1]
    exact fun h => (h1 h).1
  have HST : Hid (∃ m : Nat, m ≤ L.length ∧ Value.int .i64 0 = .int .i64 m ∧ Hid (RW 2 lcs w6 (.slice a1 L.length c1) g1 L ∧ RW 2 lcs w6 (.slice a3 A.length c3) g3 A ∧ RW 2 lcs w6 (.slice a5 D.length c5) g5 D ∧ Below w0.heap.size w0 w6)) := ⟨0, by omega, rfl, HW6.out⟩
  clear HW6
  go_wp2
  go_loopw [13] (fun i wr => ∃ m : Nat, m ≤ L.length ∧ i = .int .i64 m ∧ Hid (RW 2 lcs wr (.slice a1 L.length c1) g1 L ∧ RW 2 lcs wr (.slice a3 A.length c3) g3 A ∧ RW 2 lcs wr (.slice a5 D.length c5) g5 D ∧ Below w0.heap.size w0 wr)) (fun i _ => L.length - (intOf i).toNat)
  case atStart => exact HST.out
  case round =>
    obtain ⟨m, hm, rfl, HI⟩ := hrel
    clear HST
    by_cases hlt : m < L.length
    · have ea := HL1.out (by omega)
      subst ea
      obtain ⟨c0, c1'⟩ := HI.out.1.1.leaf m hlt
      rw [Nat.zero_add] at c0 c1'
      obtain ⟨X, hX⟩ : ∃ X, L[m]'hlt = X := ⟨_, rfl⟩
      rw [hX] at c0 c1'
      have hXm : X ∈ L := by rw [← hX]; exact List.getElem_mem _
      have i1 : (m : Int) < (L.length : Int) := by omega
      have i2 : (0 : Int) ≤ (m : Int) := by omega
      have hGA := LeafGet_any _ g3 0 A X.n wr HI.out.2.1.1 (small_ok HA.out.1)
      have HGD : Hid (∀ W, Below wr.heap.size wr W → Calls Try.prog 14 #[.slice a5 D.length c5, .string X.n] W fun e w' => e = .returned (.tuple #[.string (LV.getV D X.n), .bool (LV.getB D X.n)]) ∧ Below W.heap.size W w') := fun W hW => LeafGet_any _ g5 0 D X.n W (HI.out.2.2.1.later hW).1 (small_ok HA.out.2)
      have HCC : Hid (∀ W, Below wr.heap.size wr W → (W.cell? ⟨g1, m * 2, none⟩ = some (.string X.n) ∧ W.cell? ⟨g1, m * 2 + 1, none⟩ = some (.string X.v))) := fun W hW => ⟨(cell_kept (hW.block g1 (lt_of_cell c0))).trans c0, (cell_kept (hW.block g1 (lt_of_cell c0))).trans c1'⟩
      go_wp2_with fail
      refine hGA.mono ?_
      rintro e w7 ⟨rfl, hb7⟩
      obtain ⟨x0, x1⟩ := HCC.out _ hb7
      clear hGA c0 c1'
      go_wp2_with fail
      refine (HGD.out _ hb7).mono ?_
      rintro e w8 ⟨rfl, hb8⟩
      have hb9 : Below wr.heap.size wr w8 := hb7.trans (hb8.mono hb7.size)
      obtain ⟨y0, y1⟩ := HCC.out _ hb9
      have HJ : Hid (RW 2 lcs w8 (.slice (some ⟨g1, 0, none⟩) L.length c1) g1 L ∧ RW 2 lcs w8 (.slice a3 A.length c3) g3 A ∧ RW 2 lcs w8 (.slice a5 D.length c5) g5 D ∧ Below w0.heap.size w0 w8) := by
        obtain ⟨h1, h2, h3, h4⟩ := HI.out
        exact ⟨h1.later hb9, h2.later hb9, h3.later hb9, h4.trans (hb9.mono h4.size)⟩
      clear x0 x1 hb7 hb8 hb9 HCC HGD HI hX
      by_cases hk : X.n = x
      · have qn : (X.n.toList == x.toList) = true := by rw [hk]; simp
        generalize LV.getV A X.n = T1 at *
        generalize LV.getB A X.n = B1 at *
        generalize LV.getV D X.n = T2 at *
        generalize LV.getB D X.n = B2 at *
        clear hk hXm HALL
        clear hlen
        go_wp2
        go_roundw
        case rel => exact ⟨m + 1, by omega, by go_num, HJ⟩
        case measure => simp [intOf]; omega
      · have qn : (X.n.toList == x.toList) = false := LV.bytes_ne hk
        obtain ⟨⟨h1, h2⟩, h3, h4⟩ := HALL.out X hXm hk
        simp only [h1, h2, h3, h4]
        clear hk hXm HALL h1 h2 h3 h4
        clear hlen
        go_wp2
        go_roundw
        case rel => exact ⟨m + 1, by omega, by go_num, HJ⟩
        case measure => simp [intOf]; omega
    · have hme : m = L.length := by omega
      subst hme
      have h1 := LeavesText_any _ g3 0 A wr HI.out.2.1.1 (small_ok HA.out.1)
      have hAB := LV.leavesB_iff.2 HA.out.1
      have hDB := LV.leavesB_iff.2 HA.out.2
      rw [hAB] at h1
      have hrd := LV.rd_back hAB
      have hts : (lvT A).size ≤ 1048576 := by
        rw [lvT_yes hAB]
        have h2 := lvP_len HA.out.1 A.length
        rw [lvP_all] at h2
        show (LV.lvL A).toArray.size ≤ 1048576
        simp
        omega
      have HRD : Hid (∀ W, Calls Try.prog 17 #[.string (lvT A)] W (fun e w' => ∃ a c g, e = .returned (.tuple #[.slice a A.length c, .bool true]) ∧ RW 2 lcs w' (.slice a A.length c) g A ∧ W.heap.size ≤ g ∧ Below W.heap.size W w')) := fun W => by
        have h3 := ReadLeaves_any (lvT A) W hts
        unfold RxP at h3
        rw [hrd.1, hrd.2] at h3
        exact h3
      have HOA : Hid (∀ W, Below wr.heap.size wr W → Calls Try.prog 18 #[.slice a3 A.length c3] W fun e w' => e = .returned (.bool true) ∧ Below W.heap.size W w') := fun W hW => by rw [← hAB]; exact LeavesOk_any _ g3 0 A W (HI.out.2.1.later hW).1 (small_ok HA.out.1)
      have HOD : Hid (∀ W, Below wr.heap.size wr W → Calls Try.prog 18 #[.slice a5 D.length c5] W fun e w' => e = .returned (.bool true) ∧ Below W.heap.size W w') := fun W hW => by rw [← hDB]; exact LeavesOk_any _ g5 0 D W (HI.out.2.2.1.later hW).1 (small_ok HA.out.2)
      have HSA : Hid (∀ W v gb, Below wr.heap.size wr W → RS 2 lcs W v gb 0 A → Calls Try.prog 19 #[v, .slice a3 A.length c3] W fun e w' => e = .returned (.bool true) ∧ Below W.heap.size W w') := fun W v gb hW hv => sameLeaves_yes v _ gb 0 g3 0 A W hv (HI.out.2.1.later hW).1
      have HBW : Hid (Below w0.heap.size w0 wr) := HI.out.2.2.2
      have hA24 := HA.out.1.1
      generalize lvT A = S at *
      clear HI HALL HL1 HA hAB hDB hrd
      go_wp2_with fail
      refine h1.mono ?_
      rintro e w7 ⟨rfl, hb7⟩
      clear h1
      go_wp2_with fail
      refine (HRD.out _).mono ?_
      rintro e w8 ⟨a8, c8, g8, rfl, hr8, hg8, hb8⟩
      have hb9 : Below wr.heap.size wr w8 := hb7.trans (hb8.mono hb7.size)
      have b9 : Below w0.heap.size w0 w8 := HBW.out.trans (hb9.mono HBW.out.size)
      clear HRD hb7 hb8 hg8
      have qv : (valT.toList == [118, 97, 108, 117, 101]) = true := by decide +kernel
      have ql : ((D.length : Int) == (A.length : Int) - 1) = true := by rw [beq_iff_eq]; omega
      have ql2 : (D.length : Int) = (A.length : Int) - 1 := by omega
      go_wp2_with fail
      refine (HOA.out _ hb9).mono ?_
      rintro e w10 ⟨rfl, hb10⟩
      have hb11 : Below wr.heap.size wr w10 := hb9.trans (hb10.mono hb9.size)
      have b11 : Below w0.heap.size w0 w10 := b9.trans (hb10.mono b9.size)
      have hr11 := hr8.later hb10
      clear HOA hb10 hb9 b9 hr8
      go_wp2_with fail
      refine (HOD.out _ hb11).mono ?_
      rintro e w12 ⟨rfl, hb12⟩
      have hb13 : Below wr.heap.size wr w12 := hb11.trans (hb12.mono hb11.size)
      have b13 : Below w0.heap.size w0 w12 := b11.trans (hb12.mono b11.size)
      have hr13 := hr11.later hb12
      clear HOD hb12 hb11 b11 hr11
      go_wp2_with fail
      refine (HSA.out _ _ g8 hb13 hr13.1).mono ?_
      rintro e w14 ⟨rfl, hb14⟩
      have b15 : Below w0.heap.size w0 w14 := b13.trans (hb14.mono b13.size)
      clear HSA hb14 hb13 b13 hr13
      go_wp2
      go_ret
      exact ⟨rfl, b15⟩

end Go.Proofs.Ytofdlkfihhjlgaa
