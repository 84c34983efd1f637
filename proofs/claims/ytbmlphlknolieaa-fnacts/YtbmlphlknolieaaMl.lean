/-
  The disk that files behind pointers in a map make: their names sorted, each file copied behind the others.
-/
import Derived.Test.YtbmlphlknolieaaMd
import Derived.Test.YtbmlphlknolieaaItr
namespace Go.Proofs.Ytbmlphlknolieaa
open Go.RowKit Go.BigFrame Go.Sort Go.Maps Go.Shelf
set_option linter.unusedVariables false
set_option linter.unusedSimpArgs false

theorem keys_any (b : Nat) (W : World) : Calls Try.prog 89 #[.map (some b)] W fun e w' => e = .returned (.func (.func 97) #[] #[.pointer (some ⟨W.heap.size, 0, none⟩)]) ∧ w' = W.alloc (.cells #[.map (some b)] 84) :=
  (callsIn_wide (n := 5)).1 (AnyZ.keys_in Try.keys89 Fence.wide 5 trivial rfl (some b) W)
theorem sorts_in (m : Nat) : AnyZ.SortsIn Try.prog Try.sorted88_ren Fence.wide m :=
  ⟨fun blk off cap ss W hH hblk hsz => callsIn_wide.2 (AnyM.slices_Sort_string Try.sort96 blk off cap ss W hH hblk hsz),
   fun p cap W => callsIn_wide.2 (AnyM.slices_Sort_string_none Try.sort96 p cap W)⟩
set_option maxHeartbeats 1000000 in
theorem sorted_any (b nn : Nat) (D0 : DataW Unit) (w : World) (hown : w.ownsMap Try.prog 9 ptrR b nn D0) (hmax : Maps.size D0 ≤ 100000) :
    Calls Try.prog 88 #[.func (.func 97) #[] #[.pointer (some ⟨w.heap.size, 0, none⟩)]] (w.alloc (.cells #[.map (some b)] 84)) fun e w' => ∃ (v : Value) (ss : List (List UInt8)), e = .returned v ∧ ss.Perm (strKeys D0) ∧
      w'.ownsRow (w.alloc (.cells #[.map (some b)] 84)).heap.size 9 1 v ss.length ((ss.mergeSort (fun x y => decide (x ≤ y))).map encStr) ∧ (v = .slice none 0 0 ↔ ss = []) ∧ Below (w.alloc (.cells #[.map (some b)] 84)).heap.size (w.alloc (.cells #[.map (some b)] 84)) w' := by
  have hbl := hown.lt
  have hseq : SeqGives Fence.wide 2 Try.prog 97 #[.pointer (some ⟨w.heap.size, 0, none⟩)] encStr (fun ss => ss.Perm (strKeys D0)) (Maps.size D0) (w.alloc (.cells #[.map (some b)] 84)) :=
    AnyZ.keys_gives (ρ := Try.keys89_ren) { Try.keys89 with } Fence.wide _ trivial rfl (by omega) w.heap.size b nn D0 _ (by simp) (by simp) (by
      obtain ⟨es, clock, hb, Ft, hs, hD⟩ := hown
      exact ⟨es, clock, (Below.heap_alloc _ _ b hbl).trans hb, Ft, hs, hD⟩)
  exact (callsIn_wide (n := 5)).1 (AnyZ.sorted_in Try.sorted88 Fence.wide 5 trivial trivial trivial trivial rfl (by omega) (sorts_in _) (enters_of Try.func96 (by kernel_rfl) rfl) 97 #[.pointer (some ⟨w.heap.size, 0, none⟩)] trivial (enters_of Try.func97 (by kernel_rfl) rfl) _ _ (by unfold maxLen; omega) (by omega) _ hseq)

/-- .. of a map of files: their names, in the list's own order -/
theorem sorted_names {B : Nat} {w0 w : World} {b : Nat} {L : List Fl} {p : ByteArray → Nat} (h : FM B w0 w b L p) (hL : F.DOk L) :
    Calls Try.prog 88 #[.func (.func 97) #[] #[.pointer (some ⟨w.heap.size, 0, none⟩)]] (w.alloc (.cells #[.map (some b)] 84)) fun e w' => ∃ v g, e = .returned v ∧ SS w' v g 0 (L.map (·.n)) ∧ (0 < L.length → ∃ cur, w'.heap[g]? = some (.cells cur 9 (0, 0)) ∧ w.heap.size ≤ g) ∧ Below w.heap.size w w' := by
  obtain ⟨D, ho, hp, hs⟩ := h.keys hL.2.2
  refine (sorted_any b _ D w ho (by rw [hs]; have := hL.1; omega)).mono ?_
  rintro e w' ⟨v, ss, rfl, hperm, hrow, hnil, hb⟩
  have hw : Below w.heap.size w (w.alloc (.cells #[.map (some b)] 84)) := (Below.refl _ _).alloc (Nat.le_refl _) _
  have hsz : (w.alloc (.cells #[.map (some b)] 84)).heap.size = w.heap.size + 1 := by simp
  have hsort : ss.mergeSort leB = L.map fun f => f.n.data.toList := by
    rw [mergeSort_of_perm (hperm.trans hp.symm)]
    refine List.mergeSort_of_pairwise ?_
    refine List.pairwise_map.2 (hL.2.2.imp fun {f g} hfg => ?_)
    have h1 := hfg
    rw [F.ltN_eq, decide_eq_true_eq, F.toList_data, F.toList_data] at h1
    simp only [leB, decide_eq_true_eq]
    exact List.le_of_lt h1
  have hlen : ss.length = L.length := by rw [(hperm.trans hp.symm).length_eq]; simp
  have e1 : (ss.mergeSort (fun x y => decide (x ≤ y))).map encStr = svs (L.map (·.n)) := by
    show (ss.mergeSort leB).map encStr = _
    rw [hsort]
    simp [svs, encStr, Function.comp_def]
  rw [e1, hlen] at hrow
  have h30 := hL.1
  rcases hrow.2 with ⟨hv, hn⟩ | ⟨g, cap, cur, hv, hbg, hg, rest⟩
  · have : L = [] := List.length_eq_zero_iff.1 hn
    subst this
    exact ⟨v, 0, rfl, ⟨none, 0, hv, by simp, fun h => absurd h (by simp), fun j hj => absurd hj (by simp)⟩, fun h => absurd h (by simp), hw.trans (hb.mono (by rw [hsz]; omega))⟩
  · refine ⟨v, g, rfl, ⟨some ⟨g, 0, none⟩, cap, by rw [hv]; simp, by simp; omega, fun _ => rfl, fun j hj => ?_⟩, fun _ => ⟨cur, hg, by rw [hsz] at hbg; omega⟩, hw.trans (hb.mono (by rw [hsz]; omega))⟩
    have h1 := hrow.cells (g := g) (by rw [hv]; rfl) j (.string ((L.map (·.n))[j])) (by simp [svs, List.getElem?_eq_getElem (show j < L.length by simpa using hj)])
    have e : (⟨g, 0, none⟩ : Addr).add j = ⟨g, j, none⟩ := by unfold Addr.add; split <;> simp_all
    rw [e] at h1
    rw [Nat.zero_add]
    exact h1

theorem OF.ne9 {B : Nat} {w0 w : World} {u : Value} {l : List Fl} {g : Nat} {cur : Array Value} (h : OF B w0 w u l) (hb : w.heap[g]? = some (.cells cur 9 (0, 0))) : u.ownBlock ≠ some g := by
  rcases h.1.2 with ⟨hv, _⟩ | ⟨k, cap, c2, hv, _, hg, _⟩
  · rw [hv]; simp [Value.ownBlock]
  · rw [hv]
    intro e
    have : k = g := by simpa [Value.ownBlock] using e
    subst this
    have e2 := hb.symm.trans hg
    simp at e2
theorem find_in {L : List Fl} (hL : F.DOk L) {m : Nat} (hm : m < L.length) : F.find L L[m].n = some L[m] := by
  refine F.find_at hm (fun j hj hlt => ?_) rfl
  exact F.ltN_ne (F.DOk.srt_at hL.2.2 j m hj hm hlt)

def DiR (w w4 : World) (gN : Nat) (L : List Fl) (x i : Value) (wr : World) : Prop := ∃ m : Nat, m ≤ L.length ∧ i = .int .i64 m ∧ Hid (OF w.heap.size w wr x (L.take m) ∧ BD wr w.heap.size 26 (.slice none 0 0) ∧ (0 < L.length → wr.heap[gN]? = w4.heap[gN]?))

set_option maxRecDepth 100000 in
set_option maxHeartbeats 1000000 in
theorem disk_any (B : Nat) (w0 w : World) (b : Nat) (L : List Fl) (p : ByteArray → Nat) (hS : OpS B w0 w b L p) (hL : F.DOk L) :
    Calls Try.prog 63 #[.map (some b)] w fun e w' => ∃ u, e = .returned u ∧ DkIn w' w.heap.size u L ∧ Below w.heap.size w w' := by
  have hb0 : Below w.heap.size w (w.alloc (.cells #[.slice none 0 0] 26)) := (Below.refl _ _).alloc (Nat.le_refl _) _
  have hS0 := hS.later hb0
  have h30 := hL.1
  obtain ⟨n, hn⟩ : ∃ n, L.length = n := ⟨_, rfl⟩
  have hln := fun ty => hS0.1.len hL.2.2 ty
  obtain ⟨i0, hi, hz0, hz1, hz2⟩ := info_parts Try.infoFile
  obtain ⟨w2, hmk, hrow, hgr⟩ := run_make_own (P := Try.prog) (w.alloc (.cells #[.slice none 0 0] 26)) w.heap.size 24 36 i0 _ 3 Try.underlying24 hi hz0 hz1 .i64 .i64 n (by rw [hz2]; omega) (by unfold maxLen; omega) (by simp)
  have hb2 : Below (w.alloc (.cells #[.slice none 0 0] 26)).heap.size (w.alloc (.cells #[.slice none 0 0] 26)) w2 := ⟨hgr.os, hgr.tape, hgr.output, hgr.size, fun k hk => hgr.block k hk (by simp)⟩
  have hbw2 := hb0.trans (hb2.mono hb0.size)
  have HS2 : Hid (OpS B w0 w2 b L p ∧ OF w.heap.size w w2 (.slice (some ⟨(w.alloc (.cells #[.slice none 0 0] 26)).heap.size, 0, none⟩) 0 n) [] ∧ BD w2 w.heap.size 26 (.slice none 0 0)) := ⟨hS0.later hb2, ⟨hrow, hbw2, hbw2.size⟩, (BD.new w _ _).later hb2⟩
  have HS : Hid (OpS B w0 w b L p ∧ F.DOk L) := ⟨hS, hL⟩
  have hcn := sorted_names HS2.out.1.1 hL
  rw [hn] at hln
  have hsz0 : (w.alloc (.cells #[.slice none 0 0] 26)).heap.size = w.heap.size + 1 := by simp
  rw [hsz0] at hmk HS2
  clear hS hS0 hrow hgr hb2 hbw2 hb0 hi hz0 hz1 hz2 hsz0 hL
  go_enter Try.func63, Try.ntmps63
  go_wp2_with fail
  refine (keys_any b _).mono ?_
  rintro e w3 ⟨rfl, rfl⟩
  go_wp2_with fail
  refine hcn.mono ?_
  rintro e w4 ⟨v4, gN, rfl, hss, hgN, hb4⟩
  obtain ⟨aN, cN, rfl, _, hAN, hcN⟩ := hss
  have hlm : (L.map (·.n)).length = n := by simp [hn]
  rw [hlm] at hAN ⊢
  have HN : Hid ((0 < n → aN = some ⟨gN, 0, none⟩) ∧ (∀ j (h : j < L.length), w4.cell? ⟨gN, j, none⟩ = some (.string L[j].n)) ∧ (0 < n → ∃ cur, w4.heap[gN]? = some (.cells cur 9 (0, 0)))) := ⟨hAN, fun j hj => by
    have := hcN j (by simpa using hj)
    rw [Nat.zero_add] at this
    simpa using this, fun h => by obtain ⟨cur, h1, _⟩ := hgN (by omega); exact ⟨cur, h1⟩⟩
  have HST : Hid (DiR w w4 gN L (.slice (some ⟨w.heap.size + 1, 0, none⟩) 0 n) (.int .i64 0) w4) := ⟨0, by omega, rfl, HS2.out.2.1.later hb4, HS2.out.2.2.later hb4, fun _ => rfl⟩
  clear hcN hAN hgN hb4 HS2 hmk hln hlm hcn
  go_wp2
  go_loopw [3, 13] (fun x i wr => DiR w w4 gN L x i wr) (fun _ i _ => n - (intOf i).toNat)
  case atStart => exact HST.out
  case round =>
    obtain ⟨m, hm, rfl, HI⟩ := hrel
    clear HST
    rw [hn] at hm
    by_cases hlt : m < n
    · have ea := HN.out.1 (by omega)
      subst ea
      have c0 : wr.cell? ⟨gN, m, none⟩ = some (.string (L[m]'(by omega)).n) := (cell_kept (HI.out.2.2 (by omega))).trans (HN.out.2.1 m (by omega))
      have hSr := HS.out.1.later HI.out.1.2.1
      obtain ⟨X, hX⟩ : ∃ X, L[m]'(by omega) = X := ⟨_, rfl⟩
      have hXL : X ∈ L := by rw [← hX]; exact List.getElem_mem _
      have hfl := F.flB_iff.1 (HS.out.2.2.1 X hXL)
      have hxs : X.n.size ≤ 8 := by have := hfl.1; unfold F.nmB at this; simp at this; omega
      have hlk := hSr.1.look X.n (by omega)
      have hfi := find_in HS.out.2 (show m < L.length by omega)
      rw [hX] at hfi c0
      rw [hfi] at hlk
      simp only at hlk
      have hbk := (hSr.2 X hXL).1
      have k0 : wr.cell? ⟨p X.n, 0, none⟩ = some (.string X.n) := by rw [cell_of_row _ _ 0 _ _ _ hbk]; rfl
      have k1 : wr.cell? ⟨p X.n, 1, none⟩ = some (.string X.t) := by rw [cell_of_row _ _ 1 _ _ _ hbk]; rfl
      have k2 : wr.cell? ⟨p X.n, 2, none⟩ = some (.int .i64 X.k) := by rw [cell_of_row _ _ 2 _ _ _ hbk]; rfl
      have hcl := copied_any X wr (by omega) (by omega)
      have hj : L.take (m + 1) = L.take m ++ [X] := by rw [List.take_succ_eq_append_getElem (by omega), hX]
      obtain ⟨l, hl'⟩ : ∃ l, L.take m = l := ⟨_, rfl⟩
      have hll : l.length ≤ 30 := by rw [← hl']; simp; omega
      rw [hl'] at hj HI
      have HJ : Hid (L.take (m + 1) = l ++ [X]) := hj
      have i1 : (m : Int) < (n : Int) := by omega
      have i2 : (0 : Int) ≤ (m : Int) := by omega
      clear hj hl' hSr hX hXL hfl hfi hbk
      generalize p X.n = g at *
      go_wp2_with fail
      refine hcl.mono ?_
      rintro e w5 ⟨rfl, hb5⟩
      have hA5 : Below w5.heap.size w5 (w5.alloc (.cells #[.string X.n, .string X.t, .int .i64 X.k] 36)) := (Below.refl _ _).alloc (Nat.le_refl _) _
      have hgk : 0 < L.length → w5.heap[gN]? = w4.heap[gN]? := fun h => (hb5.block gN (by
        obtain ⟨cur, h1⟩ := HN.out.2.2 (by omega)
        exact (Array.getElem?_eq_some_iff.1 ((HI.out.2.2 h).trans h1)).1)).trans (HI.out.2.2 h)
      have HA1 : Hid (OF w.heap.size w (w5.alloc (.cells #[.string X.n, .string X.t, .int .i64 X.k] 36)) u3 l ∧ BD (w5.alloc (.cells #[.string X.n, .string X.t, .int .i64 X.k] 36)) w.heap.size 26 (.slice none 0 0) ∧ (0 < L.length → (w5.alloc (.cells #[.string X.n, .string X.t, .int .i64 X.k] 36)).heap[gN]? = w4.heap[gN]?)) :=
        ⟨(HI.out.1.later hb5).later hA5, (HI.out.2.1.later hb5).later hA5, fun h => (Below.heap_alloc _ _ gN (by
          obtain ⟨cur, h1⟩ := HN.out.2.2 (by omega)
          exact (Array.getElem?_eq_some_iff.1 ((hgk h).trans h1)).1)).trans (hgk h)⟩
      have HRN : Hid ((w5.alloc (.cells #[.string X.n, .string X.t, .int .i64 X.k] 36)).rangeAt w5.heap.size 0 (fcs X)) := range_new w5 [.string X.n, .string X.t, .int .i64 X.k] 36
      clear HI hb5 hA5 hgk hcl k0 k1 k2 hlk c0
      go_wp2_with (refine wp_file rfl _ _ rfl _ _ u3 l X (by rfl) HA1.out.1 _ (by rfl) HRN.out (by omega) ?_; intro g8 cap8 w9 ho9 hg9)
      have HJ2 : Hid (OF w.heap.size w w9 (.slice (some ⟨g8, 0, none⟩) (l.length + 1) cap8) (L.take (m + 1)) ∧ BD w9 w.heap.size 26 (.slice none 0 0) ∧ (0 < L.length → w9.heap[gN]? = w4.heap[gN]?)) := by
        rw [HJ.out]
        refine ⟨ho9, HA1.out.2.1.grown hg9 (HA1.out.1.ne HA1.out.2.1).symm, fun h => ?_⟩
        obtain ⟨cur, h1⟩ := HN.out.2.2 (by omega)
        have h2 := (HA1.out.2.2 h).trans h1
        exact (hg9.block gN (Array.getElem?_eq_some_iff.1 h2).1 (HA1.out.1.ne9 h2).symm).trans (HA1.out.2.2 h)
      clear ho9 hg9 HA1 HRN HJ
      go_wp2
      go_roundw
      case rel => exact ⟨m + 1, by omega, by go_num, HJ2⟩
      case measure => simp [intOf]; omega
    · have hme : n = m := by omega
      have e1 : L.take m = L := List.take_of_length_le (by omega)
      rw [e1] at HI
      subst hme
      have t0 := HI.out.2.1.cell
      have g0 := HI.out.2.1.fr
      have HF : Hid ((wr.setCell ⟨w.heap.size, 0, none⟩ u3).rangeAt w.heap.size 0 [u3] ∧ DkIn (wr.setCell ⟨w.heap.size, 0, none⟩ u3) w.heap.size (.agg #[u3]) L ∧ Below w.heap.size w (wr.setCell ⟨w.heap.size, 0, none⟩ u3)) := by
        have hg := grown_set wr w.heap.size 0 u3
        exact ⟨range1 (set_here t0 g0 _), OF.dk (w0 := w) (OR.grown HI.out.1 hg (fun k hk => ⟨by cases hk; exact Nat.le_refl _, fun e => HI.out.1.ne HI.out.2.1 (e.trans hk.symm)⟩)) (by omega), HI.out.1.2.1.setCell (p := ⟨w.heap.size, 0, none⟩) (Nat.le_refl _) _⟩
      obtain ⟨au, cu, hu⟩ := HI.out.1.shape
      subst hu
      rw [hn] at HF
      clear HI HN HS
      go_wp2
      refine ret_rec 2 w.heap.size 26 [_] _ rfl rfl rfl Try.underlying26 rfl sizeDisk HF.out.1 ?_
      exact ⟨_, rfl, HF.out.2.1, HF.out.2.2⟩

end Go.Proofs.Ytbmlphlknolieaa
