/-
  The law FnDigestTurned, walked.
-/
import Derived.Test.YtifkpeockdpaiaaDoorCut
import Derived.Test.YtifkpeockdpaiaaDoorTrn
namespace Go.Proofs.YtifkpeockdpaiaaDoor
open Go.RowKit
set_option linter.unusedVariables false

def xB : ByteArray := ⟨#[120]⟩
theorem hexB_size (t : ByteArray) : (hexB (digB t)).size = 64 := by
  have h1 : (hexB (digB t)).data.toList.length = (hexB (digB t)).size := Array.length_toList
  have h2 := hexK_len (digB t) (digB t).size (Nat.le_refl _)
  rw [digB_size] at h2
  rw [← h1]
  unfold hexB
  rw [digB_size]
  simpa using h2
theorem bytes_ne {a b : ByteArray} (h : ¬ a = b) : (a.toList == b.toList) = false := by
  simp only [beq_eq_false_iff_ne]
  intro he
  apply h
  apply ByteArray.ext
  apply Array.toList_inj.1
  simpa [ByteArray.toList_eq] using he
theorem padB_ne (t u : ByteArray) (hs : u.size = t.size) (hne : t ≠ u) : padB t ≠ padB u := by
  intro h
  apply hne
  have h1 : padL t.data.toList = padL u.data.toList := by
    have := congrArg (fun b : ByteArray => b.data.toList) h
    simpa [padB] using this
  have ht : t.data.toList.length = t.size := Array.length_toList
  have hu : u.data.toList.length = u.size := Array.length_toList
  have h2 := congrArg (List.take t.size) h1
  unfold padL at h2
  simp only [List.append_assoc] at h2
  rw [List.take_left' ht, List.take_left' (by omega)] at h2
  exact ByteArray.ext (Array.toList_inj.1 h2)

set_option maxRecDepth 100000 in
set_option maxHeartbeats 1000000 in
theorem turnedLaw_any (ao : Option Addr) (len cap : Nat) (w : World) (hc : Code w.heap.size w (.slice ao len cap)) (hK : TabK w) (hF : TabF w) :
    Calls Tryd.prog 4 #[.slice ao len cap] w fun e w' => e = .returned (.bool true) ∧ Below w.heap.size w w' := by
  have hlen : len ≤ 1048576 := by obtain ⟨_, _, _, _, _, he, hl, _⟩ := hc; cases he; exact hl
  have HC : Hid (Code w.heap.size w (.slice ao len cap)) := hc
  have HT : Hid (∀ w', Below w.heap.size w w' → TabK w' ∧ TabF w') := fun w' hb => ⟨hK.later hb hK.pos, hF.later hb hF.pos⟩
  clear hc hK hF
  go_enter Tryd.func4, Tryd.ntmps4
  go_wp2_with fail
  refine (big_no ao len cap _ hlen).mono ?_
  rintro e w1 ⟨rfl, rfl⟩
  go_wp2_with fail
  refine (DrawTextOf_any _ _ HC.out).mono ?_
  rintro e w2 ⟨l, hl, rfl, hb2⟩
  obtain ⟨s, hs⟩ : ∃ s : ByteArray, s = ⟨l.toArray⟩ := ⟨_, rfl⟩
  have hsz : s.size ≤ 200 := by subst hs; exact hl
  rw [← hs]
  have HC2 : Hid (Code w2.heap.size w2 (.slice ao len cap)) := code_later HC.out hb2
  obtain ⟨t, ht⟩ : ∃ t : ByteArray, s ++ ⟨#[120]⟩ = t := ⟨_, rfl⟩
  have htz : t.size = s.size + 1 := by rw [← ht, ByteArray.size_append]; rfl
  clear hs hl
  go_wp2_with fail
  refine (DrawPlaces_any _ _ HC2.out).mono ?_
  rintro e w3 ⟨u, rfl, hpl, hb3⟩
  obtain ⟨g, pc, xs, rfl, hxl, hxs, hg1, hg2, hcells⟩ := hpl
  have x0 := hcells 0 (by omega)
  have x1 := hcells 1 (by omega)
  have x2 := hcells 2 (by omega)
  have y0 : xs[0] < 10000 := hxs _ (List.getElem_mem _)
  have y1 : xs[1] < 10000 := hxs _ (List.getElem_mem _)
  have y2 : xs[2] < 10000 := hxs _ (List.getElem_mem _)
  generalize xs[0] = p0 at *
  generalize xs[1] = p1 at *
  generalize xs[2] = p2 at *
  clear hcells hxs ht
  go_wp2_with fail
  refine (turned_any t g pc p0 p1 _ (by omega) (by omega) y0 y1 hg2 x0 x1).mono ?_
  rintro e w4 ⟨u, huz, hne, rfl, hb4⟩
  have k2 : w4.cell? ⟨g, 2, none⟩ = some (.int .i64 (p2 : Int)) := (hb4.cell (p := ⟨g, 2, none⟩) hg2).trans x2
  have HP := bytes_ne (padB_ne t u huz hne)
  have b3 := hb2.trans (hb3.mono hb2.size)
  have b4 := b3.trans (hb4.mono b3.size)
  clear x0 x1 x2 hne hb2 hb3 hb4 b3 hg1
  have hDT : ∀ w', Below w1.heap.size w1 w' → Calls Tryd.prog 13 #[.string t] w' fun e w'' => e = .returned (.string (digB t)) ∧ Below w1.heap.size w1 w'' := fun w' hb =>
    (Digest_any t w' (by omega) (HT.out w' hb).1 (HT.out w' hb).2).mono fun e w'' ⟨he, h2⟩ => ⟨he, hb.trans (h2.mono hb.size)⟩
  have hDU : ∀ w', Below w1.heap.size w1 w' → Calls Tryd.prog 13 #[.string u] w' fun e w'' => e = .returned (.string (digB u)) ∧ Below w1.heap.size w1 w'' := fun w' hb =>
    (Digest_any u w' (by omega) (HT.out w' hb).1 (HT.out w' hb).2).mono fun e w'' ⟨he, h2⟩ => ⟨he, hb.trans (h2.mono hb.size)⟩
  have hST : ∀ w', Below w1.heap.size w1 w' → Calls Tryd.prog 14 #[.string t] w' fun e w'' => e = .returned (.string (digB t)) ∧ Below w1.heap.size w1 w'' := fun w' hb =>
    (sDigest_any t w' (by omega)).mono fun e w'' ⟨he, h2⟩ => ⟨he, hb.trans (h2.mono hb.size)⟩
  have hSU : ∀ w', Below w1.heap.size w1 w' → Calls Tryd.prog 14 #[.string u] w' fun e w'' => e = .returned (.string (digB u)) ∧ Below w1.heap.size w1 w'' := fun w' hb =>
    (sDigest_any u w' (by omega)).mono fun e w'' ⟨he, h2⟩ => ⟨he, hb.trans (h2.mono hb.size)⟩
  have hCT : ∀ k : Nat, 1 ≤ k → k ≤ 32 → ∀ w', Below w1.heap.size w1 w' → Calls Tryd.prog 8 #[.string t, .int .i64 (k : Int)] w' fun e w'' => e = .returned (.string (cutB (digB t) k)) ∧ Below w1.heap.size w1 w'' := fun k h1 h2 w' hb =>
    (CutDigest_yes t k w' (by omega) h1 h2 (HT.out w' hb).1 (HT.out w' hb).2).mono fun e w'' ⟨he, h2⟩ => ⟨he, hb.trans (h2.mono hb.size)⟩
  have hC0 : ∀ x : Int, (x < 1 ∨ 32 < x) → ∀ w', Below w1.heap.size w1 w' → Calls Tryd.prog 8 #[.string t, .int .i64 x] w' fun e w'' => e = .returned (.string ⟨#[]⟩) ∧ Below w1.heap.size w1 w'' := fun x hx w' hb =>
    (CutDigest_no t x w' hx).mono fun e w'' ⟨he, h2⟩ => ⟨he, hb.trans (h2.mono hb.size)⟩
  have hHU : ∀ w', Below w1.heap.size w1 w' → Calls Tryd.prog 15 #[.string u] w' fun e w'' => e = .returned (.string (hexB (digB u))) ∧ Below w1.heap.size w1 w'' := fun w' hb =>
    (DigestHex_any u w' (by omega) (HT.out w' hb).1 (HT.out w' hb).2).mono fun e w'' ⟨he, h2⟩ => ⟨he, hb.trans (h2.mono hb.size)⟩
  have hPT : ∀ w', Below w1.heap.size w1 w' → Calls Tryd.prog 16 #[.string t] w' fun e w'' => e = .returned (.string (padB t)) ∧ Below w1.heap.size w1 w'' := fun w' hb =>
    (PadText_any t w' (by omega)).mono fun e w'' ⟨he, h2⟩ => ⟨he, hb.trans (h2.mono hb.size)⟩
  have hPU : ∀ w', Below w1.heap.size w1 w' → Calls Tryd.prog 16 #[.string u] w' fun e w'' => e = .returned (.string (padB u)) ∧ Below w1.heap.size w1 w'' := fun w' hb =>
    (PadText_any u w' (by omega)).mono fun e w'' ⟨he, h2⟩ => ⟨he, hb.trans (h2.mono hb.size)⟩
  have hdz := digB_size t
  have hhz := hexB_size u
  obtain ⟨k, hk⟩ : ∃ k : Nat, 1 + p2 % 32 = k := ⟨_, rfl⟩
  have hkI : 1 + (p2 : Int) % 32 = (k : Int) := by omega
  have hk1 : 1 ≤ k := by omega
  have hk2 : k ≤ 32 := by omega
  have hhd := run_head (digB t) k (by omega)
  have HCUT : Hid (∀ w', Below w1.heap.size w1 w' → Calls Tryd.prog 8 #[.string t, .int .i64 (k : Int)] w' fun e w'' => e = .returned (.string (cutB (digB t) k)) ∧ Below w1.heap.size w1 w'') := hCT k hk1 hk2
  clear hCT HT HC2 HC hk
  generalize digB t = D at *
  generalize hexB (digB u) = HXU at *
  generalize digB u = E at *
  generalize cutB D k = C at *
  generalize padB t = PT at *
  generalize padB u = PU at *
  go_wp2_with fail
  refine (hDT _ b4).mono ?_
  rintro e w5 ⟨rfl, b5⟩
  go_wp2_with fail
  refine (hST _ b5).mono ?_
  rintro e w6 ⟨rfl, b6⟩
  go_wp2_with fail
  refine (hDU _ b6).mono ?_
  rintro e w7 ⟨rfl, b7⟩
  go_wp2_with fail
  refine (hSU _ b7).mono ?_
  rintro e w8 ⟨rfl, b8⟩
  go_wp2_with fail
  refine (HCUT.out _ b8).mono ?_
  rintro e w9 ⟨rfl, b9⟩
  go_wp2_with fail
  refine (hDT _ b9).mono ?_
  rintro e w10 ⟨rfl, b10⟩
  go_wp2_with fail
  refine (hC0 0 (by omega) _ b10).mono ?_
  rintro e w11 ⟨rfl, b11⟩
  go_wp2_with fail
  refine (hC0 33 (by omega) _ b11).mono ?_
  rintro e w12 ⟨rfl, b12⟩
  go_wp2_with fail
  refine (hHU _ b12).mono ?_
  rintro e w13 ⟨rfl, b13⟩
  go_wp2_with fail
  refine (hPT _ b13).mono ?_
  rintro e w14 ⟨rfl, b14⟩
  go_wp2_with fail
  refine (hPU _ b14).mono ?_
  rintro e w15 ⟨rfl, b15⟩
  go_wp2
  go_ret
  exact ⟨rfl, b15⟩
end Go.Proofs.YtifkpeockdpaiaaDoor
