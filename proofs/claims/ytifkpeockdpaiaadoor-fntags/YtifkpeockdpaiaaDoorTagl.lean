/-
  The walk of the law FnTags: it answers true of all that is drawn.
-/
import Derived.Test.YtifkpeockdpaiaaDoorDtag
import Derived.Test.YtifkpeockdpaiaaDoorHash
import Derived.Test.YtifkpeockdpaiaaDoorTrn
import Derived.Deep.RegionHeld3
namespace Go.Proofs.YtifkpeockdpaiaaDoor
open Go.RowKit Go.BigFrame
set_option linter.unusedVariables false

/-- texts that are written out -/
theorem ss_lit (w : World) (l : List ByteArray) (cs : Array Value) (n : Nat) (hn : l.length = n) (h0 : 0 < n) (hl : n ≤ 1100000) (hc : cs = (svs l).toArray) : SS (w.alloc (.cells cs 9)) (.slice (some ⟨w.heap.size, 0, none⟩) n n) w.heap.size 0 l := by
  subst hc
  subst hn
  refine ⟨_, _, rfl, hl, fun _ => rfl, fun j hj => ?_⟩
  rw [Nat.zero_add, World.cell?_alloc_at _ _ _ _ rfl]
  simp [svs, List.getElem?_eq_getElem hj]

/-- the answer of TagText at a right kind and short parts -/
theorem tag_right (k : Nat) (l : List ByteArray) (h1 : 1 ≤ k) (h8 : k ≤ 8) (hl : l.length ≤ 60) (hp : ∀ x ∈ l, x.size ≤ 200) : tagOk (k : Int) l = true ∧ tagB (k : Int) l = tagS k l := by
  have h := tagOk_yes (k : Int) l ⟨by omega, hl⟩ (fun m hm => hp _ (List.getElem_mem _))
  exact ⟨h, tagB_yes h⟩

theorem TagText_lit (x : Int) (k : Nat) (l : List ByteArray) (n : Nat) (cs : Array Value) (w : World) (hx : x = (k : Int)) (h1 : 1 ≤ k) (h8 : k ≤ 8) (hn : l.length = n) (h0 : 0 < n) (hl : n ≤ 60) (hp : ∀ x ∈ l, x.size ≤ 200) (hc : cs = (svs l).toArray) :
    Hid (Calls Tryd.prog 23 #[.int .i64 x, .slice (some ⟨w.heap.size, 0, none⟩) n n] (w.alloc (.cells cs 9)) fun e w' => e = .returned (.tuple #[.string (tagS k l), .bool true]) ∧ Below w.heap.size w w') := by
  subst hx
  obtain ⟨h2, h3⟩ := tag_right k l h1 h8 (by omega) hp
  have := TagText_any (k : Int) _ w.heap.size 0 l (w.alloc (.cells cs 9)) (ss_lit w l cs n hn h0 (by omega) hc)
  rw [h2, h3] at this
  exact this.mono fun e w' ⟨he, hb⟩ => ⟨he, ((Below.refl _ _).alloc (Nat.le_refl _) _).trans (hb.mono (by simp))⟩

theorem TagText_litd (x : Int) (k : Nat) (l : List ByteArray) (n : Nat) (cs : Array Value) (w : World) (hx : x = (k : Int)) (h1 : 1 ≤ k) (h8 : k ≤ 8) (hn : l.length = n) (h0 : 0 < n) (hl : n ≤ 60) (hp : ∀ x ∈ l, x.size ≤ 200) (hc : cs = (svs l).toArray) :
    Hid (Calls Tryd.prog 23 #[.int .i64 x, .slice (some ⟨w.heap.size, 0, none⟩) n n] (w.alloc (.cells cs 9)).drew fun e w' => e = .returned (.tuple #[.string (tagS k l), .bool true]) ∧ Below w.heap.size w w') := by
  have h := TagText_lit x k l n cs w.drew hx h1 h8 hn h0 hl hp hc
  exact h.out.mono fun e w' ⟨he, hb⟩ => ⟨he, (Below.refl _ _).drew.trans hb⟩

theorem wrap18 (p : Nat) : IntKind.i64.wrap (1 + (p : Int).tmod 8) = ((1 + p % 8 : Nat) : Int) := by
  have e : (p : Int).tmod 8 = ((p % 8 : Nat) : Int) := by
    rw [Int.tmod_eq_emod_of_nonneg (by omega)]
    simp
  rw [e, IntWalk.i64_in _ (by omega)]
  omega

theorem tagS_list (k : Nat) (l : List ByteArray) : (tagS k l).data.toList = tagL k l := by simp [tagS]
theorem tagS_ne {k k' : Nat} {l l' : List ByteArray} (h : tagL k l ≠ tagL k' l') : tagS k l ≠ tagS k' l' := by
  intro he
  apply h
  rw [← tagS_list, ← tagS_list, he]
def bB : ByteArray := ⟨#[98]⟩

/-- a kind turned -/
theorem ne_kind (k k' : Nat) (l l' : List ByteArray) (hk : k ≤ 8) (hk' : k' ≤ 8) (h : k ≠ k') : tagS k l ≠ tagS k' l' := by
  refine tagS_ne ?_
  intro he
  unfold tagL at he
  have h1 := (List.cons.inj he).1
  have h2 : (UInt8.ofNat k).toNat = (UInt8.ofNat k').toNat := by rw [h1]
  simp at h2
  omega
/-- one part more -/
theorem ne_more (k : Nat) (l : List ByteArray) (x : ByteArray) : tagS k l ≠ tagS k (l ++ [x]) := by
  refine tagS_ne ?_
  intro he
  have h1 : (tagL k l).length = (tagL k (l ++ [x])).length := by rw [he]
  have h2 : 0 < (M.varL x.size).length := by
    unfold M.varL M.varF
    split <;> simp
  simp [tagL, tagP, List.flatMap_append] at h1
  rw [h1.1] at h2
  simp at h2
/-- a part cut otherwise -/
theorem ne_cut (k : Nat) (a c : ByteArray) (r r' : List ByteArray) (ha : a.size ≤ 127) (hc : c.size ≤ 127) (h : a.size ≠ c.size) : tagS k (a :: r) ≠ tagS k (c :: r') := by
  refine tagS_ne ?_
  intro he
  have e1 : M.varL a.size = [UInt8.ofNat a.size] := M.varF_small _ _ ha
  have e2 : M.varL c.size = [UInt8.ofNat c.size] := M.varF_small _ _ hc
  simp only [tagL, tagP, List.flatMap_cons, e1, e2, List.cons_append] at he
  have h1 := (List.cons.inj (List.cons.inj he).2).1
  have h2 : (UInt8.ofNat a.size).toNat = (UInt8.ofNat c.size).toNat := by rw [h1]
  simp at h2
  omega
theorem bytes_no {a b : ByteArray} (h : ¬ a = b) : (a.toList == b.toList) = false := by
  simp only [beq_eq_false_iff_ne]
  intro he
  apply h
  apply ByteArray.ext
  apply Array.toList_inj.1
  simpa [ByteArray.toList_eq] using he

def tailB (d : ByteArray) (k : Nat) : ByteArray := d.extract k d.size
theorem run_tail (d : ByteArray) (k : Nat) (h : k ≤ d.size) (w : World) :
    (Instr.slice 9 (.string d) (some (.int .i64 (k : Int))) none none).run Tryd.prog w = .ok (.string (tailB d k)) w := by
  rw [run_slice_string_from_if (P := Tryd.prog) (w := w) 9 d .i64 _ Tryd.underlying9, if_pos (by omega)]
  unfold tailB
  simp

set_option maxRecDepth 100000 in
set_option maxHeartbeats 1000000 in
theorem tagsLaw_any (ao : Option Addr) (len cap : Nat) (w : World) (hc : Code w.heap.size w (.slice ao len cap)) (hK : TabK w) (hF : TabF w) :
    Calls Tryd.prog 6 #[.slice ao len cap] w fun e w' => e = .returned (.bool true) ∧ Below w.heap.size w w' := by
  have hl : len ≤ 1048576 := by
    obtain ⟨_, _, _, _, _, he, hl, _⟩ := hc
    simp at he
    omega
  have hkp := hK.pos
  have hfp := hF.pos
  have HT : Hid (∀ w', Below w.heap.size w w' → TabK w' ∧ TabF w') := fun w' hb => ⟨hK.later hb hkp, hF.later hb hfp⟩
  have HC : Hid (Code w.heap.size w (.slice ao len cap)) := hc
  clear hc hK hF hkp hfp
  go_enter Tryd.func6, Tryd.ntmps6
  go_wp2_with fail
  refine (big_no ao len cap _ hl).mono ?_
  rintro e w1 ⟨rfl, rfl⟩
  go_wp2_with fail
  refine (DrawTagText_any _ ao len cap hl HC.out).mono ?_
  rintro e w2 ⟨kd, u, gu, lu, rfl, hsu, hb2⟩
  have hsu2 := hsu
  obtain ⟨au, cu, rfl, hlu, _⟩ := hsu2
  have HSU : Hid (SS w2 (.slice au lu.length cu) gu 0 lu) := hsu
  have HI : Hid (Calls Tryd.prog 23 #[.int .i64 kd, .slice au lu.length cu] w2 fun e w' => e = .returned (.tuple #[.string (tagB kd lu), .bool (tagOk kd lu)]) ∧ Below w2.heap.size w2 w') := TagText_any kd _ gu 0 lu w2 hsu
  have HS : Hid (∀ W, Below w2.heap.size w2 W → Calls Tryd.prog 24 #[.int .i64 kd, .slice au lu.length cu] W fun e w' => e = .returned (.tuple #[.string (tagB kd lu), .bool (tagOk kd lu)]) ∧ Below W.heap.size W w') := fun W hW => sTagText_any kd _ gu 0 lu W (hsu.below hW hsu.lt)
  clear hsu HSU
  obtain ⟨nu, hnu⟩ : ∃ n, lu.length = n := ⟨_, rfl⟩
  rw [hnu] at HI HS hlu
  generalize tagB kd lu = T at *
  generalize tagOk kd lu = R at *
  rw [hnu]
  go_wp2_with fail
  refine HI.out.mono ?_
  rintro e w3 ⟨rfl, hb3⟩
  go_wp2_with fail
  refine (HS.out _ hb3).mono ?_
  rintro e w4 ⟨rfl, hb4⟩
  have b4 := hb2.trans ((hb3.trans (hb4.mono hb3.size)).mono hb2.size)
  have HC4 : Hid (Code w4.heap.size w4 (.slice ao len cap)) := code_later HC.out b4
  clear hb2 hb3 hb4 HI HS
  go_wp2_with fail
  refine (DrawPlaces_any _ _ HC4.out).mono ?_
  rintro e w5 ⟨up, rfl, hp5, hb5⟩
  have b5 := b4.trans (hb5.mono b4.size)
  have HC5 : Hid (Code w5.heap.size w5 (.slice ao len cap)) := code_later HC4.out hb5
  obtain ⟨gp, cp, xs, rfl, hxl, hxs, hgp, hgp5, hcp⟩ := hp5
  have c50 := hcp 0 (by omega)
  have c51 := hcp 1 (by omega)
  have hp0 := hxs _ (List.getElem_mem (show 0 < xs.length by omega))
  have hp1 := hxs _ (List.getElem_mem (show 1 < xs.length by omega))
  generalize xs[0]'(by omega) = p0 at *
  generalize xs[1]'(by omega) = p1 at *
  clear hxs hcp HC4 b4 hb5
  go_wp2_with fail
  refine (DrawTextOf_any _ _ HC5.out).mono ?_
  rintro e w6 ⟨la, hla, rfl, hb6⟩
  have b6 := b5.trans (hb6.mono b5.size)
  have c60 : w6.cell? ⟨gp, 0, none⟩ = some (.int .i64 (p0 : Int)) := (hb6.cell (p := ⟨gp, 0, none⟩) hgp5).trans c50
  have c61 : w6.cell? ⟨gp, 1, none⟩ = some (.int .i64 (p1 : Int)) := (hb6.cell (p := ⟨gp, 1, none⟩) hgp5).trans c51
  have hgp6 : gp < w6.heap.size := Nat.lt_of_lt_of_le hgp5 hb6.size
  obtain ⟨A, hA⟩ : ∃ A : ByteArray, (⟨la.toArray⟩ : ByteArray) = A := ⟨_, rfl⟩
  have hAz : A.size ≤ 200 := by
    rw [← hA]
    show la.toArray.size ≤ 200
    simpa using hla
  rw [hA]
  clear hA hb6 b5 c50 c51 HC5 hla
  by_cases h100 : 100 < A.size
  · have hz0 : (cutB A 100).size = 100 := by
      unfold cutB
      simp
      omega
    obtain ⟨A0, hA0⟩ : ∃ A0, cutB A 100 = A0 := ⟨_, rfl⟩
    rw [hA0] at hz0
    obtain ⟨K, hK⟩ : ∃ K : Nat, p0 % (A.size + 1) % 101 = K := ⟨_, rfl⟩
    have hKA : K ≤ A0.size := by omega
    have hKI : ((p0 : Int) % ((A.size : Int) + 1)).tmod 101 = (K : Int) := by
      have e : (p0 : Int) % ((A.size : Int) + 1) = ((p0 % (A.size + 1) : Nat) : Int) := by simp
      rw [e, Int.tmod_eq_emod_of_nonneg (by omega), ← hK]
      omega
    have hAz0 : A0.size ≤ 100 := by omega
    have hA0' : A.extract 0 100 = A0 := hA0
    clear hA0 hK
    go_wp2_with fail
    try rw [hKI]
    try rw [hA0']
    clear hKI hA0'
    have hz1 : (cutB A0 K).size = K := by
      unfold cutB
      simp
      omega
    have hz2 : (tailB A0 K).size + K = A0.size := by
      unfold tailB
      simp
      omega
    have hh1 := run_head A0 K (by omega)
    have hh2 := run_tail A0 K (by omega)
    obtain ⟨A1, hA1⟩ : ∃ A1, cutB A0 K = A1 := ⟨_, rfl⟩
    obtain ⟨A2, hA2⟩ : ∃ A2, tailB A0 K = A2 := ⟨_, rfl⟩
    rw [hA1] at hz1 hh1
    rw [hA2] at hz2 hh2
    clear hA1 hA2
    have hsz : ∀ x ∈ [A1, A2 ++ bB], x.size ≤ 200 := by
      intro x hx
      simp at hx
      rcases hx with rfl | rfl
      · omega
      · rw [ByteArray.size_append]
        have : bB.size = 1 := rfl
        omega
    have hbz : bB.size = 1 := rfl
    have hsa : ∀ x ∈ [A0, bB], x.size ≤ 200 := by
      intro x hx
      simp at hx
      rcases hx with rfl | rfl <;> omega
    have hsv : ∀ x ∈ [A0, bB, (⟨#[]⟩ : ByteArray)], x.size ≤ 200 := by
      intro x hx
      simp at hx
      rcases hx with rfl | rfl | rfl
      · omega
      · omega
      · show 0 ≤ 200
        omega
    have CX := TagText_lit (1 + (p1 : Int) % 8) (1 + p1 % 8) [A0, bB] 2 #[.string A0, .string ⟨#[98]⟩] w6 (by omega) (by omega) (by omega) rfl (by omega) (by omega) hsa rfl
    refine CX.out.mono ?_
    rintro e w7 ⟨rfl, hb7⟩
    have c71 : w7.cell? ⟨gp, 1, none⟩ = some (.int .i64 (p1 : Int)) := (hb7.cell (p := ⟨gp, 1, none⟩) hgp6).trans c61
    have hgp7 : gp < w7.heap.size := Nat.lt_of_lt_of_le hgp6 hb7.size
    have b7 := b6.trans (hb7.mono b6.size)
    clear CX hb7 b6 c60 c61 hgp6
    have q1 : ¬ (9223372036854775807 < A2.size + 1) := by omega
    go_wp2
    have i1 : (0 : Int) ≤ (K : Int) := by omega
    have i2 : (K : Int) ≤ (A0.size : Int) := by omega
    go_region_held3 (fun W => W.cell? ⟨gp, 1, none⟩ = some (.int .i64 (p1 : Int))) (first | go_keep | exact (hb8.cell (p := ⟨gp, 1, none⟩) hgp7).trans c71) ((go_at_call 23; refine (TagText_litd _ (1 + p1 % 8) [A1, A2 ++ bB] 2 #[.string A1, .string (A2 ++ ⟨#[98]⟩)] w7 ?_ (by omega) (by omega) rfl (by omega) (by omega) hsz rfl).out.mono ?_; (exact wrap18 p1); rintro e w8 ⟨rfl, hb8⟩))
    have c81 : w8.cell? ⟨gp, 1, none⟩ = some (.int .i64 (p1 : Int)) := (hb8.cell (p := ⟨gp, 1, none⟩) hgp7).trans c71
    have hgp8 : gp < w8.heap.size := Nat.lt_of_lt_of_le hgp7 hb8.size
    have b8 := b7.trans (hb8.mono b7.size)
    have CZ := TagText_lit (1 + ((p1 : Int) + 1) % 8) (1 + (p1 + 1) % 8) [A0, bB] 2 #[.string A0, .string ⟨#[98]⟩] w8 (by omega) (by omega) (by omega) rfl (by omega) (by omega) hsa rfl
    clear hb8 b7 c71 hgp7 hh1 hh2 hsz
    go_wp2_with fail
    refine CZ.out.mono ?_
    rintro e w9 ⟨rfl, hb9⟩
    have c91 : w9.cell? ⟨gp, 1, none⟩ = some (.int .i64 (p1 : Int)) := (hb9.cell (p := ⟨gp, 1, none⟩) hgp8).trans c81
    have b9 := b8.trans (hb9.mono b8.size)
    have CV := TagText_lit (1 + (p1 : Int) % 8) (1 + p1 % 8) [A0, bB, ⟨#[]⟩] 3 #[.string A0, .string ⟨#[98]⟩, .string ⟨#[]⟩] w9 (by omega) (by omega) (by omega) rfl (by omega) (by omega) hsv rfl
    clear hb9 b8 c81 hgp8 CZ
    go_wp2_with fail
    refine CV.out.mono ?_
    rintro e w10 ⟨rfl, hb10⟩
    have b10 := b9.trans (hb10.mono b9.size)
    have nXZ := bytes_no (ne_kind (1 + p1 % 8) (1 + (p1 + 1) % 8) [A0, bB] [A0, bB] (by omega) (by omega) (by omega))
    have nXV := bytes_no (ne_more (1 + p1 % 8) [A0, bB] ⟨#[]⟩)
    have HXY : Hid (tagS (1 + p1 % 8) [A0, bB] = tagS (1 + p1 % 8) [A1, A2 ++ bB] → K = A0.size) := fun he => by
      rcases Nat.lt_or_ge K A0.size with h | h
      · exact absurd he (ne_cut (1 + p1 % 8) A0 A1 [bB] [A2 ++ bB] (by omega) (by omega) (by omega))
      · omega
    have HHI : Hid (Calls Tryd.prog 20 #[.int .i64 3, .slice (some ⟨w10.heap.size, 0, none⟩) 1 1, .int .i64 16] (w10.alloc (.cells #[.string A0] 9)) fun e w' => e = .returned (.string (hashB 3 [A0] 16)) ∧ Below w10.heap.size w10 w') := by
      have hba : Below w10.heap.size w10 (w10.alloc (.cells #[.string A0] 9)) := (Below.refl _ _).alloc (Nat.le_refl _) _
      have ht := HT.out _ (b10.trans (hba.mono b10.size))
      exact (TagHash_any 3 _ 16 w10.heap.size 0 [A0] _ (ss_lit w10 [A0] _ 1 rfl (by omega) (by omega) rfl) ht.1 ht.2).mono fun e w' ⟨he, hb⟩ => ⟨he, hba.trans (hb.mono hba.size)⟩
    have HHS : Hid (∀ W : World, Calls Tryd.prog 18 #[.int .i64 3, .slice (some ⟨W.heap.size, 0, none⟩) 1 1, .int .i64 16] (W.alloc (.cells #[.string A0] 9)) fun e w' => e = .returned (.string (hashB 3 [A0] 16)) ∧ Below W.heap.size W w') := fun W => by
      have hba : Below W.heap.size W (W.alloc (.cells #[.string A0] 9)) := (Below.refl _ _).alloc (Nat.le_refl _) _
      exact (sTagHash_any 3 _ 16 W.heap.size 0 [A0] _ (ss_lit W [A0] _ 1 rfl (by omega) (by omega) rfl)).mono fun e w' ⟨he, hb⟩ => ⟨he, hba.trans (hb.mono hba.size)⟩
    simp only [List.cons_append, List.nil_append] at nXV
    generalize hashB 3 [A0] 16 = D at *
    generalize tagS (1 + p1 % 8) [A0, bB] = X at *
    generalize tagS (1 + p1 % 8) [A1, A2 ++ bB] = Y at *
    generalize tagS (1 + (p1 + 1) % 8) [A0, bB] = Z at *
    generalize tagS (1 + p1 % 8) [A0, bB, ⟨#[]⟩] = V at *
    clear hb10 b9 c91 CV hz1 hz2 hsa hsv
    by_cases hXY : X = Y
    · have hKe := HXY.out hXY
      subst hXY
      subst hKe
      clear HXY
      go_wp2_with fail
      refine HHI.out.mono ?_
      rintro e w11 ⟨rfl, hb11⟩
      go_wp2_with fail
      refine (HHS.out _).mono ?_
      rintro e w12 ⟨rfl, hb12⟩
      have b12 := b10.trans ((hb11.trans (hb12.mono hb11.size)).mono b10.size)
      go_wp2
      go_ret
      exact ⟨rfl, b12⟩
    · have nXY := bytes_no hXY
      clear HXY
      go_wp2_with fail
      refine HHI.out.mono ?_
      rintro e w11 ⟨rfl, hb11⟩
      go_wp2_with fail
      refine (HHS.out _).mono ?_
      rintro e w12 ⟨rfl, hb12⟩
      have b12 := b10.trans ((hb11.trans (hb12.mono hb11.size)).mono b10.size)
      go_wp2
      go_ret
      exact ⟨rfl, b12⟩
  · obtain ⟨K, hK⟩ : ∃ K : Nat, p0 % (A.size + 1) = K := ⟨_, rfl⟩
    have hKA : K ≤ A.size := by
      have := Nat.mod_lt p0 (show 0 < A.size + 1 by omega)
      omega
    have hKI : (p0 : Int) % ((A.size : Int) + 1) = (K : Int) := by
      rw [← hK]
      simp
    clear hK
    go_wp2_with fail
    rw [hKI]
    clear hKI
    obtain ⟨A0, hA0⟩ : ∃ A0, A0 = A := ⟨_, rfl⟩
    subst hA0
    have hAz0 : A0.size ≤ 100 := by omega
    have hz1 : (cutB A0 K).size = K := by
      unfold cutB
      simp
      omega
    have hz2 : (tailB A0 K).size + K = A0.size := by
      unfold tailB
      simp
      omega
    have hh1 := run_head A0 K (by omega)
    have hh2 := run_tail A0 K (by omega)
    obtain ⟨A1, hA1⟩ : ∃ A1, cutB A0 K = A1 := ⟨_, rfl⟩
    obtain ⟨A2, hA2⟩ : ∃ A2, tailB A0 K = A2 := ⟨_, rfl⟩
    rw [hA1] at hz1 hh1
    rw [hA2] at hz2 hh2
    clear hA1 hA2
    have hsz : ∀ x ∈ [A1, A2 ++ bB], x.size ≤ 200 := by
      intro x hx
      simp at hx
      rcases hx with rfl | rfl
      · omega
      · rw [ByteArray.size_append]
        have : bB.size = 1 := rfl
        omega
    have hbz : bB.size = 1 := rfl
    have hsa : ∀ x ∈ [A0, bB], x.size ≤ 200 := by
      intro x hx
      simp at hx
      rcases hx with rfl | rfl <;> omega
    have hsv : ∀ x ∈ [A0, bB, (⟨#[]⟩ : ByteArray)], x.size ≤ 200 := by
      intro x hx
      simp at hx
      rcases hx with rfl | rfl | rfl
      · omega
      · omega
      · show 0 ≤ 200
        omega
    have CX := TagText_lit (1 + (p1 : Int) % 8) (1 + p1 % 8) [A0, bB] 2 #[.string A0, .string ⟨#[98]⟩] w6 (by omega) (by omega) (by omega) rfl (by omega) (by omega) hsa rfl
    refine CX.out.mono ?_
    rintro e w7 ⟨rfl, hb7⟩
    have c71 : w7.cell? ⟨gp, 1, none⟩ = some (.int .i64 (p1 : Int)) := (hb7.cell (p := ⟨gp, 1, none⟩) hgp6).trans c61
    have hgp7 : gp < w7.heap.size := Nat.lt_of_lt_of_le hgp6 hb7.size
    have b7 := b6.trans (hb7.mono b6.size)
    clear CX hb7 b6 c60 c61 hgp6
    have q1 : ¬ (9223372036854775807 < A2.size + 1) := by omega
    go_wp2
    have i1 : (0 : Int) ≤ (K : Int) := by omega
    have i2 : (K : Int) ≤ (A0.size : Int) := by omega
    go_region_held3 (fun W => W.cell? ⟨gp, 1, none⟩ = some (.int .i64 (p1 : Int))) (first | go_keep | exact (hb8.cell (p := ⟨gp, 1, none⟩) hgp7).trans c71) ((go_at_call 23; refine (TagText_litd _ (1 + p1 % 8) [A1, A2 ++ bB] 2 #[.string A1, .string (A2 ++ ⟨#[98]⟩)] w7 ?_ (by omega) (by omega) rfl (by omega) (by omega) hsz rfl).out.mono ?_; (exact wrap18 p1); rintro e w8 ⟨rfl, hb8⟩))
    have c81 : w8.cell? ⟨gp, 1, none⟩ = some (.int .i64 (p1 : Int)) := (hb8.cell (p := ⟨gp, 1, none⟩) hgp7).trans c71
    have hgp8 : gp < w8.heap.size := Nat.lt_of_lt_of_le hgp7 hb8.size
    have b8 := b7.trans (hb8.mono b7.size)
    have CZ := TagText_lit (1 + ((p1 : Int) + 1) % 8) (1 + (p1 + 1) % 8) [A0, bB] 2 #[.string A0, .string ⟨#[98]⟩] w8 (by omega) (by omega) (by omega) rfl (by omega) (by omega) hsa rfl
    clear hb8 b7 c71 hgp7 hh1 hh2 hsz
    go_wp2_with fail
    refine CZ.out.mono ?_
    rintro e w9 ⟨rfl, hb9⟩
    have c91 : w9.cell? ⟨gp, 1, none⟩ = some (.int .i64 (p1 : Int)) := (hb9.cell (p := ⟨gp, 1, none⟩) hgp8).trans c81
    have b9 := b8.trans (hb9.mono b8.size)
    have CV := TagText_lit (1 + (p1 : Int) % 8) (1 + p1 % 8) [A0, bB, ⟨#[]⟩] 3 #[.string A0, .string ⟨#[98]⟩, .string ⟨#[]⟩] w9 (by omega) (by omega) (by omega) rfl (by omega) (by omega) hsv rfl
    clear hb9 b8 c81 hgp8 CZ
    go_wp2_with fail
    refine CV.out.mono ?_
    rintro e w10 ⟨rfl, hb10⟩
    have b10 := b9.trans (hb10.mono b9.size)
    have nXZ := bytes_no (ne_kind (1 + p1 % 8) (1 + (p1 + 1) % 8) [A0, bB] [A0, bB] (by omega) (by omega) (by omega))
    have nXV := bytes_no (ne_more (1 + p1 % 8) [A0, bB] ⟨#[]⟩)
    have HXY : Hid (tagS (1 + p1 % 8) [A0, bB] = tagS (1 + p1 % 8) [A1, A2 ++ bB] → K = A0.size) := fun he => by
      rcases Nat.lt_or_ge K A0.size with h | h
      · exact absurd he (ne_cut (1 + p1 % 8) A0 A1 [bB] [A2 ++ bB] (by omega) (by omega) (by omega))
      · omega
    have HHI : Hid (Calls Tryd.prog 20 #[.int .i64 3, .slice (some ⟨w10.heap.size, 0, none⟩) 1 1, .int .i64 16] (w10.alloc (.cells #[.string A0] 9)) fun e w' => e = .returned (.string (hashB 3 [A0] 16)) ∧ Below w10.heap.size w10 w') := by
      have hba : Below w10.heap.size w10 (w10.alloc (.cells #[.string A0] 9)) := (Below.refl _ _).alloc (Nat.le_refl _) _
      have ht := HT.out _ (b10.trans (hba.mono b10.size))
      exact (TagHash_any 3 _ 16 w10.heap.size 0 [A0] _ (ss_lit w10 [A0] _ 1 rfl (by omega) (by omega) rfl) ht.1 ht.2).mono fun e w' ⟨he, hb⟩ => ⟨he, hba.trans (hb.mono hba.size)⟩
    have HHS : Hid (∀ W : World, Calls Tryd.prog 18 #[.int .i64 3, .slice (some ⟨W.heap.size, 0, none⟩) 1 1, .int .i64 16] (W.alloc (.cells #[.string A0] 9)) fun e w' => e = .returned (.string (hashB 3 [A0] 16)) ∧ Below W.heap.size W w') := fun W => by
      have hba : Below W.heap.size W (W.alloc (.cells #[.string A0] 9)) := (Below.refl _ _).alloc (Nat.le_refl _) _
      exact (sTagHash_any 3 _ 16 W.heap.size 0 [A0] _ (ss_lit W [A0] _ 1 rfl (by omega) (by omega) rfl)).mono fun e w' ⟨he, hb⟩ => ⟨he, hba.trans (hb.mono hba.size)⟩
    simp only [List.cons_append, List.nil_append] at nXV
    generalize hashB 3 [A0] 16 = D at *
    generalize tagS (1 + p1 % 8) [A0, bB] = X at *
    generalize tagS (1 + p1 % 8) [A1, A2 ++ bB] = Y at *
    generalize tagS (1 + (p1 + 1) % 8) [A0, bB] = Z at *
    generalize tagS (1 + p1 % 8) [A0, bB, ⟨#[]⟩] = V at *
    clear hb10 b9 c91 CV hz1 hz2 hsa hsv
    by_cases hXY : X = Y
    · have hKe := HXY.out hXY
      subst hXY
      subst hKe
      clear HXY
      go_wp2_with fail
      refine HHI.out.mono ?_
      rintro e w11 ⟨rfl, hb11⟩
      go_wp2_with fail
      refine (HHS.out _).mono ?_
      rintro e w12 ⟨rfl, hb12⟩
      have b12 := b10.trans ((hb11.trans (hb12.mono hb11.size)).mono b10.size)
      go_wp2
      go_ret
      exact ⟨rfl, b12⟩
    · have nXY := bytes_no hXY
      clear HXY
      go_wp2_with fail
      refine HHI.out.mono ?_
      rintro e w11 ⟨rfl, hb11⟩
      go_wp2_with fail
      refine (HHS.out _).mono ?_
      rintro e w12 ⟨rfl, hb12⟩
      have b12 := b10.trans ((hb11.trans (hb12.mono hb11.size)).mono b10.size)
      go_wp2
      go_ret
      exact ⟨rfl, b12⟩

end Go.Proofs.YtifkpeockdpaiaaDoor
