/-
  The walk of the law FnNodes: it answers true of every code.
-/
import Derived.Test.YtmhoilliaeefcaaDoorPkF
import Derived.Test.YtmhoilliaeefcaaDoorPkH
namespace Go.Proofs.YtmhoilliaeefcaaDoor
open Go.RowKit Go.BigFrame Go.Sort
set_option linter.unusedVariables false
set_option linter.unusedSimpArgs false

theorem nh_at {L : List Le} {x : Int} (h : 1 ≤ x ∧ x ≤ 32) (hL : LV.LOk L) (l p : Nat) (hl : l ≤ 8) (hp : p < 2 ^ l) : nhB L (l : Int) (p : Int) x = trB x (8 - l) p L := by
  unfold nhB
  have e2 : ((2 ^ l : Nat) : Int) = (2 : Int) ^ l := by simp
  have h2 : (p : Int) < (2 : Int) ^ ((l : Int).toNat) := by
    rw [Int.toNat_natCast, ← e2]
    exact Int.ofNat_lt.2 hp
  rw [if_pos ⟨LV.leavesB_iff.2 hL, by omega, ⟨by omega, h2⟩, h⟩]
  rfl
theorem eh_at {x : Int} (h : 1 ≤ x ∧ x ≤ 32) (l : Nat) (hl : l ≤ 8) : ehB (l : Int) x = empB x (8 - l) := by
  unfold ehB
  rw [if_pos ⟨by omega, h⟩]
  rfl
theorem ok_none : LV.LOk [] := LV.leavesB_iff.1 leaves_none
theorem tr_none' (x : Int) (k p : Nat) : trB x k p [] = empB x k := tr_emp rfl

set_option maxRecDepth 100000 in
set_option maxHeartbeats 4000000 in
theorem nodesLaw_any (a0 : Option Addr) (len0 cap0 : Nat) (w : World) (hl0 : len0 ≤ 1048576) (hc : Code w.heap.size w (.slice a0 len0 cap0)) (hK : TabK w) (hF : TabF w) :
    Calls Tryd.prog 4 #[.slice a0 len0 cap0] w fun e w' => e = .returned (.bool true) ∧ Below w.heap.size w w' := by
  have HC : Hid (∀ W, Below w.heap.size w W → Code W.heap.size W (.slice a0 len0 cap0)) := fun W hW => code_laterR hc hW
  have HT : Hid (∀ W, Below w.heap.size w W → Tb W) := fun W hW => Tb.later ⟨hK, hF⟩ hW
  clear hc hK hF
  go_enter Tryd.func4, Tryd.ntmps4
  go_wp2_with fail
  refine (big_no a0 len0 cap0 _ hl0).mono ?_
  rintro e w0 ⟨rfl, rfl⟩
  go_wp2_with fail
  refine (DrawLeaves_any _ _ (HC.out _ (Below.refl _ _))).mono ?_
  rintro e w1 ⟨a1, c1, g1, L, rfl, ⟨hl8, hLk, _⟩, hr1, hg1, hb1⟩
  go_wp2_with fail
  refine (DrawPlaces_any _ _ (HC.out _ hb1)).mono ?_
  rintro e w3 ⟨pv, rfl, ⟨pg, pc, xs, rfl, hx12', hxs, hpg, hpl, hcells⟩, hb3⟩
  have b3 := hb1.trans (hb3.mono hb1.size)
  have z0 := hcells 0 (by omega)
  have hp0 := hxs (xs[0]'(by omega)) (List.getElem_mem _)
  have z1 := hcells 1 (by omega)
  have hp1 := hxs (xs[1]'(by omega)) (List.getElem_mem _)
  generalize xs[0]'(by omega) = p0 at *
  generalize xs[1]'(by omega) = p1 at *
  clear hcells hxs hx12'
  have em : (p0 : Int).tmod 8 = ((p0 % 8 : Nat) : Int) := by rw [Int.tmod_eq_emod_of_nonneg (by omega)]; omega
  have hm8 : p0 % 8 < 8 := Nat.mod_lt _ (by omega)
  obtain ⟨l, hl⟩ : ∃ l, p0 % 8 = l := ⟨_, rfl⟩
  rw [hl] at em hm8
  clear hl
  obtain ⟨P, hP⟩ : ∃ P, 2 ^ l = P := ⟨_, rfl⟩
  have hP1 : 1 ≤ P := by rw [← hP]; exact Nat.one_le_two_pow
  have hP2 : P ≤ 256 := by
    have h1 : 2 ^ l ≤ 2 ^ 8 := Nat.pow_le_pow_right (by omega) (by omega)
    omega
  have e2 : (2 : Int) ^ l = (P : Int) := by rw [← hP]; simp
  obtain ⟨r, hr⟩ : ∃ r, p1 % P = r := ⟨_, rfl⟩
  have hrP : r < P := by rw [← hr]; exact Nat.mod_lt _ hP1
  have m1 : (p1 : Int) % (P : Int) = (r : Int) := by rw [← hr]; simp
  have m2 : (p1 : Int).tmod (P : Int) = (r : Int) := by rw [Int.tmod_eq_emod_of_nonneg (by omega)]; exact m1
  have h16 : 1 ≤ (16 : Int) ∧ (16 : Int) ≤ 32 := by omega
  have hl7 : l ≤ 7 := by omega
  have HR3 : Hid (RS 2 lcs w3 (.slice a1 L.length c1) g1 0 L ∧ Below w0.heap.size w0 w3) := ⟨(hr1.later hb3).1, b3⟩
  have HNH : Hid (∀ W (k q : Nat), k ≤ 8 → q < 2 ^ k → Below w0.heap.size w0 W → RS 2 lcs W (.slice a1 L.length c1) g1 0 L → Calls Tryd.prog 23 #[.slice a1 L.length c1, .int .i64 (k : Int), .int .i64 (q : Int), .int .i64 16] W fun e w' => e = .returned (.string (trB 16 (8 - k) q L)) ∧ Below W.heap.size W w') := fun W k q hk hq hW hr => by
    have h := NodeHash_any _ g1 0 L (k : Int) (q : Int) 16 W hr (small_okR hLk) (HT.out _ hW)
    rw [nh_at h16 hLk k q hk hq] at h
    exact h
  have hpow : 2 ^ (l + 1) = 2 * P := by rw [Nat.pow_succ, hP, Nat.mul_comm]
  have H1 : Hid (∀ W, Below w0.heap.size w0 W → RS 2 lcs W (.slice a1 L.length c1) g1 0 L → Calls Tryd.prog 23 #[.slice a1 L.length c1, .int .i64 ((l : Int) + 1), .int .i64 (2 * (r : Int)), .int .i64 16] W fun e w' => e = .returned (.string (trB 16 (7 - l) (2 * r) L)) ∧ Below W.heap.size W w') := fun W hW hr => by
    have h := HNH.out W (l + 1) (2 * r) (by omega) (by omega) hW hr
    rw [show 8 - (l + 1) = 7 - l by omega] at h
    have e3 : ((l + 1 : Nat) : Int) = (l : Int) + 1 := by omega
    have e4 : ((2 * r : Nat) : Int) = 2 * (r : Int) := by omega
    rw [e3, e4] at h
    exact h
  have H2 : Hid (∀ W, Below w0.heap.size w0 W → RS 2 lcs W (.slice a1 L.length c1) g1 0 L → Calls Tryd.prog 23 #[.slice a1 L.length c1, .int .i64 ((l : Int) + 1), .int .i64 (2 * (r : Int) + 1), .int .i64 16] W fun e w' => e = .returned (.string (trB 16 (7 - l) (2 * r + 1) L)) ∧ Below W.heap.size W w') := fun W hW hr => by
    have h := HNH.out W (l + 1) (2 * r + 1) (by omega) (by omega) hW hr
    rw [show 8 - (l + 1) = 7 - l by omega] at h
    have e3 : ((l + 1 : Nat) : Int) = (l : Int) + 1 := by omega
    have e4 : ((2 * r + 1 : Nat) : Int) = 2 * (r : Int) + 1 := by omega
    rw [e3, e4] at h
    exact h
  have H3 : Hid (∀ W, Below w0.heap.size w0 W → RS 2 lcs W (.slice a1 L.length c1) g1 0 L → Calls Tryd.prog 23 #[.slice a1 L.length c1, .int .i64 (l : Int), .int .i64 (r : Int), .int .i64 16] W fun e w' => e = .returned (.string (hashB 3 [trB 16 (7 - l) (2 * r) L, trB 16 (7 - l) (2 * r + 1) L] 16)) ∧ Below W.heap.size W w') := fun W hW hr => by
    have h := HNH.out W l r (by omega) (by omega) hW hr
    rw [show 8 - l = 7 - l + 1 by omega] at h
    exact h
  have H4 : Hid (∀ W u g, Below w0.heap.size w0 W → RS 2 lcs W u g 0 [] → Calls Tryd.prog 23 #[u, .int .i64 (l : Int), .int .i64 (r : Int), .int .i64 16] W fun e w' => e = .returned (.string (empB 16 (8 - l))) ∧ Below W.heap.size W w') := fun W u g hW hr => by
    have h := NodeHash_any u g 0 [] (l : Int) (r : Int) 16 W hr (fun f hf => by simp at hf) (HT.out _ hW)
    rw [nh_at h16 ok_none l r (by omega) (by omega), tr_none'] at h
    exact h
  have H5 : Hid (∀ W, Below w0.heap.size w0 W → Calls Tryd.prog 26 #[.int .i64 (l : Int), .int .i64 16] W fun e w' => e = .returned (.string (empB 16 (8 - l))) ∧ Below W.heap.size W w') := fun W hW => by
    have h := EmptyHash_any (l : Int) 16 W (HT.out _ hW)
    rw [eh_at h16 l (by omega)] at h
    exact h
  have H6 : Hid (∀ W u q (M : List Le) (y z x : Int), Below w0.heap.size w0 W → SmallL M → RS 2 lcs W u q 0 M → Calls Tryd.prog 23 #[u, .int .i64 y, .int .i64 z, .int .i64 x] W fun e w' => e = .returned (.string (nhB M y z x)) ∧ Below W.heap.size W w') := fun W u q M y z x hW hs hr => NodeHash_any u q 0 M y z x W hr hs (HT.out _ hW)
  have H7 : Hid (∀ W u q (M : List Le) (y z x : Int), SmallL M → RS 2 lcs W u q 0 M → Calls Tryd.prog 27 #[u, .int .i64 y, .int .i64 z, .int .i64 x] W fun e w' => e = .returned (.string (nhB M y z x)) ∧ Below W.heap.size W w') := fun W u q M y z x hs hr => sNodeHash_any u q 0 M y z x W hr hs
  have HTG : Hid (∀ W, Calls Tryd.prog 25 #[.int .i64 3, .slice (some ⟨W.heap.size, 0, none⟩) 2 2, .int .i64 16] (W.alloc (.cells #[.string (trB 16 (7 - l) (2 * r) L), .string (trB 16 (7 - l) (2 * r + 1) L)] 9)) fun e w' => e = .returned (.string (hashB 3 [trB 16 (7 - l) (2 * r) L, trB 16 (7 - l) (2 * r + 1) L] 16)) ∧ Below W.heap.size W w') := fun W => (sTagHash_w 16 3 [trB 16 (7 - l) (2 * r) L, trB 16 (7 - l) (2 * r + 1) L] 2 _ W _ rfl rfl (by omega) rfl).out
  generalize hashB 3 [trB 16 (7 - l) (2 * r) L, trB 16 (7 - l) (2 * r + 1) L] 16 = RT at *
  generalize trB 16 (7 - l) (2 * r) L = RA at *
  generalize trB 16 (7 - l) (2 * r + 1) L = RB at *
  generalize empB 16 (8 - l) = RE at *
  clear hr1 hb1 hb3 hLk hP hr hpow HNH hg1 hpg hpl HT
  go_wp2_with fail
  refine (H1.out _ HR3.out.2 HR3.out.1).mono ?_
  rintro e w4 ⟨rfl, hb4⟩
  have HR4 : Hid (RS 2 lcs w4 (.slice a1 L.length c1) g1 0 L ∧ Below w0.heap.size w0 w4) := ⟨HR3.out.1.later hb4, HR3.out.2.trans (hb4.mono HR3.out.2.size)⟩
  clear HR3 hb4 H1
  go_wp2_with fail
  refine (H2.out _ HR4.out.2 HR4.out.1).mono ?_
  rintro e w5 ⟨rfl, hb5⟩
  have HR5 : Hid (RS 2 lcs w5 (.slice a1 L.length c1) g1 0 L ∧ Below w0.heap.size w0 w5) := ⟨HR4.out.1.later hb5, HR4.out.2.trans (hb5.mono HR4.out.2.size)⟩
  clear HR4 hb5 H2
  go_wp2_with fail
  refine (DrawNodeHash_any _ _ (HC.out _ HR5.out.2)).mono ?_
  rintro e w6 ⟨u6, q6, M, y, z, x, rfl, hsM, hM25, hr6, hb6⟩
  obtain ⟨a6, c6, rfl⟩ := hr6.shape
  have HR6 : Hid (RS 2 lcs w6 (.slice a1 L.length c1) g1 0 L ∧ Below w0.heap.size w0 w6 ∧ RS 2 lcs w6 (.slice a6 M.length c6) q6 0 M ∧ SmallL M) := ⟨HR5.out.1.later hb6, HR5.out.2.trans (hb6.mono HR5.out.2.size), hr6, hsM⟩
  clear HR5 hb6 HC hr6 hsM
  go_wp2_with fail
  refine (H3.out _ HR6.out.2.1 HR6.out.1).mono ?_
  rintro e w7 ⟨rfl, hb7⟩
  have HR7 : Hid (Below w0.heap.size w0 w7 ∧ RS 2 lcs w7 (.slice a6 M.length c6) q6 0 M ∧ SmallL M) := ⟨HR6.out.2.1.trans (hb7.mono HR6.out.2.1.size), HR6.out.2.2.1.later hb7, HR6.out.2.2.2⟩
  clear HR6 hb7 H3
  go_wp2_with fail
  refine (HTG.out w7).mono ?_
  rintro e w8 ⟨rfl, hb8⟩
  have HR8 : Hid (Below w0.heap.size w0 w8 ∧ RS 2 lcs w8 (.slice a6 M.length c6) q6 0 M ∧ SmallL M) := ⟨HR7.out.1.trans (hb8.mono HR7.out.1.size), HR7.out.2.1.later hb8, HR7.out.2.2⟩
  clear HR7 hb8 HTG
  have hba := (Below.refl w8.heap.size w8).alloc (Nat.le_refl _) (.cells #[] 79)
  have h4 := H4.out (w8.alloc (.cells #[] 79)) (.slice (some ⟨w8.heap.size, 0, none⟩) 0 0) w8.heap.size (HR8.out.1.trans (hba.mono HR8.out.1.size)) ⟨some ⟨w8.heap.size, 0, none⟩, 0, rfl, by simp, fun h => absurd h (by simp), fun j h => absurd h (by simp)⟩
  go_wp2_with fail
  refine h4.mono ?_
  rintro e w9 ⟨rfl, hb9⟩
  have hb89 : Below w8.heap.size w8 w9 := hba.trans (hb9.mono hba.size)
  have HR9 : Hid (Below w0.heap.size w0 w9 ∧ RS 2 lcs w9 (.slice a6 M.length c6) q6 0 M ∧ SmallL M) := ⟨HR8.out.1.trans (hb89.mono HR8.out.1.size), HR8.out.2.1.later hb89, HR8.out.2.2⟩
  clear HR8 hb9 hb89 hba h4 H4
  go_wp2_with fail
  refine (H5.out _ HR9.out.1).mono ?_
  rintro e w10 ⟨rfl, hb10⟩
  have HR10 : Hid (Below w0.heap.size w0 w10 ∧ RS 2 lcs w10 (.slice a6 M.length c6) q6 0 M ∧ SmallL M) := ⟨HR9.out.1.trans (hb10.mono HR9.out.1.size), HR9.out.2.1.later hb10, HR9.out.2.2⟩
  clear HR9 hb10 H5
  have h6 := H6.out _ _ q6 M y z x HR10.out.1 HR10.out.2.2 HR10.out.2.1
  have HN7 : Hid (∀ W, Below w10.heap.size w10 W → Calls Tryd.prog 27 #[.slice a6 M.length c6, .int .i64 y, .int .i64 z, .int .i64 x] W fun e w' => e = .returned (.string (nhB M y z x)) ∧ Below W.heap.size W w') := fun W hW => H7.out W _ q6 M y z x HR10.out.2.2 (HR10.out.2.1.later hW)
  have HB10 : Hid (Below w0.heap.size w0 w10) := HR10.out.1
  generalize nhB M y z x = RN at *
  clear HR10 H6 H7
  go_wp2_with fail
  refine h6.mono ?_
  rintro e w11 ⟨rfl, hb11⟩
  have h7 := HN7.out _ hb11
  clear h6 HN7
  go_wp2_with fail
  refine h7.mono ?_
  rintro e w12 ⟨rfl, hb12⟩
  have b11 := HB10.out.trans (hb11.mono HB10.out.size)
  have b12 := b11.trans (hb12.mono b11.size)
  clear h7 hb11 hb12 b11 HB10
  go_wp2
  go_ret
  exact ⟨rfl, b12⟩

end Go.Proofs.YtmhoilliaeefcaaDoor
