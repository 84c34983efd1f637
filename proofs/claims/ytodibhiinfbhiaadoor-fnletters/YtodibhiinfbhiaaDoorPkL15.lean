/-
  Texts laid together: Ve, Fro, Vf.
-/
import Derived.Test.YtodibhiinfbhiaaDoorPkL3
import Derived.Test.YtodibhiinfbhiaaDoorPkL13
import Derived.Test.YtodibhiinfbhiaaDoorPkL14
import Derived.Test.YtodibhiinfbhiaaDoorPkL2
import Derived.Deep.RegionHeld
import Derived.Deep.MidRow
/-
  The text of a letter: the program's and the specification's answers.
-/
namespace Go.Proofs.YtodibhiinfbhiaaDoor
open Go.RowKit Go.BigFrame Go.Sort
set_option linter.unusedVariables false
set_option linter.unusedSimpArgs false

namespace VV
/-- the four bytes ahead -/
def four (x : Ltr) : List UInt8 := [UInt8.ofNat x.k.toNat, UInt8.ofNat x.f.toNat, UInt8.ofNat x.t.toNat, UInt8.ofNat x.e.toNat]
def ltL (x : Ltr) : List UInt8 := four x ++ M.varL x.y.toNat ++ x.r.data.toList
def lB (x : Ltr) : ByteArray := ⟨(ltL x).toArray⟩
def text (x : Ltr) : ByteArray := if ok x = true then sealedB (lB x) else ⟨#[]⟩
/-- what a right letter's numbers are -/
theorem ok_bounds {x : Ltr} (h : ok x = true) : (1 ≤ x.k ∧ x.k ≤ 5) ∧ (0 ≤ x.f ∧ x.f ≤ 4) ∧ (0 ≤ x.t ∧ x.t ≤ 4) ∧ (1 ≤ x.e ∧ x.e ≤ 4) ∧ (1 ≤ x.y ∧ x.y ≤ 1000) ∧ x.r.size ≤ 16 := by
  unfold ok at h
  simp only [Bool.and_eq_true, decide_eq_true_eq] at h
  obtain ⟨⟨⟨h1, h2⟩, h3⟩, h4⟩ := h
  unfold way at h1
  have h1 := of_decide_eq_true h1
  refine ⟨by omega, by omega, by omega, h2, h3, ?_⟩
  rw [h4]; unfold rw; split <;> omega
theorem lB_size {x : Ltr} (h : x.r.size ≤ 16) : (lB x).size ≤ 30 := by
  have h1 := M.varL_len x.y.toNat
  have h2 : x.r.data.toList.length = x.r.size := Array.length_toList
  show (ltL x).toArray.size ≤ 30
  simp only [List.size_toArray, ltL, List.length_append]
  have h3 : (four x).length = 4 := rfl
  omega
end VV

theorem byteV (x : Int) (n : Nat) (hx : x = (n : Int)) (h : n ≤ 255) : x = ((UInt8.ofNat n).toNat : Int) := by
  rw [hx]
  simp
  omega
theorem four_row (w : World) (n : Nat) (hn : n = w.heap.size) (b0 b1 b2 b3 : UInt8) : ∀ j u, (bv [b0, b1, b2, b3])[j]? = some u → (w.alloc (.cells #[.int .u8 (b0.toNat : Int), .int .u8 (b1.toNat : Int), .int .u8 (b2.toNat : Int), .int .u8 (b3.toNat : Int)] 5)).cell? ((⟨n, 0, none⟩ : Addr).add j) = some u := by
  subst hn
  intro j u hu
  obtain ⟨hj, rfl⟩ := bv_get _ _ _ hu
  have h0 : j = 0 ∨ j = 1 ∨ j = 2 ∨ j = 3 := by simp at hj; omega
  rcases h0 with rfl | rfl | rfl | rfl <;> simp [Addr.add]

set_option maxRecDepth 100000 in
set_option maxHeartbeats 1000000 in
theorem writeWay_any (x : Ltr) (B : Nat) (w0 w : World) (v : Value) (l : List UInt8) (ho : OB B w0 w v l) (hl : l.length ≤ 1000) (hk : 0 ≤ x.k ∧ x.k ≤ 255) (hf : 0 ≤ x.f ∧ x.f ≤ 255) (ht : 0 ≤ x.t ∧ x.t ≤ 255) (he : 0 ≤ x.e ∧ x.e ≤ 255) :
    Calls Tryd.prog 41 #[.agg #[.int .i64 x.k, .int .i64 x.f, .int .i64 x.t, .int .i64 x.e, .int .i64 x.y, .string x.r], v] w fun e w' => ∃ v', e = .returned v' ∧ OB B w0 w' v' (l ++ VV.four x) := by
  unfold VV.four
  obtain ⟨k, f, t, e, y, r⟩ := x
  simp only at *
  obtain ⟨b0, h0⟩ : ∃ b, UInt8.ofNat k.toNat = b := ⟨_, rfl⟩
  obtain ⟨b1, h1⟩ : ∃ b, UInt8.ofNat f.toNat = b := ⟨_, rfl⟩
  obtain ⟨b2, h2⟩ : ∃ b, UInt8.ofNat t.toNat = b := ⟨_, rfl⟩
  obtain ⟨b3, h3⟩ : ∃ b, UInt8.ofNat e.toNat = b := ⟨_, rfl⟩
  have k0 : k = (b0.toNat : Int) := by rw [← h0]; exact byteV k _ (by omega) (by omega)
  have k1 : f = (b1.toNat : Int) := by rw [← h1]; exact byteV f _ (by omega) (by omega)
  have k2 : t = (b2.toNat : Int) := by rw [← h2]; exact byteV t _ (by omega) (by omega)
  have k3 : e = (b3.toNat : Int) := by rw [← h3]; exact byteV e _ (by omega) (by omega)
  rw [h0, h1, h2, h3]
  clear h0 h1 h2 h3
  subst k0 k1 k2 k3
  have HO : Hid (OB B w0 (w.alloc (.cells #[.int .i64 (b0.toNat : Int), .int .i64 (b1.toNat : Int), .int .i64 (b2.toNat : Int), .int .i64 (b3.toNat : Int), .int .i64 y, .string r] 25)) v l) := ho.alloc _
  clear ho
  go_enter Tryd.func41, Tryd.ntmps41
  go_wp2_with (at_builtin; refine wp_app rfl _ _ rfl B w0 _ l rfl (HO.out.alloc _) ⟨_, 0, none⟩ 4 4 [b0, b1, b2, b3] rfl rfl ?c1 ?c2 ?_)
  case c1 => exact four_row _ _ (by simp) _ _ _ _
  case c2 => omega
  intro v' w1 hown'
  go_wp2
  go_ret
  exact ⟨v', rfl, hown'⟩

set_option maxRecDepth 100000 in
set_option maxHeartbeats 1000000 in
theorem writeTry_any (x : Ltr) (B : Nat) (w0 w : World) (v : Value) (l : List UInt8) (ho : OB B w0 w v l) (hl : l.length ≤ 1000) (hy : 0 ≤ x.y ∧ x.y ≤ 1000000000) :
    Calls Tryd.prog 42 #[.agg #[.int .i64 x.k, .int .i64 x.f, .int .i64 x.t, .int .i64 x.e, .int .i64 x.y, .string x.r], v] w fun e w' => ∃ v', e = .returned v' ∧ OB B w0 w' v' (l ++ M.varL x.y.toNat) := by
  obtain ⟨k, f, t, e, y, r⟩ := x
  simp only at *
  have HO : Hid (OB B w0 (w.alloc (.cells #[.int .i64 k, .int .i64 f, .int .i64 t, .int .i64 e, .int .i64 y, .string r] 25)) v l) := ho.alloc _
  clear ho
  have HV : Hid (∀ W, Calls Tryd.prog 53 #[.int .i64 y] W fun e w' => e = .returned (.tuple #[.string ⟨(M.varL y.toNat).toArray⟩, .bool true]) ∧ Below W.heap.size W w') := fun W => by
    obtain ⟨n, rfl⟩ := Int.eq_ofNat_of_zero_le hy.1
    exact VarText_yes n W (by omega)
  have hz := varA_size y.toNat
  obtain ⟨L, hL⟩ : ∃ L, M.varL y.toNat = L := ⟨_, rfl⟩
  rw [hL] at HV hz ⊢
  clear hL hy
  obtain ⟨T, hT⟩ : ∃ T, (⟨L.toArray⟩ : ByteArray) = T := ⟨_, rfl⟩
  have hTL : T.data.toList = L := by rw [← hT]
  rw [hT] at HV hz
  clear hT
  subst hTL
  go_enter Tryd.func42, Tryd.ntmps42
  go_wp2_with fail
  refine (HV.out _).mono ?_
  rintro e1 w1 ⟨rfl, hb1⟩
  have HO1 : Hid (OB B w0 w1 v l) := HO.out.later hb1
  clear HO hb1 HV
  go_wp2_with (at_builtin; refine wp_appStr rfl _ _ rfl B w0 _ l rfl HO1.out T rfl ?c1 ?_)
  case c1 => omega
  intro v' w2 hown2
  go_wp2
  go_ret
  exact ⟨v', rfl, hown2⟩

set_option maxRecDepth 100000 in
set_option maxHeartbeats 1000000 in
theorem writeRoot_any (x : Ltr) (B : Nat) (w0 w : World) (v : Value) (l : List UInt8) (ho : OB B w0 w v l) (hl : l.length ≤ 1000) (hr : x.r.size ≤ 1000) :
    Calls Tryd.prog 43 #[.agg #[.int .i64 x.k, .int .i64 x.f, .int .i64 x.t, .int .i64 x.e, .int .i64 x.y, .string x.r], v] w fun e w' => ∃ v', e = .returned v' ∧ OB B w0 w' v' (l ++ x.r.data.toList) := by
  obtain ⟨k, f, t, e, y, r⟩ := x
  simp only at *
  have HO : Hid (OB B w0 (w.alloc (.cells #[.int .i64 k, .int .i64 f, .int .i64 t, .int .i64 e, .int .i64 y, .string r] 25)) v l) := ho.alloc _
  clear ho
  go_enter Tryd.func43, Tryd.ntmps43
  go_wp2_with (at_builtin; refine wp_appStr rfl _ _ rfl B w0 _ l rfl HO.out r rfl ?c1 ?_)
  case c1 => omega
  intro v' w2 hown2
  go_wp2
  go_ret
  exact ⟨v', rfl, hown2⟩

/-- three writers of one letter, in a row -/
def WrB (W : World) (n : Nat) (x : Ltr) : Prop := W.heap[n]? = some (.cells #[.func (Fn.func 41) #[.agg #[.int .i64 x.k, .int .i64 x.f, .int .i64 x.t, .int .i64 x.e, .int .i64 x.y, .string x.r]] #[], .func (Fn.func 42) #[.agg #[.int .i64 x.k, .int .i64 x.f, .int .i64 x.t, .int .i64 x.e, .int .i64 x.y, .string x.r]] #[], .func (Fn.func 43) #[.agg #[.int .i64 x.k, .int .i64 x.f, .int .i64 x.t, .int .i64 x.e, .int .i64 x.y, .string x.r]] #[]] 48 (0, 0))
theorem WrB.later {W W' : World} {n : Nat} {x : Ltr} (h : WrB W n x) (hb : Below W.heap.size W W') : WrB W' n x := (hb.block n (Array.getElem?_eq_some_iff.1 h).1).trans h
theorem WrB.lt {W : World} {n : Nat} {x : Ltr} (h : WrB W n x) : n < W.heap.size := (Array.getElem?_eq_some_iff.1 h).1
theorem WrB.c0 {W : World} {n : Nat} {x : Ltr} (h : WrB W n x) : W.cell? ⟨n, 0, none⟩ = some (.func (Fn.func 41) #[.agg #[.int .i64 x.k, .int .i64 x.f, .int .i64 x.t, .int .i64 x.e, .int .i64 x.y, .string x.r]] #[]) := by rw [cell_of_row W n 0 _ _ _ h]; rfl
theorem WrB.c1 {W : World} {n : Nat} {x : Ltr} (h : WrB W n x) : W.cell? ⟨n, 1, none⟩ = some (.func (Fn.func 42) #[.agg #[.int .i64 x.k, .int .i64 x.f, .int .i64 x.t, .int .i64 x.e, .int .i64 x.y, .string x.r]] #[]) := by rw [cell_of_row W n 1 _ _ _ h]; rfl
theorem WrB.c2 {W : World} {n : Nat} {x : Ltr} (h : WrB W n x) : W.cell? ⟨n, 2, none⟩ = some (.func (Fn.func 43) #[.agg #[.int .i64 x.k, .int .i64 x.f, .int .i64 x.t, .int .i64 x.e, .int .i64 x.y, .string x.r]] #[]) := by rw [cell_of_row W n 2 _ _ _ h]; rfl

set_option maxRecDepth 100000 in
set_option maxHeartbeats 1000000 in
theorem writers_any (x : Ltr) (w : World) : Calls Tryd.prog 22 #[.agg #[.int .i64 x.k, .int .i64 x.f, .int .i64 x.t, .int .i64 x.e, .int .i64 x.y, .string x.r]] w fun e w' => ∃ n, e = .returned (.slice (some ⟨n, 0, none⟩) 3 3) ∧ Below w.heap.size w w' ∧ w.heap.size ≤ n ∧ WrB w' n x := by
  obtain ⟨k, f, t, e, y, r⟩ := x
  have HF : Hid (Below w.heap.size w ((w.alloc (.cells #[.int .i64 k, .int .i64 f, .int .i64 t, .int .i64 e, .int .i64 y, .string r] 25)).alloc (.cells #[.func (Fn.func 41) #[.agg #[.int .i64 k, .int .i64 f, .int .i64 t, .int .i64 e, .int .i64 y, .string r]] #[], .func (Fn.func 42) #[.agg #[.int .i64 k, .int .i64 f, .int .i64 t, .int .i64 e, .int .i64 y, .string r]] #[], .func (Fn.func 43) #[.agg #[.int .i64 k, .int .i64 f, .int .i64 t, .int .i64 e, .int .i64 y, .string r]] #[]] 48)) ∧ WrB ((w.alloc (.cells #[.int .i64 k, .int .i64 f, .int .i64 t, .int .i64 e, .int .i64 y, .string r] 25)).alloc (.cells #[.func (Fn.func 41) #[.agg #[.int .i64 k, .int .i64 f, .int .i64 t, .int .i64 e, .int .i64 y, .string r]] #[], .func (Fn.func 42) #[.agg #[.int .i64 k, .int .i64 f, .int .i64 t, .int .i64 e, .int .i64 y, .string r]] #[], .func (Fn.func 43) #[.agg #[.int .i64 k, .int .i64 f, .int .i64 t, .int .i64 e, .int .i64 y, .string r]] #[]] 48)) (w.heap.size + 1) ⟨k, f, t, e, y, r⟩) := ⟨((Below.refl _ _).alloc (Nat.le_refl _) _).alloc (by simp) _, alloc_fst _ _ (by simp)⟩
  go_enter Tryd.func22, Tryd.ntmps22
  go_wp2
  go_ret
  exact ⟨_, rfl, HF.out.1, by omega, HF.out.2⟩

namespace VV
/-- what is written when m writers have written -/
def pre (x : Ltr) : Nat → List UInt8
  | 0 => []
  | 1 => four x
  | 2 => four x ++ M.varL x.y.toNat
  | _ => ltL x
end VV
def LtR (B : Nat) (w0 : World) (n : Nat) (x : Ltr) (v i : Value) (wr : World) : Prop := ∃ m : Nat, m ≤ 3 ∧ i = .int .i64 m ∧ Hid (OB B w0 wr v (VV.pre x m) ∧ WrB wr n x)

set_option maxRecDepth 100000 in
set_option maxHeartbeats 2000000 in
theorem LetterText_any (x : Ltr) (w : World) (hr : x.r.size ≤ 1048576) (hT : Tab w) :
    Calls Tryd.prog 8 #[.agg #[.int .i64 x.k, .int .i64 x.f, .int .i64 x.t, .int .i64 x.e, .int .i64 x.y, .string x.r]] w fun e w' => e = .returned (.tuple #[.string (VV.text x), .bool (VV.ok x)]) ∧ Below w.heap.size w w' := by
  have HC : Hid (∀ W, Calls Tryd.prog 11 #[.agg #[.int .i64 x.k, .int .i64 x.f, .int .i64 x.t, .int .i64 x.e, .int .i64 x.y, .string x.r]] W fun e w' => e = .returned (.bool (VV.ok x)) ∧ Below W.heap.size W w') := fun W => LetterOk_any x W hr
  have HW : Hid (RKc (w.alloc (.cells #[.int .i64 x.k, .int .i64 x.f, .int .i64 x.t, .int .i64 x.e, .int .i64 x.y, .string x.r] 25)) w.heap.size x ∧ Below w.heap.size w (w.alloc (.cells #[.int .i64 x.k, .int .i64 x.f, .int .i64 x.t, .int .i64 x.e, .int .i64 x.y, .string x.r] 25))) := ⟨⟨range_new w (kcs x) _, by simp⟩, (Below.refl _ _).alloc (Nat.le_refl _) _⟩
  unfold VV.text
  cases hk : VV.ok x
  · rw [hk] at HC
    rw [if_neg (by simp)]
    obtain ⟨k, f, t, e, y, r⟩ := x
    clear hk hT
    go_enter Tryd.func8, Tryd.ntmps8
    go_wp2_with fail
    refine (HC.out _).mono ?_
    rintro e1 w1 ⟨rfl, hb1⟩
    have HB1 := HW.out.2.trans (hb1.mono HW.out.2.size)
    clear hb1
    go_wp2
    go_ret2
    exact ⟨rfl, HB1⟩
  · rw [hk] at HC
    rw [if_pos rfl]
    obtain ⟨b1, b2, b3, b4, b5, b6⟩ := VV.ok_bounds hk
    have hz := VV.lB_size b6
    have HWR : Hid (∀ W, Calls Tryd.prog 22 #[.agg #[.int .i64 x.k, .int .i64 x.f, .int .i64 x.t, .int .i64 x.e, .int .i64 x.y, .string x.r]] W fun e w' => ∃ n, e = .returned (.slice (some ⟨n, 0, none⟩) 3 3) ∧ Below W.heap.size W w' ∧ W.heap.size ≤ n ∧ WrB w' n x) := fun W => writers_any x W
    have hlen : ∀ m, (VV.pre x m).length ≤ 100 := by
      intro m
      have h1 := M.varL_len x.y.toNat
      have h2 : x.r.data.toList.length = x.r.size := Array.length_toList
      have h3 : (VV.four x).length = 4 := rfl
      match m with
      | 0 => simp [VV.pre]
      | 1 => simp only [VV.pre]; omega
      | 2 => simp only [VV.pre, List.length_append]; omega
      | m + 3 => simp only [VV.pre, VV.ltL, List.length_append]; omega
    have H0 : Hid (∀ B w0 W v, OB B w0 W v (VV.pre x 0) → Calls Tryd.prog 41 #[.agg #[.int .i64 x.k, .int .i64 x.f, .int .i64 x.t, .int .i64 x.e, .int .i64 x.y, .string x.r], v] W fun e w' => ∃ v', e = .returned v' ∧ OB B w0 w' v' (VV.pre x 1)) := fun B w0 W v h => writeWay_any x B w0 W v [] h (by simp) (by omega) (by omega) (by omega) (by omega)
    have H1 : Hid (∀ B w0 W v, OB B w0 W v (VV.pre x 1) → Calls Tryd.prog 42 #[.agg #[.int .i64 x.k, .int .i64 x.f, .int .i64 x.t, .int .i64 x.e, .int .i64 x.y, .string x.r], v] W fun e w' => ∃ v', e = .returned v' ∧ OB B w0 w' v' (VV.pre x 2)) := fun B w0 W v h => writeTry_any x B w0 W v (VV.pre x 1) h (by have := hlen 1; omega) (by omega)
    have H2 : Hid (∀ B w0 W v, OB B w0 W v (VV.pre x 2) → Calls Tryd.prog 43 #[.agg #[.int .i64 x.k, .int .i64 x.f, .int .i64 x.t, .int .i64 x.e, .int .i64 x.y, .string x.r], v] W fun e w' => ∃ v', e = .returned v' ∧ OB B w0 w' v' (VV.pre x 3)) := fun B w0 W v h => writeRoot_any x B w0 W v (VV.pre x 2) h (by have := hlen 2; omega) (by omega)
    have HTT : Hid (∀ W, Below w.heap.size w W → Calls Tryd.prog 23 #[.string (VV.lB x)] W fun e w' => e = .returned (.tuple #[.string (sealedB (VV.lB x)), .bool true]) ∧ Below W.heap.size W w') := fun W hW => Sealed_yes (VV.lB x) W (by omega) (hT.later hW hT.pos)
    have HLB : Hid ((⟨(VV.pre x 3).toArray⟩ : ByteArray) = VV.lB x) := rfl
    clear hk hT b1 b2 b3 b4 b5 b6 hlen
    generalize VV.lB x = LB at *
    generalize sealedB LB = SB at *
    obtain ⟨k, f, t, e, y, r⟩ := x
    simp only at HC HW HWR H0 H1 H2 ⊢
    go_enter Tryd.func8, Tryd.ntmps8
    go_wp2_with fail
    refine (HC.out _).mono ?_
    rintro e1 w1 ⟨rfl, hb1⟩
    have HW1 : Hid (RKc w1 w.heap.size ⟨k, f, t, e, y, r⟩ ∧ Below w.heap.size w w1) := ⟨⟨range_kept HW.out.1.1 (hb1.block _ HW.out.1.2), Nat.lt_of_lt_of_le HW.out.1.2 hb1.size⟩, HW.out.2.trans (hb1.mono HW.out.2.size)⟩
    clear hb1 HW HC
    have z0 := HW1.out.1.c0
    have z1 := HW1.out.1.c1
    have z2 := HW1.out.1.c2
    have z3 := HW1.out.1.c3
    have z4 := HW1.out.1.c4
    have z5 := HW1.out.1.c5
    simp only at z0 z1 z2 z3 z4 z5
    go_wp2_with fail
    refine (HWR.out _).mono ?_
    rintro e2 w2 ⟨n, rfl, hb2, hn, hwb⟩
    have HB2 : Hid (Below w.heap.size w w2) := HW1.out.2.trans (hb2.mono HW1.out.2.size)
    have HST : Hid (LtR w2.heap.size w2 n ⟨k, f, t, e, y, r⟩ (.slice none 0 0) (.int .i64 0) w2) := ⟨0, by omega, rfl, OB.nil w2, hwb⟩
    have HWB : Hid (WrB w2 n ⟨k, f, t, e, y, r⟩) := hwb
    clear hb2 hn hwb HWR HW1 z0 z1 z2 z3 z4 z5
    clear hr hz
    go_wp2
    go_loopw [4, 13] (fun v i wr => LtR w2.heap.size w2 n ⟨k, f, t, e, y, r⟩ v i wr) (fun _ i _ => 3 - (intOf i).toNat)
    case atStart => exact HST.out
    case round =>
      obtain ⟨m, hm, rfl, HI⟩ := hrel
      clear HST
      rcases (by omega : m = 0 ∨ m = 1 ∨ m = 2 ∨ m = 3) with rfl | rfl | rfl | rfl
      · have cc := HI.out.2.c0
        simp only at cc
        have hcall := H0.out _ _ _ _ HI.out.1
        have hlt := HI.out.2.lt
        go_wp2_with fail
        refine hcall.mono ?_
        rintro e3 w3 ⟨v', rfl, hown⟩
        have HN : Hid (LtR w2.heap.size w2 n ⟨k, f, t, e, y, r⟩ v' (.int .i64 1) w3) := ⟨1, by omega, rfl, hown, HWB.out.later hown.2.1⟩
        clear hown hcall cc hlt HI
        go_wp2
        go_roundw
        case rel => exact HN.out
        case measure => simp [intOf]
      · have cc := HI.out.2.c1
        simp only at cc
        have hcall := H1.out _ _ _ _ HI.out.1
        have hlt := HI.out.2.lt
        go_wp2_with fail
        refine hcall.mono ?_
        rintro e3 w3 ⟨v', rfl, hown⟩
        have HN : Hid (LtR w2.heap.size w2 n ⟨k, f, t, e, y, r⟩ v' (.int .i64 2) w3) := ⟨2, by omega, rfl, hown, HWB.out.later hown.2.1⟩
        clear hown hcall cc hlt HI
        go_wp2
        go_roundw
        case rel => exact HN.out
        case measure => simp [intOf]
      · have cc := HI.out.2.c2
        simp only at cc
        have hcall := H2.out _ _ _ _ HI.out.1
        have hlt := HI.out.2.lt
        go_wp2_with fail
        refine hcall.mono ?_
        rintro e3 w3 ⟨v', rfl, hown⟩
        have HN : Hid (LtR w2.heap.size w2 n ⟨k, f, t, e, y, r⟩ v' (.int .i64 3) w3) := ⟨3, by omega, rfl, hown, HWB.out.later hown.2.1⟩
        clear hown hcall cc hlt HI
        go_wp2
        go_roundw
        case rel => exact HN.out
        case measure => simp [intOf]
      · have hown := HI.out.1
        have hcv := run_str hown
        rw [HLB.out] at hcv
        have HB3 : Hid (Below w.heap.size w wr) := HB2.out.trans (hown.2.1.mono HB2.out.size)
        clear hown HI
        go_wp2_with fail
        refine (HTT.out _ HB3.out).mono ?_
        rintro e4 w4 ⟨rfl, hb4⟩
        have HB4 := HB3.out.trans (hb4.mono HB3.out.size)
        clear hb4 hcv
        go_wp2
        go_ret2
        exact ⟨rfl, HB4⟩

end Go.Proofs.YtodibhiinfbhiaaDoor
/-
  A frame of which some slots are known: the steps of a region that draws its order, the frame left open.
-/
namespace Go.Proofs.YtodibhiinfbhiaaDoor
open Go.RowKit Go.BigFrame Go.Sort
set_option linter.unusedVariables false
set_option linter.unusedSimpArgs false

/-- a frame of m slots, no call put off; what some slots hold -/
def FR (m : Nat) (a : Act) (l : List (Nat × Value)) : Prop := a.tmps.size = m ∧ a.defers = [] ∧ ∀ p ∈ l, a.tmps[p.1]? = some p.2
theorem FR.at {m : Nat} {a : Act} {l : List (Nat × Value)} (h : FR m a l) (t : Nat) (v : Value) (hm : (t, v) ∈ l) : a.tmps[t]? = some v := h.2.2 _ hm
theorem FR.get {m : Nat} {a : Act} {l : List (Nat × Value)} (h : FR m a l) (t : Nat) (v : Value) (hm : (t, v) ∈ l) : a.tmps[t]?.getD undef = v := by rw [h.at t v hm]; rfl
theorem FR.eval {m : Nat} {a : Act} {l : List (Nat × Value)} (h : FR m a l) (t : Nat) (v : Value) (hm : (t, v) ∈ l) : a.eval (.tmp t) = v := by
  show a.tmps.getD t undef = v
  rw [Array.getD_eq_getD_getElem?]
  exact h.get t v hm
theorem FR.put {m : Nat} {a : Act} {l : List (Nat × Value)} (h : FR m a l) (d : Nat) (v : Value) (hd : d < m) (hn : ∀ p ∈ l, p.1 ≠ d) : FR m (a.put (some d) v) ((d, v) :: l) := by
  unfold Act.put
  refine ⟨by simpa using h.1, h.2.1, fun p hp => ?_⟩
  rcases List.mem_cons.1 hp with rfl | hp
  · simp [h.1, hd]
  · have := hn p hp
    simp only
    rw [Array.getElem?_setIfInBounds_ne (fun e => this e.symm)]
    exact h.2.2 p hp
/-- what was put into a slot is known of the frame behind it -/
theorem openK {K : Act → World → Prop} {o : Oper} {m : Nat} {a : Act} {l : List (Nat × Value)} {v : Value} {w : World} (d : Nat) (hd : o.dst = some d) (F : FR m a l) (hlt : d < m) (hn : ∀ p ∈ l, p.1 ≠ d) (h : ∀ a', FR m a' ((d, v) :: l) → K a' w) : K (a.put o.dst v) w := by
  rw [hd]
  exact h _ (F.put d v hlt hn)
theorem takeF {ops : Array Oper} {md : Region.Mode} {Q : Exit → Act → World → Prop} {S : World → Prop} {i : Nat} {oi : Oper} {v : Value} {fuel m : Nat} {listed : Array Bool} {a : Act} {w : World} {l : List (Nat × Value)} (hi : ops[i]? = some oi)
    (hs : Region.noSelect ops = true) (hf : Region.free md ops listed i = true) (hr : (Region.ready md ops listed).contains i = true)
    (hQ : ∀ c a w, Q (.panic c) (a.put oi.dst v) w → Q (.panic c) a w) (hy : YieldsIf Tryd.prog ops S oi v a) (hS : S w) (d : Nat) (hd : oi.dst = some d) (F : FR m a l) (hlt : d < m) (hn : ∀ p ∈ l, p.1 ≠ d)
    (h : ∀ a', FR m a' ((d, v) :: l) → wpAnyH Tryd.prog md ops Q S fuel (listed.setIfInBounds i true) a' w) : wpAnyH Tryd.prog md ops Q S (fuel + 1) listed a w :=
  wpAnyH_take hi hs hf hr hQ hy hS (by rw [hd]; exact h _ (F.put d v hlt hn))
theorem wp_abs {c : Go.Code} {Q : Exit → Act → World → Prop} {a0 : Act} {w : World} (R : Act → Prop) (h0 : R a0) (h : ∀ a, R a → c.wp Tryd.prog Q a w) : c.wp Tryd.prog Q a0 w := h a0 h0
theorem wanted_of {ops : Array Oper} {o : Oper} {tmps : Array Value} (j : Nat) (b : Bool) (d : Nat) (hg : o.guard = some (j, b)) (hd : ((ops[j]?).bind (·.dst)) = some d) (ht : tmps[d]? = some (.bool b)) : Region.wanted o (yielded ops tmps) = true := by
  simp [Region.wanted, yielded, hg, hd, ht]
theorem ret_tmpF {fn : Func} {Rp : Ending → World → Prop} {a : Act} {w : World} (s : Nat) (v : Value) (hres : fn.results = #[.tmp s]) (hd : a.defers = []) (hv : a.tmps[s]?.getD undef = v) (h : Rp (.returned v) w) : bodyPost Tryd.prog fn Rp .ret a w := by
  refine bodyPost_ret (v := v) ?_ hd h
  simp [results, hres, hv]
/-- a frame of which all slots are known -/
theorem FR.close {m : Nat} {a : Act} {l : List (Nat × Value)} (h : FR m a l) (vs : List Value) (hl : vs.length = m) (hv : ∀ i, (hi : i < vs.length) → a.tmps[i]? = some vs[i]) : a = ⟨vs.toArray, []⟩ := by
  obtain ⟨h1, h2, _⟩ := h
  cases a with
  | mk t d =>
    simp only at h1 h2 hv
    subst h2
    congr 1
    apply Array.ext
    · rw [h1, List.size_toArray, hl]
    · intro i hi1 hi2
      have := hv i (by simpa using hi2)
      rw [Array.getElem?_eq_getElem hi1] at this
      rw [Option.some.inj this]
      simp
theorem unwanted_of {ops : Array Oper} {o : Oper} {tmps : Array Value} (j : Nat) (b : Bool) (d : Nat) (hg : o.guard = some (j, b)) (hd : ((ops[j]?).bind (·.dst)) = some d) (ht : tmps[d]? = some (.bool (!b))) : Region.wanted o (yielded ops tmps) = false := by
  cases b <;> simp_all [Region.wanted, yielded]

/-- a contract with one answer, in the form that the steps of calls take -/
theorem Calls.ret1 {f : Nat} {args : Array Value} {w : World} {v : Value} (h : Calls Tryd.prog f args w fun e w' => e = .returned v ∧ Below w.heap.size w w') : Calls Tryd.prog f args w fun e w' => ∃ r, e = .returned r ∧ (r = v ∧ Below w.heap.size w w') :=
  h.mono fun _ _ ⟨he, hb⟩ => ⟨_, he, rfl, hb⟩

end Go.Proofs.YtodibhiinfbhiaaDoor
/-
  The text of a letter: the specification's answer.
-/
namespace Go.Proofs.YtodibhiinfbhiaaDoor
open Go.RowKit Go.BigFrame Go.Sort
set_option linter.unusedVariables false
set_option linter.unusedSimpArgs false

/-- four bytes in a box -/
def Bx4 (W : World) (n : Nat) (b0 b1 b2 b3 : UInt8) : Prop := W.heap[n]? = some (.cells #[.int .u8 (b0.toNat : Int), .int .u8 (b1.toNat : Int), .int .u8 (b2.toNat : Int), .int .u8 (b3.toNat : Int)] 5 (0, 0))
theorem Bx4.later {W W' : World} {n : Nat} {b0 b1 b2 b3 : UInt8} (h : Bx4 W n b0 b1 b2 b3) (hb : Below W.heap.size W W') : Bx4 W' n b0 b1 b2 b3 := (hb.block n (Array.getElem?_eq_some_iff.1 h).1).trans h
theorem Bx4.str {W : World} {n : Nat} {b0 b1 b2 b3 : UInt8} (h : Bx4 W n b0 b1 b2 b3) : (convert 22 9 (.slice (some ⟨n, 0, none⟩) 4 4)).run Tryd.prog W = .ok (.string ⟨[b0, b1, b2, b3].toArray⟩) W := by
  refine run_convert_bytes_back (P := Tryd.prog) _ 22 9 5 ⟨n, 0, none⟩ 4 [b0, b1, b2, b3] Tryd.underlying22 Tryd.underlying5 Tryd.underlying9 ?_
  intro j hj
  have h0 : j = 0 ∨ j = 1 ∨ j = 2 ∨ j = 3 := by simp at hj; omega
  rcases h0 with rfl | rfl | rfl | rfl <;> (simp [Addr.add]; rw [cell_of_row W n _ _ _ _ h]; rfl)
theorem step_four {w : World} {ops : Array Oper} {o : Oper} {a : Act} {K : Act → World → Prop} {Q : Exit → Act → World → Prop} {E : Prop} (hw : Region.wanted o (yielded ops a.tmps) = true) (i0 i1 i2 i3 : Nat) (ho : o.op = .buildSlice 22 4 #[(0, .tmp i0), (1, .tmp i1), (2, .tmp i2), (3, .tmp i3)]) (b0 b1 b2 b3 : UInt8)
    (h0 : a.tmps[i0]?.getD undef = .int .u8 (b0.toNat : Int)) (h1 : a.tmps[i1]?.getD undef = .int .u8 (b1.toNat : Int)) (h2 : a.tmps[i2]?.getD undef = .int .u8 (b2.toNat : Int)) (h3 : a.tmps[i3]?.getD undef = .int .u8 (b3.toNat : Int))
    (hk : ∀ w' n, Bx4 w' n b0 b1 b2 b3 → Below w.heap.size w w' → K (a.put o.dst (.slice (some ⟨n, 0, none⟩) 4 4)) w') : if Region.wanted o (yielded ops a.tmps) = true then Oper.wp Tryd.prog o a w K Q else E := by
  rw [if_pos hw]
  have hk2 := hk (w.alloc (.cells #[.int .u8 (b0.toNat : Int), .int .u8 (b1.toNat : Int), .int .u8 (b2.toNat : Int), .int .u8 (b3.toNat : Int)] 5)) w.heap.size (Go.heap_alloc_new w _) ((Below.refl _ _).alloc (Nat.le_refl _) _)
  clear hk
  have ev : ∀ t v, a.tmps[t]?.getD undef = v → a.eval (.tmp t) = v := fun t v h => by
    show a.tmps.getD t undef = v
    rw [Array.getD_eq_getD_getElem?]
    exact h
  unfold Oper.wp
  unfold execOp
  rw [ho]
  have e : (#[(0, .tmp i0), (1, .tmp i1), (2, .tmp i2), (3, .tmp i3)] : Array (Nat × Operand)).map (fun (i, x) => (i, a.eval x)) = #[(0, .int .u8 (b0.toNat : Int)), (1, .int .u8 (b1.toNat : Int)), (2, .int .u8 (b2.toNat : Int)), (3, .int .u8 (b3.toNat : Int))] := by
    simp [ev _ _ h0, ev _ _ h1, ev _ _ h2, ev _ _ h3]
  simp only [e]
  go_simp
  exact hk2
theorem step_conv4 {w : World} {ops : Array Oper} {o : Oper} {a : Act} {K : Act → World → Prop} {Q : Exit → Act → World → Prop} {E : Prop} (hw : Region.wanted o (yielded ops a.tmps) = true) (i : Nat) (ho : o.op = .convert 22 9 (.tmp i)) (b0 b1 b2 b3 : UInt8) (n : Nat) (S : ByteArray) (hS : (⟨[b0, b1, b2, b3].toArray⟩ : ByteArray) = S) (hx : Bx4 w n b0 b1 b2 b3)
    (h0 : a.tmps[i]?.getD undef = .slice (some ⟨n, 0, none⟩) 4 4) (hk : K (a.put o.dst (.string S)) w) : if Region.wanted o (yielded ops a.tmps) = true then Oper.wp Tryd.prog o a w K Q else E := by
  rw [if_pos hw]
  have hr := hx.str
  rw [hS] at hr
  have hp' : a.eval (.tmp i) = .slice (some ⟨n, 0, none⟩) 4 4 := by
    show a.tmps.getD i undef = _
    rw [Array.getD_eq_getD_getElem?]
    exact h0
  unfold Oper.wp
  simp [execOp, ho, hp', hr, Result.andThen]
  exact hk
theorem ret_tmpF2 {fn : Func} {Rp : Ending → World → Prop} {a : Act} {w : World} (s t : Nat) (v u : Value) (hres : fn.results = #[.tmp s, .tmp t]) (hd : a.defers = []) (hv : a.tmps[s]?.getD undef = v) (hu : a.tmps[t]?.getD undef = u) (h : Rp (.returned (.tuple #[v, u])) w) : bodyPost Tryd.prog fn Rp .ret a w := by
  refine bodyPost_ret (v := .tuple #[v, u]) ?_ hd h
  simp [results, hres, hv, hu]
theorem step_spec_l01Var {w : World} {ops : Array Oper} {o : Oper} {a : Act} {K : Act → World → Prop} {Q : Exit → Act → World → Prop} {E : Prop} (hw : Region.wanted o (yielded ops a.tmps) = true) (i0 : Nat) (ts : Array TypeId) (ho : o.op = .call { callee := .value (.func 38), args := #[.tmp i0], argTypes := ts }) (v0 : Value) (P : Value → World → Prop) (h0 : a.tmps[i0]?.getD undef = v0)
    (hC : Calls Tryd.prog 38 #[v0] w fun e w' => ∃ r, e = .returned r ∧ P r w') (hk : ∀ r w', P r w' → K (a.put o.dst r) w') : if Region.wanted o (yielded ops a.tmps) = true then Oper.wp Tryd.prog o a w K Q else E := by
  rw [if_pos hw]
  unfold Oper.wp
  unfold execOp
  rw [ho]
  go_simp
  refine hC.mono ?_
  rintro e w' ⟨r, rfl, hp⟩
  exact hk r w' hp
theorem step_spec_Sealed {w : World} {ops : Array Oper} {o : Oper} {a : Act} {K : Act → World → Prop} {Q : Exit → Act → World → Prop} {E : Prop} (hw : Region.wanted o (yielded ops a.tmps) = true) (i0 : Nat) (ts : Array TypeId) (ho : o.op = .call { callee := .value (.func 33), args := #[.tmp i0], argTypes := ts }) (v0 : Value) (P : Value → World → Prop) (h0 : a.tmps[i0]?.getD undef = v0)
    (hC : Calls Tryd.prog 33 #[v0] w fun e w' => ∃ r, e = .returned r ∧ P r w') (hk : ∀ r w', P r w' → K (a.put o.dst r) w') : if Region.wanted o (yielded ops a.tmps) = true then Oper.wp Tryd.prog o a w K Q else E := by
  rw [if_pos hw]
  unfold Oper.wp
  unfold execOp
  rw [ho]
  go_simp
  refine hC.mono ?_
  rintro e w' ⟨r, rfl, hp⟩
  exact hk r w' hp

set_option maxRecDepth 100000 in
set_option maxHeartbeats 2000000 in
theorem sLetterText_any (x : Ltr) (w : World) (hr : x.r.size ≤ 1048576) :
    Calls Tryd.prog 17 #[.agg #[.int .i64 x.k, .int .i64 x.f, .int .i64 x.t, .int .i64 x.e, .int .i64 x.y, .string x.r]] w fun e w' => e = .returned (.tuple #[.string (VV.text x), .bool (VV.ok x)]) ∧ Below w.heap.size w w' := by
  have HC : Hid (∀ W, Calls Tryd.prog 10 #[.agg #[.int .i64 x.k, .int .i64 x.f, .int .i64 x.t, .int .i64 x.e, .int .i64 x.y, .string x.r]] W fun e w' => e = .returned (.bool (VV.ok x)) ∧ Below W.heap.size W w') := fun W => sLetterOk_any x W hr
  have HW : Hid (RKc (w.alloc (.cells #[.int .i64 x.k, .int .i64 x.f, .int .i64 x.t, .int .i64 x.e, .int .i64 x.y, .string x.r] 25)) w.heap.size x ∧ Below w.heap.size w (w.alloc (.cells #[.int .i64 x.k, .int .i64 x.f, .int .i64 x.t, .int .i64 x.e, .int .i64 x.y, .string x.r] 25))) := ⟨⟨range_new w (kcs x) _, by simp⟩, (Below.refl _ _).alloc (Nat.le_refl _) _⟩
  unfold VV.text
  cases hk : VV.ok x
  · rw [hk] at HC
    rw [if_neg (by simp)]
    obtain ⟨k, f, t, e, y, r⟩ := x
    clear hk
    go_enter Tryd.func17, Tryd.ntmps17
    go_wp2_with fail
    refine (HC.out _).mono ?_
    rintro e1 w1 ⟨rfl, hb1⟩
    have HB1 := HW.out.2.trans (hb1.mono HW.out.2.size)
    clear hb1
    go_wp2
    go_ret2
    exact ⟨rfl, HB1⟩
  · rw [hk] at HC
    rw [if_pos rfl]
    obtain ⟨b1, b2, b3, b4, b5, b6⟩ := VV.ok_bounds hk
    have hz := VV.lB_size b6
    have HTT : Hid (∀ W, Calls Tryd.prog 33 #[.string (VV.lB x)] W fun e w' => e = .returned (.tuple #[.string (sealedB (VV.lB x)), .bool true]) ∧ Below W.heap.size W w') := fun W => sSealed_yes (VV.lB x) W (by omega)
    have HV : Hid (∀ W, Calls Tryd.prog 38 #[.int .i64 x.y] W fun e w' => e = .returned (.string (varB x.y.toNat)) ∧ Below W.heap.size W w') := fun W => by
      obtain ⟨n, hn⟩ := Int.eq_ofNat_of_zero_le (show 0 ≤ x.y by omega)
      rw [hn]
      exact l01Var_any n W (by omega)
    have hvz : (varB x.y.toNat).size ≤ 10 := varA_size _
    have hLB : VV.lB x = ⟨(VV.four x).toArray⟩ ++ varB x.y.toNat ++ x.r := by
      apply ByteArray.ext
      apply Array.toList_inj.1
      simp [VV.lB, VV.ltL, varB, ByteArray.data_append]
    have h4z : (⟨(VV.four x).toArray⟩ : ByteArray).size = 4 := rfl
    obtain ⟨k0, hk0⟩ : ∃ b, UInt8.ofNat x.k.toNat = b := ⟨_, rfl⟩
    obtain ⟨k1, hk1⟩ : ∃ b, UInt8.ofNat x.f.toNat = b := ⟨_, rfl⟩
    obtain ⟨k2, hk2⟩ : ∃ b, UInt8.ofNat x.t.toNat = b := ⟨_, rfl⟩
    obtain ⟨k3, hk3⟩ : ∃ b, UInt8.ofNat x.e.toNat = b := ⟨_, rfl⟩
    have e0 : x.k = (k0.toNat : Int) := by rw [← hk0]; exact byteV x.k _ (by omega) (by omega)
    have e1 : x.f = (k1.toNat : Int) := by rw [← hk1]; exact byteV x.f _ (by omega) (by omega)
    have e2 : x.t = (k2.toNat : Int) := by rw [← hk2]; exact byteV x.t _ (by omega) (by omega)
    have e3 : x.e = (k3.toNat : Int) := by rw [← hk3]; exact byteV x.e _ (by omega) (by omega)
    have hF : VV.four x = [k0, k1, k2, k3] := by unfold VV.four; rw [hk0, hk1, hk2, hk3]
    rw [hF] at hLB h4z
    obtain ⟨S4, HS4h⟩ : ∃ S, (⟨[k0, k1, k2, k3].toArray⟩ : ByteArray) = S := ⟨_, rfl⟩
    rw [HS4h] at hLB h4z
    clear hk0 hk1 hk2 hk3 hk hF
    generalize VV.lB x = LB at *
    generalize sealedB LB = SB at *
    obtain ⟨k, f, t, e, y, r⟩ := x
    simp only at *
    generalize varB y.toNat = VB at *
    subst e0 e1 e2 e3
    have HLB : Hid (LB = S4 ++ VB ++ r) := hLB
    clear hLB b1 b2 b3 b4 b5
    go_enter Tryd.func17, Tryd.ntmps17
    go_wp2_with fail
    refine (HC.out _).mono ?_
    rintro e1 w1 ⟨rfl, hb1⟩
    have HW1 : Hid (RKc w1 w.heap.size ⟨(k0.toNat : Int), (k1.toNat : Int), (k2.toNat : Int), (k3.toNat : Int), y, r⟩ ∧ Below w.heap.size w w1) := ⟨⟨range_kept HW.out.1.1 (hb1.block _ HW.out.1.2), Nat.lt_of_lt_of_le HW.out.1.2 hb1.size⟩, HW.out.2.trans (hb1.mono HW.out.2.size)⟩
    clear hb1 HW HC
    have z0 := HW1.out.1.c0
    have z1 := HW1.out.1.c1
    have z2 := HW1.out.1.c2
    have z3 := HW1.out.1.c3
    have z4 := HW1.out.1.c4
    have z5 := HW1.out.1.c5
    simp only at z0 z1 z2 z3 z4 z5
    have HS4 : Hid ((⟨[k0, k1, k2, k3].toArray⟩ : ByteArray) = S4) := HS4h
    have HV1 : Hid (∀ W, Calls Tryd.prog 38 #[.int .i64 y] W fun e w' => ∃ r, e = .returned r ∧ (r = .string VB ∧ Below W.heap.size W w')) := fun W => Calls.ret1 (HV.out W)
    have HTT1 : Hid (∀ W, Calls Tryd.prog 33 #[.string (S4 ++ VB ++ r)] W fun e w' => ∃ r, e = .returned r ∧ (r = .tuple #[.string SB, .bool true] ∧ Below W.heap.size W w')) := fun W => Calls.ret1 (by rw [← HLB.out]; exact HTT.out W)
    have HSS : Hid (∀ W, Below w1.heap.size w1 W → W.rangeAt w.heap.size 0 (kcs ⟨(k0.toNat : Int), (k1.toNat : Int), (k2.toNat : Int), (k3.toNat : Int), y, r⟩)) := fun W hW => range_kept HW1.out.1.1 (hW.block _ HW1.out.1.2)
    have hb0 : Below w1.heap.size w1 w1.drew := (Below.refl _ _).drew
    have hs1 : 4 + VB.size ≤ 9223372036854775807 := by omega
    have hs2 : 4 + VB.size + r.size ≤ 9223372036854775807 := by omega
    have hu : ∀ b : UInt8, IntKind.u8.wrap (b.toNat : Int) = (b.toNat : Int) := fun b => by
      have h1 : IntKind.u8.wrap (b.toNat : Int) = (b.toNat : Int) % 256 := rfl
      have h2 := b.toNat_lt
      omega
    have q0 := hu k0
    have q1 := hu k1
    have q2 := hu k2
    have q3 := hu k3
    clear hu
    clear HV HTT HLB hz hr z0 z1 z2 z3 z4 z5
    go_wp2_with fail
    refine wp_abs (fun a => FR 31 a [(1, .pointer (some ⟨w.heap.size, 0, none⟩))]) ⟨rfl, rfl, fun p hp => by simp only [List.mem_cons, List.not_mem_nil, or_false] at hp; subst hp; rfl⟩ (fun a F => ?_)
    refine wp_region_held_drew (S := fun W => W.rangeAt w.heap.size 0 (kcs ⟨(k0.toNat : Int), (k1.toNat : Int), (k2.toNat : Int), (k3.toNat : Int), y, r⟩)) (by kernel_rfl) (HSS.out _ hb0) (fun hH => ?_)
    have r1 := F.get 1 (.pointer (some ⟨w.heap.size, 0, none⟩)) (by simp)
    refine takeF (i := 0) (v := .pointer (some ⟨w.heap.size, 0, none⟩)) rfl (by kernel_rfl) (by kernel_rfl) (by kernel_rfl) (fun _ _ _ h => h) (Or.inl ⟨by rfl, fun w hw => by go_simp⟩) hH 7 rfl F (by decide) (by simp) (fun a F => ?_)
    clear r1
    have r7 := F.get 7 (.pointer (some ⟨w.heap.size, 0, none⟩)) (by simp)
    refine takeF (i := 1) (v := .int .i64 (k0.toNat : Int)) rfl (by kernel_rfl) (by kernel_rfl) (by kernel_rfl) (fun _ _ _ h => h) (Or.inl ⟨by rfl, fun w hw => by have hw2 := hw 0 _ rfl; simp only [Nat.zero_add] at hw2; go_simp⟩) hH 8 rfl F (by decide) (by simp) (fun a F => ?_)
    clear r7
    have r8 := F.get 8 (.int .i64 (k0.toNat : Int)) (by simp)
    refine takeF (i := 2) (v := .int .u8 (k0.toNat : Int)) rfl (by kernel_rfl) (by kernel_rfl) (by kernel_rfl) (fun _ _ _ h => h) (Or.inl ⟨by rfl, fun w hw => by go_simp⟩) hH 9 rfl F (by decide) (by simp) (fun a F => ?_)
    clear r8
    have r1 := F.get 1 (.pointer (some ⟨w.heap.size, 0, none⟩)) (by simp)
    refine takeF (i := 3) (v := .pointer (some ⟨w.heap.size, 1, none⟩)) rfl (by kernel_rfl) (by kernel_rfl) (by kernel_rfl) (fun _ _ _ h => h) (Or.inl ⟨by rfl, fun w hw => by go_simp⟩) hH 10 rfl F (by decide) (by simp) (fun a F => ?_)
    clear r1
    have r10 := F.get 10 (.pointer (some ⟨w.heap.size, 1, none⟩)) (by simp)
    refine takeF (i := 4) (v := .int .i64 (k1.toNat : Int)) rfl (by kernel_rfl) (by kernel_rfl) (by kernel_rfl) (fun _ _ _ h => h) (Or.inl ⟨by rfl, fun w hw => by have hw2 := hw 1 _ rfl; simp only [Nat.zero_add] at hw2; go_simp⟩) hH 11 rfl F (by decide) (by simp) (fun a F => ?_)
    clear r10
    have r11 := F.get 11 (.int .i64 (k1.toNat : Int)) (by simp)
    refine takeF (i := 5) (v := .int .u8 (k1.toNat : Int)) rfl (by kernel_rfl) (by kernel_rfl) (by kernel_rfl) (fun _ _ _ h => h) (Or.inl ⟨by rfl, fun w hw => by go_simp⟩) hH 12 rfl F (by decide) (by simp) (fun a F => ?_)
    clear r11
    have r1 := F.get 1 (.pointer (some ⟨w.heap.size, 0, none⟩)) (by simp)
    refine takeF (i := 6) (v := .pointer (some ⟨w.heap.size, 2, none⟩)) rfl (by kernel_rfl) (by kernel_rfl) (by kernel_rfl) (fun _ _ _ h => h) (Or.inl ⟨by rfl, fun w hw => by go_simp⟩) hH 13 rfl F (by decide) (by simp) (fun a F => ?_)
    clear r1
    have r13 := F.get 13 (.pointer (some ⟨w.heap.size, 2, none⟩)) (by simp)
    refine takeF (i := 7) (v := .int .i64 (k2.toNat : Int)) rfl (by kernel_rfl) (by kernel_rfl) (by kernel_rfl) (fun _ _ _ h => h) (Or.inl ⟨by rfl, fun w hw => by have hw2 := hw 2 _ rfl; simp only [Nat.zero_add] at hw2; go_simp⟩) hH 14 rfl F (by decide) (by simp) (fun a F => ?_)
    clear r13
    have r14 := F.get 14 (.int .i64 (k2.toNat : Int)) (by simp)
    refine takeF (i := 8) (v := .int .u8 (k2.toNat : Int)) rfl (by kernel_rfl) (by kernel_rfl) (by kernel_rfl) (fun _ _ _ h => h) (Or.inl ⟨by rfl, fun w hw => by go_simp⟩) hH 15 rfl F (by decide) (by simp) (fun a F => ?_)
    clear r14
    have r1 := F.get 1 (.pointer (some ⟨w.heap.size, 0, none⟩)) (by simp)
    refine takeF (i := 9) (v := .pointer (some ⟨w.heap.size, 3, none⟩)) rfl (by kernel_rfl) (by kernel_rfl) (by kernel_rfl) (fun _ _ _ h => h) (Or.inl ⟨by rfl, fun w hw => by go_simp⟩) hH 16 rfl F (by decide) (by simp) (fun a F => ?_)
    clear r1
    have r16 := F.get 16 (.pointer (some ⟨w.heap.size, 3, none⟩)) (by simp)
    refine takeF (i := 10) (v := .int .i64 (k3.toNat : Int)) rfl (by kernel_rfl) (by kernel_rfl) (by kernel_rfl) (fun _ _ _ h => h) (Or.inl ⟨by rfl, fun w hw => by have hw2 := hw 3 _ rfl; simp only [Nat.zero_add] at hw2; go_simp⟩) hH 17 rfl F (by decide) (by simp) (fun a F => ?_)
    clear r16
    have r17 := F.get 17 (.int .i64 (k3.toNat : Int)) (by simp)
    refine takeF (i := 11) (v := .int .u8 (k3.toNat : Int)) rfl (by kernel_rfl) (by kernel_rfl) (by kernel_rfl) (fun _ _ _ h => h) (Or.inl ⟨by rfl, fun w hw => by go_simp⟩) hH 18 rfl F (by decide) (by simp) (fun a F => ?_)
    clear r17
    have r1 := F.get 1 (.pointer (some ⟨w.heap.size, 0, none⟩)) (by simp)
    refine takeF (i := 14) (v := .pointer (some ⟨w.heap.size, 4, none⟩)) rfl (by kernel_rfl) (by kernel_rfl) (by kernel_rfl) (fun _ _ _ h => h) (Or.inl ⟨by rfl, fun w hw => by go_simp⟩) hH 21 rfl F (by decide) (by simp) (fun a F => ?_)
    clear r1
    have r21 := F.get 21 (.pointer (some ⟨w.heap.size, 4, none⟩)) (by simp)
    refine takeF (i := 15) (v := .int .i64 y) rfl (by kernel_rfl) (by kernel_rfl) (by kernel_rfl) (fun _ _ _ h => h) (Or.inl ⟨by rfl, fun w hw => by have hw2 := hw 4 _ rfl; simp only [Nat.zero_add] at hw2; go_simp⟩) hH 22 rfl F (by decide) (by simp) (fun a F => ?_)
    clear r21
    have r1 := F.get 1 (.pointer (some ⟨w.heap.size, 0, none⟩)) (by simp)
    refine takeF (i := 18) (v := .pointer (some ⟨w.heap.size, 5, none⟩)) rfl (by kernel_rfl) (by kernel_rfl) (by kernel_rfl) (fun _ _ _ h => h) (Or.inl ⟨by rfl, fun w hw => by go_simp⟩) hH 25 rfl F (by decide) (by simp) (fun a F => ?_)
    clear r1
    have r25 := F.get 25 (.pointer (some ⟨w.heap.size, 5, none⟩)) (by simp)
    refine takeF (i := 19) (v := .string r) rfl (by kernel_rfl) (by kernel_rfl) (by kernel_rfl) (fun _ _ _ h => h) (Or.inl ⟨by rfl, fun w hw => by have hw2 := hw 5 _ rfl; simp only [Nat.zero_add] at hw2; go_simp⟩) hH 26 rfl F (by decide) (by simp) (fun a F => ?_)
    clear r25
    refine wpAnyH_ready (rs := [12, 16]) (by kernel_rfl) (by simp) ?_
    refine AllReadyH.cons rfl (fun K' hK' => ?_) (AllReadyH.cons rfl (fun K' hK' => ?_) AllReadyH.nil)
    · refine step_four (by rfl) 9 12 15 18 rfl k0 k1 k2 k3 (F.get 9 _ (by simp)) (F.get 12 _ (by simp)) (F.get 15 _ (by simp)) (F.get 18 _ (by simp)) ?_
      rintro xw1 n1 hx1 kb1
      have hb1 := hb0.trans (kb1.mono hb0.size)
      refine openK (v := .slice (some ⟨n1, 0, none⟩) 4 4) 19 rfl F (by decide) (by simp) (fun a F => ?_)
      refine hK'.out _ _ (HSS.out _ hb1) (fun hH => ?_)
      refine wpAnyH_ready (rs := [13, 16]) (by kernel_rfl) (by simp) ?_
      refine AllReadyH.cons rfl (fun K' hK' => ?_) (AllReadyH.cons rfl (fun K' hK' => ?_) AllReadyH.nil)
      · refine step_conv4 (by rfl) 19 rfl k0 k1 k2 k3 n1 S4 HS4.out hx1 (F.get 19 _ (by simp)) ?_
        refine openK (v := .string S4) 20 rfl F (by decide) (by simp) (fun a F => ?_)
        refine hK'.out _ _ (HSS.out _ hb1) (fun hH => ?_)
        refine wpAnyH_ready (rs := [16]) (by kernel_rfl) (by simp) ?_
        refine AllReadyH.cons rfl (fun K' hK' => ?_) AllReadyH.nil
        refine step_spec_l01Var (by rfl) 22 _ rfl _ _ (F.get 22 _ (by simp)) (HV1.out _) ?_
        rintro rv3 xw3 ⟨rfl, kb3⟩
        have hb3 := hb1.trans (kb3.mono hb1.size)
        have hx3 := hx1.later kb3
        refine openK (v := .string VB) 23 rfl F (by decide) (by simp) (fun a F => ?_)
        refine hK'.out _ _ (HSS.out _ hb3) (fun hH => ?_)
        have r20 := F.get 20 (.string S4) (by simp)
        have r23 := F.get 23 (.string VB) (by simp)
        refine takeF (i := 17) (v := .string (S4 ++ VB)) rfl (by kernel_rfl) (by kernel_rfl) (by kernel_rfl) (fun _ _ _ h => h) (Or.inl ⟨by rfl, fun w hw => by go_simp⟩) hH 24 rfl F (by decide) (by simp) (fun a F => ?_)
        clear r20 r23
        have r24 := F.get 24 (.string (S4 ++ VB)) (by simp)
        have r26 := F.get 26 (.string r) (by simp)
        refine takeF (i := 20) (v := .string (S4 ++ VB ++ r)) rfl (by kernel_rfl) (by kernel_rfl) (by kernel_rfl) (fun _ _ _ h => h) (Or.inl ⟨by rfl, fun w hw => by go_simp⟩) hH 27 rfl F (by decide) (by simp) (fun a F => ?_)
        clear r24 r26
        refine wpAnyH_ready (rs := [21]) (by kernel_rfl) (by simp) ?_
        refine AllReadyH.cons rfl (fun K' hK' => ?_) AllReadyH.nil
        refine step_spec_Sealed (by rfl) 27 _ rfl _ _ (F.get 27 _ (by simp)) (HTT1.out _) ?_
        rintro rv4 xw4 ⟨rfl, kb4⟩
        have hb4 := hb3.trans (kb4.mono hb3.size)
        have hx4 := hx3.later kb4
        refine openK (v := .tuple #[.string SB, .bool true]) 28 rfl F (by decide) (by simp) (fun a F => ?_)
        refine hK'.out _ _ (HSS.out _ hb4) (fun hH => ?_)
        have r28 := F.get 28 (.tuple #[.string SB, .bool true]) (by simp)
        refine takeF (i := 22) (v := .string SB) rfl (by kernel_rfl) (by kernel_rfl) (by kernel_rfl) (fun _ _ _ h => h) (Or.inl ⟨by rfl, fun w hw => by go_simp⟩) hH 29 rfl F (by decide) (by simp) (fun a F => ?_)
        clear r28
        have r28 := F.get 28 (.tuple #[.string SB, .bool true]) (by simp)
        refine takeF (i := 23) (v := .bool true) rfl (by kernel_rfl) (by kernel_rfl) (by kernel_rfl) (fun _ _ _ h => h) (Or.inl ⟨by rfl, fun w hw => by go_simp⟩) hH 30 rfl F (by decide) (by simp) (fun a F => ?_)
        clear r28
        have r29 := F.get 29 (.string SB) (by simp)
        refine takeF (i := 24) (v := .string SB) rfl (by kernel_rfl) (by kernel_rfl) (by kernel_rfl) (fun _ _ _ h => h) (Or.inl ⟨by rfl, fun w hw => by go_simp⟩) hH 2 rfl F (by decide) (by simp) (fun a F => ?_)
        clear r29
        have r30 := F.get 30 (.bool true) (by simp)
        refine takeF (i := 25) (v := .bool true) rfl (by kernel_rfl) (by kernel_rfl) (by kernel_rfl) (fun _ _ _ h => h) (Or.inl ⟨by rfl, fun w hw => by go_simp⟩) hH 3 rfl F (by decide) (by simp) (fun a F => ?_)
        clear r30
        refine wpAnyH_done (by kernel_rfl) ?_ _
        have hend := HW1.out.2.trans (hb4.mono HW1.out.2.size)
        have hd := F.2.1
        have e2 : a.tmps[2]?.getD undef = .string SB := F.get 2 _ (by simp)
        have e3 : a.tmps[3]?.getD undef = .bool true := F.get 3 _ (by simp)
        clear HV1 HTT1 HSS HS4 HW1 hH F
        go_wp2
        exact ret_tmpF2 2 3 _ _ rfl hd e2 e3 ⟨rfl, hend⟩
      · refine step_spec_l01Var (by rfl) 22 _ rfl _ _ (F.get 22 _ (by simp)) (HV1.out _) ?_
        rintro rv5 xw5 ⟨rfl, kb5⟩
        have hb5 := hb1.trans (kb5.mono hb1.size)
        have hx5 := hx1.later kb5
        refine openK (v := .string VB) 23 rfl F (by decide) (by simp) (fun a F => ?_)
        refine hK'.out _ _ (HSS.out _ hb5) (fun hH => ?_)
        refine wpAnyH_ready (rs := [13]) (by kernel_rfl) (by simp) ?_
        refine AllReadyH.cons rfl (fun K' hK' => ?_) AllReadyH.nil
        refine step_conv4 (by rfl) 19 rfl k0 k1 k2 k3 n1 S4 HS4.out hx5 (F.get 19 _ (by simp)) ?_
        refine openK (v := .string S4) 20 rfl F (by decide) (by simp) (fun a F => ?_)
        refine hK'.out _ _ (HSS.out _ hb5) (fun hH => ?_)
        have r20 := F.get 20 (.string S4) (by simp)
        have r23 := F.get 23 (.string VB) (by simp)
        refine takeF (i := 17) (v := .string (S4 ++ VB)) rfl (by kernel_rfl) (by kernel_rfl) (by kernel_rfl) (fun _ _ _ h => h) (Or.inl ⟨by rfl, fun w hw => by go_simp⟩) hH 24 rfl F (by decide) (by simp) (fun a F => ?_)
        clear r20 r23
        have r24 := F.get 24 (.string (S4 ++ VB)) (by simp)
        have r26 := F.get 26 (.string r) (by simp)
        refine takeF (i := 20) (v := .string (S4 ++ VB ++ r)) rfl (by kernel_rfl) (by kernel_rfl) (by kernel_rfl) (fun _ _ _ h => h) (Or.inl ⟨by rfl, fun w hw => by go_simp⟩) hH 27 rfl F (by decide) (by simp) (fun a F => ?_)
        clear r24 r26
        refine wpAnyH_ready (rs := [21]) (by kernel_rfl) (by simp) ?_
        refine AllReadyH.cons rfl (fun K' hK' => ?_) AllReadyH.nil
        refine step_spec_Sealed (by rfl) 27 _ rfl _ _ (F.get 27 _ (by simp)) (HTT1.out _) ?_
        rintro rv7 xw7 ⟨rfl, kb7⟩
        have hb7 := hb5.trans (kb7.mono hb5.size)
        have hx7 := hx5.later kb7
        refine openK (v := .tuple #[.string SB, .bool true]) 28 rfl F (by decide) (by simp) (fun a F => ?_)
        refine hK'.out _ _ (HSS.out _ hb7) (fun hH => ?_)
        have r28 := F.get 28 (.tuple #[.string SB, .bool true]) (by simp)
        refine takeF (i := 22) (v := .string SB) rfl (by kernel_rfl) (by kernel_rfl) (by kernel_rfl) (fun _ _ _ h => h) (Or.inl ⟨by rfl, fun w hw => by go_simp⟩) hH 29 rfl F (by decide) (by simp) (fun a F => ?_)
        clear r28
        have r28 := F.get 28 (.tuple #[.string SB, .bool true]) (by simp)
        refine takeF (i := 23) (v := .bool true) rfl (by kernel_rfl) (by kernel_rfl) (by kernel_rfl) (fun _ _ _ h => h) (Or.inl ⟨by rfl, fun w hw => by go_simp⟩) hH 30 rfl F (by decide) (by simp) (fun a F => ?_)
        clear r28
        have r29 := F.get 29 (.string SB) (by simp)
        refine takeF (i := 24) (v := .string SB) rfl (by kernel_rfl) (by kernel_rfl) (by kernel_rfl) (fun _ _ _ h => h) (Or.inl ⟨by rfl, fun w hw => by go_simp⟩) hH 2 rfl F (by decide) (by simp) (fun a F => ?_)
        clear r29
        have r30 := F.get 30 (.bool true) (by simp)
        refine takeF (i := 25) (v := .bool true) rfl (by kernel_rfl) (by kernel_rfl) (by kernel_rfl) (fun _ _ _ h => h) (Or.inl ⟨by rfl, fun w hw => by go_simp⟩) hH 3 rfl F (by decide) (by simp) (fun a F => ?_)
        clear r30
        refine wpAnyH_done (by kernel_rfl) ?_ _
        have hend := HW1.out.2.trans (hb7.mono HW1.out.2.size)
        have hd := F.2.1
        have e2 : a.tmps[2]?.getD undef = .string SB := F.get 2 _ (by simp)
        have e3 : a.tmps[3]?.getD undef = .bool true := F.get 3 _ (by simp)
        clear HV1 HTT1 HSS HS4 HW1 hH F
        go_wp2
        exact ret_tmpF2 2 3 _ _ rfl hd e2 e3 ⟨rfl, hend⟩
    · refine step_spec_l01Var (by rfl) 22 _ rfl _ _ (F.get 22 _ (by simp)) (HV1.out _) ?_
      rintro rv8 xw8 ⟨rfl, kb8⟩
      have hb8 := hb0.trans (kb8.mono hb0.size)
      refine openK (v := .string VB) 23 rfl F (by decide) (by simp) (fun a F => ?_)
      refine hK'.out _ _ (HSS.out _ hb8) (fun hH => ?_)
      refine wpAnyH_ready (rs := [12]) (by kernel_rfl) (by simp) ?_
      refine AllReadyH.cons rfl (fun K' hK' => ?_) AllReadyH.nil
      refine step_four (by rfl) 9 12 15 18 rfl k0 k1 k2 k3 (F.get 9 _ (by simp)) (F.get 12 _ (by simp)) (F.get 15 _ (by simp)) (F.get 18 _ (by simp)) ?_
      rintro xw9 n9 hx9 kb9
      have hb9 := hb8.trans (kb9.mono hb8.size)
      refine openK (v := .slice (some ⟨n9, 0, none⟩) 4 4) 19 rfl F (by decide) (by simp) (fun a F => ?_)
      refine hK'.out _ _ (HSS.out _ hb9) (fun hH => ?_)
      refine wpAnyH_ready (rs := [13]) (by kernel_rfl) (by simp) ?_
      refine AllReadyH.cons rfl (fun K' hK' => ?_) AllReadyH.nil
      refine step_conv4 (by rfl) 19 rfl k0 k1 k2 k3 n9 S4 HS4.out hx9 (F.get 19 _ (by simp)) ?_
      refine openK (v := .string S4) 20 rfl F (by decide) (by simp) (fun a F => ?_)
      refine hK'.out _ _ (HSS.out _ hb9) (fun hH => ?_)
      have r20 := F.get 20 (.string S4) (by simp)
      have r23 := F.get 23 (.string VB) (by simp)
      refine takeF (i := 17) (v := .string (S4 ++ VB)) rfl (by kernel_rfl) (by kernel_rfl) (by kernel_rfl) (fun _ _ _ h => h) (Or.inl ⟨by rfl, fun w hw => by go_simp⟩) hH 24 rfl F (by decide) (by simp) (fun a F => ?_)
      clear r20 r23
      have r24 := F.get 24 (.string (S4 ++ VB)) (by simp)
      have r26 := F.get 26 (.string r) (by simp)
      refine takeF (i := 20) (v := .string (S4 ++ VB ++ r)) rfl (by kernel_rfl) (by kernel_rfl) (by kernel_rfl) (fun _ _ _ h => h) (Or.inl ⟨by rfl, fun w hw => by go_simp⟩) hH 27 rfl F (by decide) (by simp) (fun a F => ?_)
      clear r24 r26
      refine wpAnyH_ready (rs := [21]) (by kernel_rfl) (by simp) ?_
      refine AllReadyH.cons rfl (fun K' hK' => ?_) AllReadyH.nil
      refine step_spec_Sealed (by rfl) 27 _ rfl _ _ (F.get 27 _ (by simp)) (HTT1.out _) ?_
      rintro rv11 xw11 ⟨rfl, kb11⟩
      have hb11 := hb9.trans (kb11.mono hb9.size)
      have hx11 := hx9.later kb11
      refine openK (v := .tuple #[.string SB, .bool true]) 28 rfl F (by decide) (by simp) (fun a F => ?_)
      refine hK'.out _ _ (HSS.out _ hb11) (fun hH => ?_)
      have r28 := F.get 28 (.tuple #[.string SB, .bool true]) (by simp)
      refine takeF (i := 22) (v := .string SB) rfl (by kernel_rfl) (by kernel_rfl) (by kernel_rfl) (fun _ _ _ h => h) (Or.inl ⟨by rfl, fun w hw => by go_simp⟩) hH 29 rfl F (by decide) (by simp) (fun a F => ?_)
      clear r28
      have r28 := F.get 28 (.tuple #[.string SB, .bool true]) (by simp)
      refine takeF (i := 23) (v := .bool true) rfl (by kernel_rfl) (by kernel_rfl) (by kernel_rfl) (fun _ _ _ h => h) (Or.inl ⟨by rfl, fun w hw => by go_simp⟩) hH 30 rfl F (by decide) (by simp) (fun a F => ?_)
      clear r28
      have r29 := F.get 29 (.string SB) (by simp)
      refine takeF (i := 24) (v := .string SB) rfl (by kernel_rfl) (by kernel_rfl) (by kernel_rfl) (fun _ _ _ h => h) (Or.inl ⟨by rfl, fun w hw => by go_simp⟩) hH 2 rfl F (by decide) (by simp) (fun a F => ?_)
      clear r29
      have r30 := F.get 30 (.bool true) (by simp)
      refine takeF (i := 25) (v := .bool true) rfl (by kernel_rfl) (by kernel_rfl) (by kernel_rfl) (fun _ _ _ h => h) (Or.inl ⟨by rfl, fun w hw => by go_simp⟩) hH 3 rfl F (by decide) (by simp) (fun a F => ?_)
      clear r30
      refine wpAnyH_done (by kernel_rfl) ?_ _
      have hend := HW1.out.2.trans (hb11.mono HW1.out.2.size)
      have hd := F.2.1
      have e2 : a.tmps[2]?.getD undef = .string SB := F.get 2 _ (by simp)
      have e3 : a.tmps[3]?.getD undef = .bool true := F.get 3 _ (by simp)
      clear HV1 HTT1 HSS HS4 HW1 hH F
      go_wp2
      exact ret_tmpF2 2 3 _ _ rfl hd e2 e3 ⟨rfl, hend⟩

end Go.Proofs.YtodibhiinfbhiaaDoor
