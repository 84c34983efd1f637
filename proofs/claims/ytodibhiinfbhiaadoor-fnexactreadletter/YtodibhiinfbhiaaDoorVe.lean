/-
  The text of a letter: the program's and the specification's answers.
-/
import Derived.Test.YtodibhiinfbhiaaDoorVc
import Derived.Test.YtodibhiinfbhiaaDoorTag
import Derived.Test.YtodibhiinfbhiaaDoorFour
namespace Go.Proofs.YtodibhiinfbhiaaDoor
open Go.RowKit Go.BigFrame Go.Sort
set_option linter.unusedVariables false
set_option linter.unusedSimpArgs false

namespace VV
/-- the four bytes ahead -/
def four (x : Ltr) : List UInt8 := [UInt8.ofNat x.k.toNat, UInt8.ofNat x.f.toNat, UInt8.ofNat x.t.toNat, UInt8.ofNat x.e.toNat]
def ltL (x : Ltr) : List UInt8 := four x ++ M.varL x.y.toNat ++ x.r.data.toList
def lB (x : Ltr) : ByteArray := ⟨(ltL x).toArray⟩
def text (x : Ltr) : ByteArray := if ok x = true then sealedB (lB x) else ⟨#[]⟩
/-- what a right letter's numbers are -/
theorem ok_bounds {x : Ltr} (h : ok x = true) : (1 ≤ x.k ∧ x.k ≤ 5) ∧ (0 ≤ x.f ∧ x.f ≤ 4) ∧ (0 ≤ x.t ∧ x.t ≤ 4) ∧ (1 ≤ x.e ∧ x.e ≤ 4) ∧ (1 ≤ x.y ∧ x.y ≤ 1000) ∧ x.r.size ≤ 16 := by
  unfold ok at h
  simp only [Bool.and_eq_true, decide_eq_true_eq] at h
  obtain ⟨⟨⟨h1, h2⟩, h3⟩, h4⟩ := h
  unfold way at h1
  have h1 := of_decide_eq_true h1
  refine ⟨by omega, by omega, by omega, h2, h3, ?_⟩
  rw [h4]; unfold rw; split <;> omega
theorem lB_size {x : Ltr} (h : x.r.size ≤ 16) : (lB x).size ≤ 30 := by
  have h1 := M.varL_len x.y.toNat
  have h2 : x.r.data.toList.length = x.r.size := Array.length_toList
  show (ltL x).toArray.size ≤ 30
  simp only [List.size_toArray, ltL, List.length_append]
  have h3 : (four x).length = 4 := rfl
  omega
end VV

theorem byteV (x : Int) (n : Nat) (hx : x = (n : Int)) (h : n ≤ 255) : x = ((UInt8.ofNat n).toNat : Int) := by
  rw [hx]
  simp
  omega
theorem four_row (w : World) (n : Nat) (hn : n = w.heap.size) (b0 b1 b2 b3 : UInt8) : ∀ j u, (bv [b0, b1, b2, b3])[j]? = some u → (w.alloc (.cells #[.int .u8 (b0.toNat : Int), .int .u8 (b1.toNat : Int), .int .u8 (b2.toNat : Int), .int .u8 (b3.toNat : Int)] 5)).cell? ((⟨n, 0, none⟩ : Addr).add j) = some u := by
  subst hn
  intro j u hu
  obtain ⟨hj, rfl⟩ := bv_get _ _ _ hu
  have h0 : j = 0 ∨ j = 1 ∨ j = 2 ∨ j = 3 := by simp at hj; omega
  rcases h0 with rfl | rfl | rfl | rfl <;> simp [Addr.add]

set_option maxRecDepth 100000 in
set_option maxHeartbeats 1000000 in
theorem writeWay_any (x : Ltr) (B : Nat) (w0 w : World) (v : Value) (l : List UInt8) (ho : OB B w0 w v l) (hl : l.length ≤ 1000) (hk : 0 ≤ x.k ∧ x.k ≤ 255) (hf : 0 ≤ x.f ∧ x.f ≤ 255) (ht : 0 ≤ x.t ∧ x.t ≤ 255) (he : 0 ≤ x.e ∧ x.e ≤ 255) :
    Calls Tryd.prog 41 #[.agg #[.int .i64 x.k, .int .i64 x.f, .int .i64 x.t, .int .i64 x.e, .int .i64 x.y, .string x.r], v] w fun e w' => ∃ v', e = .returned v' ∧ OB B w0 w' v' (l ++ VV.four x) := by
  unfold VV.four
  obtain ⟨k, f, t, e, y, r⟩ := x
  simp only at *
  obtain ⟨b0, h0⟩ : ∃ b, UInt8.ofNat k.toNat = b := ⟨_, rfl⟩
  obtain ⟨b1, h1⟩ : ∃ b, UInt8.ofNat f.toNat = b := ⟨_, rfl⟩
  obtain ⟨b2, h2⟩ : ∃ b, UInt8.ofNat t.toNat = b := ⟨_, rfl⟩
  obtain ⟨b3, h3⟩ : ∃ b, UInt8.ofNat e.toNat = b := ⟨_, rfl⟩
  have k0 : k = (b0.toNat : Int) := by rw [← h0]; exact byteV k _ (by omega) (by omega)
  have k1 : f = (b1.toNat : Int) := by rw [← h1]; exact byteV f _ (by omega) (by omega)
  have k2 : t = (b2.toNat : Int) := by rw [← h2]; exact byteV t _ (by omega) (by omega)
  have k3 : e = (b3.toNat : Int) := by rw [← h3]; exact byteV e _ (by omega) (by omega)
  rw [h0, h1, h2, h3]
  clear h0 h1 h2 h3
  subst k0 k1 k2 k3
  have HO : Hid (OB B w0 (w.alloc (.cells #[.int .i64 (b0.toNat : Int), .int .i64 (b1.toNat : Int), .int .i64 (b2.toNat : Int), .int .i64 (b3.toNat : Int), .int .i64 y, .string r] 25)) v l) := ho.alloc _
  clear ho
  go_enter Tryd.func41, Tryd.ntmps41
  go_wp2_with (at_builtin; refine wp_app rfl _ _ rfl B w0 _ l rfl (HO.out.alloc _) ⟨_, 0, none⟩ 4 4 [b0, b1, b2, b3] rfl rfl ?c1 ?c2 ?_)
  case c1 => exact four_row _ _ (by simp) _ _ _ _
  case c2 => omega
  intro v' w1 hown'
  go_wp2
  go_ret
  exact ⟨v', rfl, hown'⟩

set_option maxRecDepth 100000 in
set_option maxHeartbeats 1000000 in
theorem writeTry_any (x : Ltr) (B : Nat) (w0 w : World) (v : Value) (l : List UInt8) (ho : OB B w0 w v l) (hl : l.length ≤ 1000) (hy : 0 ≤ x.y ∧ x.y ≤ 1000000000) :
    Calls Tryd.prog 42 #[.agg #[.int .i64 x.k, .int .i64 x.f, .int .i64 x.t, .int .i64 x.e, .int .i64 x.y, .string x.r], v] w fun e w' => ∃ v', e = .returned v' ∧ OB B w0 w' v' (l ++ M.varL x.y.toNat) := by
  obtain ⟨k, f, t, e, y, r⟩ := x
  simp only at *
  have HO : Hid (OB B w0 (w.alloc (.cells #[.int .i64 k, .int .i64 f, .int .i64 t, .int .i64 e, .int .i64 y, .string r] 25)) v l) := ho.alloc _
  clear ho
  have HV : Hid (∀ W, Calls Tryd.prog 53 #[.int .i64 y] W fun e w' => e = .returned (.tuple #[.string ⟨(M.varL y.toNat).toArray⟩, .bool true]) ∧ Below W.heap.size W w') := fun W => by
    obtain ⟨n, rfl⟩ := Int.eq_ofNat_of_zero_le hy.1
    exact VarText_yes n W (by omega)
  have hz := varA_size y.toNat
  obtain ⟨L, hL⟩ : ∃ L, M.varL y.toNat = L := ⟨_, rfl⟩
  rw [hL] at HV hz ⊢
  clear hL hy
  obtain ⟨T, hT⟩ : ∃ T, (⟨L.toArray⟩ : ByteArray) = T := ⟨_, rfl⟩
  have hTL : T.data.toList = L := by rw [← hT]
  rw [hT] at HV hz
  clear hT
  subst hTL
  go_enter Tryd.func42, Tryd.ntmps42
  go_wp2_with fail
  refine (HV.out _).mono ?_
  rintro e1 w1 ⟨rfl, hb1⟩
  have HO1 : Hid (OB B w0 w1 v l) := HO.out.later hb1
  clear HO hb1 HV
  go_wp2_with (at_builtin; refine wp_appStr rfl _ _ rfl B w0 _ l rfl HO1.out T rfl ?c1 ?_)
  case c1 => omega
  intro v' w2 hown2
  go_wp2
  go_ret
  exact ⟨v', rfl, hown2⟩

set_option maxRecDepth 100000 in
set_option maxHeartbeats 1000000 in
theorem writeRoot_any (x : Ltr) (B : Nat) (w0 w : World) (v : Value) (l : List UInt8) (ho : OB B w0 w v l) (hl : l.length ≤ 1000) (hr : x.r.size ≤ 1000) :
    Calls Tryd.prog 43 #[.agg #[.int .i64 x.k, .int .i64 x.f, .int .i64 x.t, .int .i64 x.e, .int .i64 x.y, .string x.r], v] w fun e w' => ∃ v', e = .returned v' ∧ OB B w0 w' v' (l ++ x.r.data.toList) := by
  obtain ⟨k, f, t, e, y, r⟩ := x
  simp only at *
  have HO : Hid (OB B w0 (w.alloc (.cells #[.int .i64 k, .int .i64 f, .int .i64 t, .int .i64 e, .int .i64 y, .string r] 25)) v l) := ho.alloc _
  clear ho
  go_enter Tryd.func43, Tryd.ntmps43
  go_wp2_with (at_builtin; refine wp_appStr rfl _ _ rfl B w0 _ l rfl HO.out r rfl ?c1 ?_)
  case c1 => omega
  intro v' w2 hown2
  go_wp2
  go_ret
  exact ⟨v', rfl, hown2⟩

/-- three writers of one letter, in a row -/
def WrB (W : World) (n : Nat) (x : Ltr) : Prop := W.heap[n]? = some (.cells #[.func (Fn.func 41) #[.agg #[.int .i64 x.k, .int .i64 x.f, .int .i64 x.t, .int .i64 x.e, .int .i64 x.y, .string x.r]] #[], .func (Fn.func 42) #[.agg #[.int .i64 x.k, .int .i64 x.f, .int .i64 x.t, .int .i64 x.e, .int .i64 x.y, .string x.r]] #[], .func (Fn.func 43) #[.agg #[.int .i64 x.k, .int .i64 x.f, .int .i64 x.t, .int .i64 x.e, .int .i64 x.y, .string x.r]] #[]] 48 (0, 0))
theorem WrB.later {W W' : World} {n : Nat} {x : Ltr} (h : WrB W n x) (hb : Below W.heap.size W W') : WrB W' n x := (hb.block n (Array.getElem?_eq_some_iff.1 h).1).trans h
theorem WrB.lt {W : World} {n : Nat} {x : Ltr} (h : WrB W n x) : n < W.heap.size := (Array.getElem?_eq_some_iff.1 h).1
theorem WrB.c0 {W : World} {n : Nat} {x : Ltr} (h : WrB W n x) : W.cell? ⟨n, 0, none⟩ = some (.func (Fn.func 41) #[.agg #[.int .i64 x.k, .int .i64 x.f, .int .i64 x.t, .int .i64 x.e, .int .i64 x.y, .string x.r]] #[]) := by rw [cell_of_row W n 0 _ _ _ h]; rfl
theorem WrB.c1 {W : World} {n : Nat} {x : Ltr} (h : WrB W n x) : W.cell? ⟨n, 1, none⟩ = some (.func (Fn.func 42) #[.agg #[.int .i64 x.k, .int .i64 x.f, .int .i64 x.t, .int .i64 x.e, .int .i64 x.y, .string x.r]] #[]) := by rw [cell_of_row W n 1 _ _ _ h]; rfl
theorem WrB.c2 {W : World} {n : Nat} {x : Ltr} (h : WrB W n x) : W.cell? ⟨n, 2, none⟩ = some (.func (Fn.func 43) #[.agg #[.int .i64 x.k, .int .i64 x.f, .int .i64 x.t, .int .i64 x.e, .int .i64 x.y, .string x.r]] #[]) := by rw [cell_of_row W n 2 _ _ _ h]; rfl

set_option maxRecDepth 100000 in
set_option maxHeartbeats 1000000 in
theorem writers_any (x : Ltr) (w : World) : Calls Tryd.prog 22 #[.agg #[.int .i64 x.k, .int .i64 x.f, .int .i64 x.t, .int .i64 x.e, .int .i64 x.y, .string x.r]] w fun e w' => ∃ n, e = .returned (.slice (some ⟨n, 0, none⟩) 3 3) ∧ Below w.heap.size w w' ∧ w.heap.size ≤ n ∧ WrB w' n x := by
  obtain ⟨k, f, t, e, y, r⟩ := x
  have HF : Hid (Below w.heap.size w ((w.alloc (.cells #[.int .i64 k, .int .i64 f, .int .i64 t, .int .i64 e, .int .i64 y, .string r] 25)).alloc (.cells #[.func (Fn.func 41) #[.agg #[.int .i64 k, .int .i64 f, .int .i64 t, .int .i64 e, .int .i64 y, .string r]] #[], .func (Fn.func 42) #[.agg #[.int .i64 k, .int .i64 f, .int .i64 t, .int .i64 e, .int .i64 y, .string r]] #[], .func (Fn.func 43) #[.agg #[.int .i64 k, .int .i64 f, .int .i64 t, .int .i64 e, .int .i64 y, .string r]] #[]] 48)) ∧ WrB ((w.alloc (.cells #[.int .i64 k, .int .i64 f, .int .i64 t, .int .i64 e, .int .i64 y, .string r] 25)).alloc (.cells #[.func (Fn.func 41) #[.agg #[.int .i64 k, .int .i64 f, .int .i64 t, .int .i64 e, .int .i64 y, .string r]] #[], .func (Fn.func 42) #[.agg #[.int .i64 k, .int .i64 f, .int .i64 t, .int .i64 e, .int .i64 y, .string r]] #[], .func (Fn.func 43) #[.agg #[.int .i64 k, .int .i64 f, .int .i64 t, .int .i64 e, .int .i64 y, .string r]] #[]] 48)) (w.heap.size + 1) ⟨k, f, t, e, y, r⟩) := ⟨((Below.refl _ _).alloc (Nat.le_refl _) _).alloc (by simp) _, alloc_fst _ _ (by simp)⟩
  go_enter Tryd.func22, Tryd.ntmps22
  go_wp2
  go_ret
  exact ⟨_, rfl, HF.out.1, by omega, HF.out.2⟩

namespace VV
/-- what is written when m writers have written -/
def pre (x : Ltr) : Nat → List UInt8
  | 0 => []
  | 1 => four x
  | 2 => four x ++ M.varL x.y.toNat
  | _ => ltL x
end VV
def LtR (B : Nat) (w0 : World) (n : Nat) (x : Ltr) (v i : Value) (wr : World) : Prop := ∃ m : Nat, m ≤ 3 ∧ i = .int .i64 m ∧ Hid (OB B w0 wr v (VV.pre x m) ∧ WrB wr n x)

set_option maxRecDepth 100000 in
set_option maxHeartbeats 2000000 in
theorem LetterText_any (x : Ltr) (w : World) (hr : x.r.size ≤ 1048576) (hT : Tab w) :
    Calls Tryd.prog 8 #[.agg #[.int .i64 x.k, .int .i64 x.f, .int .i64 x.t, .int .i64 x.e, .int .i64 x.y, .string x.r]] w fun e w' => e = .returned (.tuple #[.string (VV.text x), .bool (VV.ok x)]) ∧ Below w.heap.size w w' := by
  have HC : Hid (∀ W, Calls Tryd.prog 11 #[.agg #[.int .i64 x.k, .int .i64 x.f, .int .i64 x.t, .int .i64 x.e, .int .i64 x.y, .string x.r]] W fun e w' => e = .returned (.bool (VV.ok x)) ∧ Below W.heap.size W w') := fun W => LetterOk_any x W hr
  have HW : Hid (RKc (w.alloc (.cells #[.int .i64 x.k, .int .i64 x.f, .int .i64 x.t, .int .i64 x.e, .int .i64 x.y, .string x.r] 25)) w.heap.size x ∧ Below w.heap.size w (w.alloc (.cells #[.int .i64 x.k, .int .i64 x.f, .int .i64 x.t, .int .i64 x.e, .int .i64 x.y, .string x.r] 25))) := ⟨⟨range_new w (kcs x) _, by simp⟩, (Below.refl _ _).alloc (Nat.le_refl _) _⟩
  unfold VV.text
  cases hk : VV.ok x
  · rw [hk] at HC
    rw [if_neg (by simp)]
    obtain ⟨k, f, t, e, y, r⟩ := x
    clear hk hT
    go_enter Tryd.func8, Tryd.ntmps8
    go_wp2_with fail
    refine (HC.out _).mono ?_
    rintro e1 w1 ⟨rfl, hb1⟩
    have HB1 := HW.out.2.trans (hb1.mono HW.out.2.size)
    clear hb1
    go_wp2
    go_ret2
    exact ⟨rfl, HB1⟩
  · rw [hk] at HC
    rw [if_pos rfl]
    obtain ⟨b1, b2, b3, b4, b5, b6⟩ := VV.ok_bounds hk
    have hz := VV.lB_size b6
    have HWR : Hid (∀ W, Calls Tryd.prog 22 #[.agg #[.int .i64 x.k, .int .i64 x.f, .int .i64 x.t, .int .i64 x.e, .int .i64 x.y, .string x.r]] W fun e w' => ∃ n, e = .returned (.slice (some ⟨n, 0, none⟩) 3 3) ∧ Below W.heap.size W w' ∧ W.heap.size ≤ n ∧ WrB w' n x) := fun W => writers_any x W
    have hlen : ∀ m, (VV.pre x m).length ≤ 100 := by
      intro m
      have h1 := M.varL_len x.y.toNat
      have h2 : x.r.data.toList.length = x.r.size := Array.length_toList
      have h3 : (VV.four x).length = 4 := rfl
      match m with
      | 0 => simp [VV.pre]
      | 1 => simp only [VV.pre]; omega
      | 2 => simp only [VV.pre, List.length_append]; omega
      | m + 3 => simp only [VV.pre, VV.ltL, List.length_append]; omega
    have H0 : Hid (∀ B w0 W v, OB B w0 W v (VV.pre x 0) → Calls Tryd.prog 41 #[.agg #[.int .i64 x.k, .int .i64 x.f, .int .i64 x.t, .int .i64 x.e, .int .i64 x.y, .string x.r], v] W fun e w' => ∃ v', e = .returned v' ∧ OB B w0 w' v' (VV.pre x 1)) := fun B w0 W v h => writeWay_any x B w0 W v [] h (by simp) (by omega) (by omega) (by omega) (by omega)
    have H1 : Hid (∀ B w0 W v, OB B w0 W v (VV.pre x 1) → Calls Tryd.prog 42 #[.agg #[.int .i64 x.k, .int .i64 x.f, .int .i64 x.t, .int .i64 x.e, .int .i64 x.y, .string x.r], v] W fun e w' => ∃ v', e = .returned v' ∧ OB B w0 w' v' (VV.pre x 2)) := fun B w0 W v h => writeTry_any x B w0 W v (VV.pre x 1) h (by have := hlen 1; omega) (by omega)
    have H2 : Hid (∀ B w0 W v, OB B w0 W v (VV.pre x 2) → Calls Tryd.prog 43 #[.agg #[.int .i64 x.k, .int .i64 x.f, .int .i64 x.t, .int .i64 x.e, .int .i64 x.y, .string x.r], v] W fun e w' => ∃ v', e = .returned v' ∧ OB B w0 w' v' (VV.pre x 3)) := fun B w0 W v h => writeRoot_any x B w0 W v (VV.pre x 2) h (by have := hlen 2; omega) (by omega)
    have HTT : Hid (∀ W, Below w.heap.size w W → Calls Tryd.prog 23 #[.string (VV.lB x)] W fun e w' => e = .returned (.tuple #[.string (sealedB (VV.lB x)), .bool true]) ∧ Below W.heap.size W w') := fun W hW => Sealed_yes (VV.lB x) W (by omega) (hT.later hW hT.pos)
    have HLB : Hid ((⟨(VV.pre x 3).toArray⟩ : ByteArray) = VV.lB x) := rfl
    clear hk hT b1 b2 b3 b4 b5 b6 hlen
    generalize VV.lB x = LB at *
    generalize sealedB LB = SB at *
    obtain ⟨k, f, t, e, y, r⟩ := x
    simp only at HC HW HWR H0 H1 H2 ⊢
    go_enter Tryd.func8, Tryd.ntmps8
    go_wp2_with fail
    refine (HC.out _).mono ?_
    rintro e1 w1 ⟨rfl, hb1⟩
    have HW1 : Hid (RKc w1 w.heap.size ⟨k, f, t, e, y, r⟩ ∧ Below w.heap.size w w1) := ⟨⟨range_kept HW.out.1.1 (hb1.block _ HW.out.1.2), Nat.lt_of_lt_of_le HW.out.1.2 hb1.size⟩, HW.out.2.trans (hb1.mono HW.out.2.size)⟩
    clear hb1 HW HC
    have z0 := HW1.out.1.c0
    have z1 := HW1.out.1.c1
    have z2 := HW1.out.1.c2
    have z3 := HW1.out.1.c3
    have z4 := HW1.out.1.c4
    have z5 := HW1.out.1.c5
    simp only at z0 z1 z2 z3 z4 z5
    go_wp2_with fail
    refine (HWR.out _).mono ?_
    rintro e2 w2 ⟨n, rfl, hb2, hn, hwb⟩
    have HB2 : Hid (Below w.heap.size w w2) := HW1.out.2.trans (hb2.mono HW1.out.2.size)
    have HST : Hid (LtR w2.heap.size w2 n ⟨k, f, t, e, y, r⟩ (.slice none 0 0) (.int .i64 0) w2) := ⟨0, by omega, rfl, OB.nil w2, hwb⟩
    have HWB : Hid (WrB w2 n ⟨k, f, t, e, y, r⟩) := hwb
    clear hb2 hn hwb HWR HW1 z0 z1 z2 z3 z4 z5
    clear hr hz
    go_wp2
    go_loopw [4, 13] (fun v i wr => LtR w2.heap.size w2 n ⟨k, f, t, e, y, r⟩ v i wr) (fun _ i _ => 3 - (intOf i).toNat)
    case atStart => exact HST.out
    case round =>
      obtain ⟨m, hm, rfl, HI⟩ := hrel
      clear HST
      rcases (by omega : m = 0 ∨ m = 1 ∨ m = 2 ∨ m = 3) with rfl | rfl | rfl | rfl
      · have cc := HI.out.2.c0
        simp only at cc
        have hcall := H0.out _ _ _ _ HI.out.1
        have hlt := HI.out.2.lt
        go_wp2_with fail
        refine hcall.mono ?_
        rintro e3 w3 ⟨v', rfl, hown⟩
        have HN : Hid (LtR w2.heap.size w2 n ⟨k, f, t, e, y, r⟩ v' (.int .i64 1) w3) := ⟨1, by omega, rfl, hown, HWB.out.later hown.2.1⟩
        clear hown hcall cc hlt HI
        go_wp2
        go_roundw
        case rel => exact HN.out
        case measure => simp [intOf]
      · have cc := HI.out.2.c1
        simp only at cc
        have hcall := H1.out _ _ _ _ HI.out.1
        have hlt := HI.out.2.lt
        go_wp2_with fail
        refine hcall.mono ?_
        rintro e3 w3 ⟨v', rfl, hown⟩
        have HN : Hid (LtR w2.heap.size w2 n ⟨k, f, t, e, y, r⟩ v' (.int .i64 2) w3) := ⟨2, by omega, rfl, hown, HWB.out.later hown.2.1⟩
        clear hown hcall cc hlt HI
        go_wp2
        go_roundw
        case rel => exact HN.out
        case measure => simp [intOf]
      · have cc := HI.out.2.c2
        simp only at cc
        have hcall := H2.out _ _ _ _ HI.out.1
        have hlt := HI.out.2.lt
        go_wp2_with fail
        refine hcall.mono ?_
        rintro e3 w3 ⟨v', rfl, hown⟩
        have HN : Hid (LtR w2.heap.size w2 n ⟨k, f, t, e, y, r⟩ v' (.int .i64 3) w3) := ⟨3, by omega, rfl, hown, HWB.out.later hown.2.1⟩
        clear hown hcall cc hlt HI
        go_wp2
        go_roundw
        case rel => exact HN.out
        case measure => simp [intOf]
      · have hown := HI.out.1
        have hcv := run_str hown
        rw [HLB.out] at hcv
        have HB3 : Hid (Below w.heap.size w wr) := HB2.out.trans (hown.2.1.mono HB2.out.size)
        clear hown HI
        go_wp2_with fail
        refine (HTT.out _ HB3.out).mono ?_
        rintro e4 w4 ⟨rfl, hb4⟩
        have HB4 := HB3.out.trans (hb4.mono HB3.out.size)
        clear hb4 hcv
        go_wp2
        go_ret2
        exact ⟨rfl, HB4⟩

end Go.Proofs.YtodibhiinfbhiaaDoor
