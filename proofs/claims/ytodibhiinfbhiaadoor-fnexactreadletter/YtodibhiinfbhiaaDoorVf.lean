/-
  The text of a letter: the specification's answer.
-/
import Derived.Test.YtodibhiinfbhiaaDoorVe
import Derived.Test.YtodibhiinfbhiaaDoorFro
namespace Go.Proofs.YtodibhiinfbhiaaDoor
open Go.RowKit Go.BigFrame Go.Sort
set_option linter.unusedVariables false
set_option linter.unusedSimpArgs false

/-- four bytes in a box -/
def Bx4 (W : World) (n : Nat) (b0 b1 b2 b3 : UInt8) : Prop := W.heap[n]? = some (.cells #[.int .u8 (b0.toNat : Int), .int .u8 (b1.toNat : Int), .int .u8 (b2.toNat : Int), .int .u8 (b3.toNat : Int)] 5 (0, 0))
theorem Bx4.later {W W' : World} {n : Nat} {b0 b1 b2 b3 : UInt8} (h : Bx4 W n b0 b1 b2 b3) (hb : Below W.heap.size W W') : Bx4 W' n b0 b1 b2 b3 := (hb.block n (Array.getElem?_eq_some_iff.1 h).1).trans h
theorem Bx4.str {W : World} {n : Nat} {b0 b1 b2 b3 : UInt8} (h : Bx4 W n b0 b1 b2 b3) : (convert 22 9 (.slice (some ⟨n, 0, none⟩) 4 4)).run Tryd.prog W = .ok (.string ⟨[b0, b1, b2, b3].toArray⟩) W := by
  refine run_convert_bytes_back (P := Tryd.prog) _ 22 9 5 ⟨n, 0, none⟩ 4 [b0, b1, b2, b3] Tryd.underlying22 Tryd.underlying5 Tryd.underlying9 ?_
  intro j hj
  have h0 : j = 0 ∨ j = 1 ∨ j = 2 ∨ j = 3 := by simp at hj; omega
  rcases h0 with rfl | rfl | rfl | rfl <;> (simp [Addr.add]; rw [cell_of_row W n _ _ _ _ h]; rfl)
theorem step_four {w : World} {ops : Array Oper} {o : Oper} {a : Act} {K : Act → World → Prop} {Q : Exit → Act → World → Prop} {E : Prop} (hw : Region.wanted o (yielded ops a.tmps) = true) (i0 i1 i2 i3 : Nat) (ho : o.op = .buildSlice 22 4 #[(0, .tmp i0), (1, .tmp i1), (2, .tmp i2), (3, .tmp i3)]) (b0 b1 b2 b3 : UInt8)
    (h0 : a.tmps[i0]?.getD undef = .int .u8 (b0.toNat : Int)) (h1 : a.tmps[i1]?.getD undef = .int .u8 (b1.toNat : Int)) (h2 : a.tmps[i2]?.getD undef = .int .u8 (b2.toNat : Int)) (h3 : a.tmps[i3]?.getD undef = .int .u8 (b3.toNat : Int))
    (hk : ∀ w' n, Bx4 w' n b0 b1 b2 b3 → Below w.heap.size w w' → K (a.put o.dst (.slice (some ⟨n, 0, none⟩) 4 4)) w') : if Region.wanted o (yielded ops a.tmps) = true then Oper.wp Tryd.prog o a w K Q else E := by
  rw [if_pos hw]
  have hk2 := hk (w.alloc (.cells #[.int .u8 (b0.toNat : Int), .int .u8 (b1.toNat : Int), .int .u8 (b2.toNat : Int), .int .u8 (b3.toNat : Int)] 5)) w.heap.size (Go.heap_alloc_new w _) ((Below.refl _ _).alloc (Nat.le_refl _) _)
  clear hk
  have ev : ∀ t v, a.tmps[t]?.getD undef = v → a.eval (.tmp t) = v := fun t v h => by
    show a.tmps.getD t undef = v
    rw [Array.getD_eq_getD_getElem?]
    exact h
  unfold Oper.wp
  unfold execOp
  rw [ho]
  have e : (#[(0, .tmp i0), (1, .tmp i1), (2, .tmp i2), (3, .tmp i3)] : Array (Nat × Operand)).map (fun (i, x) => (i, a.eval x)) = #[(0, .int .u8 (b0.toNat : Int)), (1, .int .u8 (b1.toNat : Int)), (2, .int .u8 (b2.toNat : Int)), (3, .int .u8 (b3.toNat : Int))] := by
    simp [ev _ _ h0, ev _ _ h1, ev _ _ h2, ev _ _ h3]
  simp only [e]
  go_simp
  exact hk2
theorem step_conv4 {w : World} {ops : Array Oper} {o : Oper} {a : Act} {K : Act → World → Prop} {Q : Exit → Act → World → Prop} {E : Prop} (hw : Region.wanted o (yielded ops a.tmps) = true) (i : Nat) (ho : o.op = .convert 22 9 (.tmp i)) (b0 b1 b2 b3 : UInt8) (n : Nat) (S : ByteArray) (hS : (⟨[b0, b1, b2, b3].toArray⟩ : ByteArray) = S) (hx : Bx4 w n b0 b1 b2 b3)
    (h0 : a.tmps[i]?.getD undef = .slice (some ⟨n, 0, none⟩) 4 4) (hk : K (a.put o.dst (.string S)) w) : if Region.wanted o (yielded ops a.tmps) = true then Oper.wp Tryd.prog o a w K Q else E := by
  rw [if_pos hw]
  have hr := hx.str
  rw [hS] at hr
  have hp' : a.eval (.tmp i) = .slice (some ⟨n, 0, none⟩) 4 4 := by
    show a.tmps.getD i undef = _
    rw [Array.getD_eq_getD_getElem?]
    exact h0
  unfold Oper.wp
  simp [execOp, ho, hp', hr, Result.andThen]
  exact hk
theorem ret_tmpF2 {fn : Func} {Rp : Ending → World → Prop} {a : Act} {w : World} (s t : Nat) (v u : Value) (hres : fn.results = #[.tmp s, .tmp t]) (hd : a.defers = []) (hv : a.tmps[s]?.getD undef = v) (hu : a.tmps[t]?.getD undef = u) (h : Rp (.returned (.tuple #[v, u])) w) : bodyPost Tryd.prog fn Rp .ret a w := by
  refine bodyPost_ret (v := .tuple #[v, u]) ?_ hd h
  simp [results, hres, hv, hu]
theorem step_spec_l01Var {w : World} {ops : Array Oper} {o : Oper} {a : Act} {K : Act → World → Prop} {Q : Exit → Act → World → Prop} {E : Prop} (hw : Region.wanted o (yielded ops a.tmps) = true) (i0 : Nat) (ts : Array TypeId) (ho : o.op = .call { callee := .value (.func 38), args := #[.tmp i0], argTypes := ts }) (v0 : Value) (P : Value → World → Prop) (h0 : a.tmps[i0]?.getD undef = v0)
    (hC : Calls Tryd.prog 38 #[v0] w fun e w' => ∃ r, e = .returned r ∧ P r w') (hk : ∀ r w', P r w' → K (a.put o.dst r) w') : if Region.wanted o (yielded ops a.tmps) = true then Oper.wp Tryd.prog o a w K Q else E := by
  rw [if_pos hw]
  unfold Oper.wp
  unfold execOp
  rw [ho]
  go_simp
  refine hC.mono ?_
  rintro e w' ⟨r, rfl, hp⟩
  exact hk r w' hp
theorem step_spec_Sealed {w : World} {ops : Array Oper} {o : Oper} {a : Act} {K : Act → World → Prop} {Q : Exit → Act → World → Prop} {E : Prop} (hw : Region.wanted o (yielded ops a.tmps) = true) (i0 : Nat) (ts : Array TypeId) (ho : o.op = .call { callee := .value (.func 33), args := #[.tmp i0], argTypes := ts }) (v0 : Value) (P : Value → World → Prop) (h0 : a.tmps[i0]?.getD undef = v0)
    (hC : Calls Tryd.prog 33 #[v0] w fun e w' => ∃ r, e = .returned r ∧ P r w') (hk : ∀ r w', P r w' → K (a.put o.dst r) w') : if Region.wanted o (yielded ops a.tmps) = true then Oper.wp Tryd.prog o a w K Q else E := by
  rw [if_pos hw]
  unfold Oper.wp
  unfold execOp
  rw [ho]
  go_simp
  refine hC.mono ?_
  rintro e w' ⟨r, rfl, hp⟩
  exact hk r w' hp

set_option maxRecDepth 100000 in
set_option maxHeartbeats 2000000 in
theorem sLetterText_any (x : Ltr) (w : World) (hr : x.r.size ≤ 1048576) :
    Calls Tryd.prog 17 #[.agg #[.int .i64 x.k, .int .i64 x.f, .int .i64 x.t, .int .i64 x.e, .int .i64 x.y, .string x.r]] w fun e w' => e = .returned (.tuple #[.string (VV.text x), .bool (VV.ok x)]) ∧ Below w.heap.size w w' := by
  have HC : Hid (∀ W, Calls Tryd.prog 10 #[.agg #[.int .i64 x.k, .int .i64 x.f, .int .i64 x.t, .int .i64 x.e, .int .i64 x.y, .string x.r]] W fun e w' => e = .returned (.bool (VV.ok x)) ∧ Below W.heap.size W w') := fun W => sLetterOk_any x W hr
  have HW : Hid (RKc (w.alloc (.cells #[.int .i64 x.k, .int .i64 x.f, .int .i64 x.t, .int .i64 x.e, .int .i64 x.y, .string x.r] 25)) w.heap.size x ∧ Below w.heap.size w (w.alloc (.cells #[.int .i64 x.k, .int .i64 x.f, .int .i64 x.t, .int .i64 x.e, .int .i64 x.y, .string x.r] 25))) := ⟨⟨range_new w (kcs x) _, by simp⟩, (Below.refl _ _).alloc (Nat.le_refl _) _⟩
  unfold VV.text
  cases hk : VV.ok x
  · rw [hk] at HC
    rw [if_neg (by simp)]
    obtain ⟨k, f, t, e, y, r⟩ := x
    clear hk
    go_enter Tryd.func17, Tryd.ntmps17
    go_wp2_with fail
    refine (HC.out _).mono ?_
    rintro e1 w1 ⟨rfl, hb1⟩
    have HB1 := HW.out.2.trans (hb1.mono HW.out.2.size)
    clear hb1
    go_wp2
    go_ret2
    exact ⟨rfl, HB1⟩
  · rw [hk] at HC
    rw [if_pos rfl]
    obtain ⟨b1, b2, b3, b4, b5, b6⟩ := VV.ok_bounds hk
    have hz := VV.lB_size b6
    have HTT : Hid (∀ W, Calls Tryd.prog 33 #[.string (VV.lB x)] W fun e w' => e = .returned (.tuple #[.string (sealedB (VV.lB x)), .bool true]) ∧ Below W.heap.size W w') := fun W => sSealed_yes (VV.lB x) W (by omega)
    have HV : Hid (∀ W, Calls Tryd.prog 38 #[.int .i64 x.y] W fun e w' => e = .returned (.string (varB x.y.toNat)) ∧ Below W.heap.size W w') := fun W => by
      obtain ⟨n, hn⟩ := Int.eq_ofNat_of_zero_le (show 0 ≤ x.y by omega)
      rw [hn]
      exact l01Var_any n W (by omega)
    have hvz : (varB x.y.toNat).size ≤ 10 := varA_size _
    have hLB : VV.lB x = ⟨(VV.four x).toArray⟩ ++ varB x.y.toNat ++ x.r := by
      apply ByteArray.ext
      apply Array.toList_inj.1
      simp [VV.lB, VV.ltL, varB, ByteArray.data_append]
    have h4z : (⟨(VV.four x).toArray⟩ : ByteArray).size = 4 := rfl
    obtain ⟨k0, hk0⟩ : ∃ b, UInt8.ofNat x.k.toNat = b := ⟨_, rfl⟩
    obtain ⟨k1, hk1⟩ : ∃ b, UInt8.ofNat x.f.toNat = b := ⟨_, rfl⟩
    obtain ⟨k2, hk2⟩ : ∃ b, UInt8.ofNat x.t.toNat = b := ⟨_, rfl⟩
    obtain ⟨k3, hk3⟩ : ∃ b, UInt8.ofNat x.e.toNat = b := ⟨_, rfl⟩
    have e0 : x.k = (k0.toNat : Int) := by rw [← hk0]; exact byteV x.k _ (by omega) (by omega)
    have e1 : x.f = (k1.toNat : Int) := by rw [← hk1]; exact byteV x.f _ (by omega) (by omega)
    have e2 : x.t = (k2.toNat : Int) := by rw [← hk2]; exact byteV x.t _ (by omega) (by omega)
    have e3 : x.e = (k3.toNat : Int) := by rw [← hk3]; exact byteV x.e _ (by omega) (by omega)
    have hF : VV.four x = [k0, k1, k2, k3] := by unfold VV.four; rw [hk0, hk1, hk2, hk3]
    rw [hF] at hLB h4z
    obtain ⟨S4, HS4h⟩ : ∃ S, (⟨[k0, k1, k2, k3].toArray⟩ : ByteArray) = S := ⟨_, rfl⟩
    rw [HS4h] at hLB h4z
    clear hk0 hk1 hk2 hk3 hk hF
    generalize VV.lB x = LB at *
    generalize sealedB LB = SB at *
    obtain ⟨k, f, t, e, y, r⟩ := x
    simp only at *
    generalize varB y.toNat = VB at *
    subst e0 e1 e2 e3
    have HLB : Hid (LB = S4 ++ VB ++ r) := hLB
    clear hLB b1 b2 b3 b4 b5
    go_enter Tryd.func17, Tryd.ntmps17
    go_wp2_with fail
    refine (HC.out _).mono ?_
    rintro e1 w1 ⟨rfl, hb1⟩
    have HW1 : Hid (RKc w1 w.heap.size ⟨(k0.toNat : Int), (k1.toNat : Int), (k2.toNat : Int), (k3.toNat : Int), y, r⟩ ∧ Below w.heap.size w w1) := ⟨⟨range_kept HW.out.1.1 (hb1.block _ HW.out.1.2), Nat.lt_of_lt_of_le HW.out.1.2 hb1.size⟩, HW.out.2.trans (hb1.mono HW.out.2.size)⟩
    clear hb1 HW HC
    have z0 := HW1.out.1.c0
    have z1 := HW1.out.1.c1
    have z2 := HW1.out.1.c2
    have z3 := HW1.out.1.c3
    have z4 := HW1.out.1.c4
    have z5 := HW1.out.1.c5
    simp only at z0 z1 z2 z3 z4 z5
    have HS4 : Hid ((⟨[k0, k1, k2, k3].toArray⟩ : ByteArray) = S4) := HS4h
    have HV1 : Hid (∀ W, Calls Tryd.prog 38 #[.int .i64 y] W fun e w' => ∃ r, e = .returned r ∧ (r = .string VB ∧ Below W.heap.size W w')) := fun W => Calls.ret1 (HV.out W)
    have HTT1 : Hid (∀ W, Calls Tryd.prog 33 #[.string (S4 ++ VB ++ r)] W fun e w' => ∃ r, e = .returned r ∧ (r = .tuple #[.string SB, .bool true] ∧ Below W.heap.size W w')) := fun W => Calls.ret1 (by rw [← HLB.out]; exact HTT.out W)
    have HSS : Hid (∀ W, Below w1.heap.size w1 W → W.rangeAt w.heap.size 0 (kcs ⟨(k0.toNat : Int), (k1.toNat : Int), (k2.toNat : Int), (k3.toNat : Int), y, r⟩)) := fun W hW => range_kept HW1.out.1.1 (hW.block _ HW1.out.1.2)
    have hb0 : Below w1.heap.size w1 w1.drew := (Below.refl _ _).drew
    have hs1 : 4 + VB.size ≤ 9223372036854775807 := by omega
    have hs2 : 4 + VB.size + r.size ≤ 9223372036854775807 := by omega
    have hu : ∀ b : UInt8, IntKind.u8.wrap (b.toNat : Int) = (b.toNat : Int) := fun b => by
      have h1 : IntKind.u8.wrap (b.toNat : Int) = (b.toNat : Int) % 256 := rfl
      have h2 := b.toNat_lt
      omega
    have q0 := hu k0
    have q1 := hu k1
    have q2 := hu k2
    have q3 := hu k3
    clear hu
    clear HV HTT HLB hz hr z0 z1 z2 z3 z4 z5
    go_wp2_with fail
    refine wp_abs (fun a => FR 31 a [(1, .pointer (some ⟨w.heap.size, 0, none⟩))]) ⟨rfl, rfl, fun p hp => by simp only [List.mem_cons, List.not_mem_nil, or_false] at hp; subst hp; rfl⟩ (fun a F => ?_)
    refine wp_region_held_drew (S := fun W => W.rangeAt w.heap.size 0 (kcs ⟨(k0.toNat : Int), (k1.toNat : Int), (k2.toNat : Int), (k3.toNat : Int), y, r⟩)) (by kernel_rfl) (HSS.out _ hb0) (fun hH => ?_)
    have r1 := F.get 1 (.pointer (some ⟨w.heap.size, 0, none⟩)) (by simp)
    refine takeF (i := 0) (v := .pointer (some ⟨w.heap.size, 0, none⟩)) rfl (by kernel_rfl) (by kernel_rfl) (by kernel_rfl) (fun _ _ _ h => h) (Or.inl ⟨by rfl, fun w hw => by go_simp⟩) hH 7 rfl F (by decide) (by simp) (fun a F => ?_)
    clear r1
    have r7 := F.get 7 (.pointer (some ⟨w.heap.size, 0, none⟩)) (by simp)
    refine takeF (i := 1) (v := .int .i64 (k0.toNat : Int)) rfl (by kernel_rfl) (by kernel_rfl) (by kernel_rfl) (fun _ _ _ h => h) (Or.inl ⟨by rfl, fun w hw => by have hw2 := hw 0 _ rfl; simp only [Nat.zero_add] at hw2; go_simp⟩) hH 8 rfl F (by decide) (by simp) (fun a F => ?_)
    clear r7
    have r8 := F.get 8 (.int .i64 (k0.toNat : Int)) (by simp)
    refine takeF (i := 2) (v := .int .u8 (k0.toNat : Int)) rfl (by kernel_rfl) (by kernel_rfl) (by kernel_rfl) (fun _ _ _ h => h) (Or.inl ⟨by rfl, fun w hw => by go_simp⟩) hH 9 rfl F (by decide) (by simp) (fun a F => ?_)
    clear r8
    have r1 := F.get 1 (.pointer (some ⟨w.heap.size, 0, none⟩)) (by simp)
    refine takeF (i := 3) (v := .pointer (some ⟨w.heap.size, 1, none⟩)) rfl (by kernel_rfl) (by kernel_rfl) (by kernel_rfl) (fun _ _ _ h => h) (Or.inl ⟨by rfl, fun w hw => by go_simp⟩) hH 10 rfl F (by decide) (by simp) (fun a F => ?_)
    clear r1
    have r10 := F.get 10 (.pointer (some ⟨w.heap.size, 1, none⟩)) (by simp)
    refine takeF (i := 4) (v := .int .i64 (k1.toNat : Int)) rfl (by kernel_rfl) (by kernel_rfl) (by kernel_rfl) (fun _ _ _ h => h) (Or.inl ⟨by rfl, fun w hw => by have hw2 := hw 1 _ rfl; simp only [Nat.zero_add] at hw2; go_simp⟩) hH 11 rfl F (by decide) (by simp) (fun a F => ?_)
    clear r10
    have r11 := F.get 11 (.int .i64 (k1.toNat : Int)) (by simp)
    refine takeF (i := 5) (v := .int .u8 (k1.toNat : Int)) rfl (by kernel_rfl) (by kernel_rfl) (by kernel_rfl) (fun _ _ _ h => h) (Or.inl ⟨by rfl, fun w hw => by go_simp⟩) hH 12 rfl F (by decide) (by simp) (fun a F => ?_)
    clear r11
    have r1 := F.get 1 (.pointer (some ⟨w.heap.size, 0, none⟩)) (by simp)
    refine takeF (i := 6) (v := .pointer (some ⟨w.heap.size, 2, none⟩)) rfl (by kernel_rfl) (by kernel_rfl) (by kernel_rfl) (fun _ _ _ h => h) (Or.inl ⟨by rfl, fun w hw => by go_simp⟩) hH 13 rfl F (by decide) (by simp) (fun a F => ?_)
    clear r1
    have r13 := F.get 13 (.pointer (some ⟨w.heap.size, 2, none⟩)) (by simp)
    refine takeF (i := 7) (v := .int .i64 (k2.toNat : Int)) rfl (by kernel_rfl) (by kernel_rfl) (by kernel_rfl) (fun _ _ _ h => h) (Or.inl ⟨by rfl, fun w hw => by have hw2 := hw 2 _ rfl; simp only [Nat.zero_add] at hw2; go_simp⟩) hH 14 rfl F (by decide) (by simp) (fun a F => ?_)
    clear r13
    have r14 := F.get 14 (.int .i64 (k2.toNat : Int)) (by simp)
    refine takeF (i := 8) (v := .int .u8 (k2.toNat : Int)) rfl (by kernel_rfl) (by kernel_rfl) (by kernel_rfl) (fun _ _ _ h => h) (Or.inl ⟨by rfl, fun w hw => by go_simp⟩) hH 15 rfl F (by decide) (by simp) (fun a F => ?_)
    clear r14
    have r1 := F.get 1 (.pointer (some ⟨w.heap.size, 0, none⟩)) (by simp)
    refine takeF (i := 9) (v := .pointer (some ⟨w.heap.size, 3, none⟩)) rfl (by kernel_rfl) (by kernel_rfl) (by kernel_rfl) (fun _ _ _ h => h) (Or.inl ⟨by rfl, fun w hw => by go_simp⟩) hH 16 rfl F (by decide) (by simp) (fun a F => ?_)
    clear r1
    have r16 := F.get 16 (.pointer (some ⟨w.heap.size, 3, none⟩)) (by simp)
    refine takeF (i := 10) (v := .int .i64 (k3.toNat : Int)) rfl (by kernel_rfl) (by kernel_rfl) (by kernel_rfl) (fun _ _ _ h => h) (Or.inl ⟨by rfl, fun w hw => by have hw2 := hw 3 _ rfl; simp only [Nat.zero_add] at hw2; go_simp⟩) hH 17 rfl F (by decide) (by simp) (fun a F => ?_)
    clear r16
    have r17 := F.get 17 (.int .i64 (k3.toNat : Int)) (by simp)
    refine takeF (i := 11) (v := .int .u8 (k3.toNat : Int)) rfl (by kernel_rfl) (by kernel_rfl) (by kernel_rfl) (fun _ _ _ h => h) (Or.inl ⟨by rfl, fun w hw => by go_simp⟩) hH 18 rfl F (by decide) (by simp) (fun a F => ?_)
    clear r17
    have r1 := F.get 1 (.pointer (some ⟨w.heap.size, 0, none⟩)) (by simp)
    refine takeF (i := 14) (v := .pointer (some ⟨w.heap.size, 4, none⟩)) rfl (by kernel_rfl) (by kernel_rfl) (by kernel_rfl) (fun _ _ _ h => h) (Or.inl ⟨by rfl, fun w hw => by go_simp⟩) hH 21 rfl F (by decide) (by simp) (fun a F => ?_)
    clear r1
    have r21 := F.get 21 (.pointer (some ⟨w.heap.size, 4, none⟩)) (by simp)
    refine takeF (i := 15) (v := .int .i64 y) rfl (by kernel_rfl) (by kernel_rfl) (by kernel_rfl) (fun _ _ _ h => h) (Or.inl ⟨by rfl, fun w hw => by have hw2 := hw 4 _ rfl; simp only [Nat.zero_add] at hw2; go_simp⟩) hH 22 rfl F (by decide) (by simp) (fun a F => ?_)
    clear r21
    have r1 := F.get 1 (.pointer (some ⟨w.heap.size, 0, none⟩)) (by simp)
    refine takeF (i := 18) (v := .pointer (some ⟨w.heap.size, 5, none⟩)) rfl (by kernel_rfl) (by kernel_rfl) (by kernel_rfl) (fun _ _ _ h => h) (Or.inl ⟨by rfl, fun w hw => by go_simp⟩) hH 25 rfl F (by decide) (by simp) (fun a F => ?_)
    clear r1
    have r25 := F.get 25 (.pointer (some ⟨w.heap.size, 5, none⟩)) (by simp)
    refine takeF (i := 19) (v := .string r) rfl (by kernel_rfl) (by kernel_rfl) (by kernel_rfl) (fun _ _ _ h => h) (Or.inl ⟨by rfl, fun w hw => by have hw2 := hw 5 _ rfl; simp only [Nat.zero_add] at hw2; go_simp⟩) hH 26 rfl F (by decide) (by simp) (fun a F => ?_)
    clear r25
    refine wpAnyH_ready (rs := [12, 16]) (by kernel_rfl) (by simp) ?_
    refine AllReadyH.cons rfl (fun K' hK' => ?_) (AllReadyH.cons rfl (fun K' hK' => ?_) AllReadyH.nil)
    · refine step_four (by rfl) 9 12 15 18 rfl k0 k1 k2 k3 (F.get 9 _ (by simp)) (F.get 12 _ (by simp)) (F.get 15 _ (by simp)) (F.get 18 _ (by simp)) ?_
      rintro xw1 n1 hx1 kb1
      have hb1 := hb0.trans (kb1.mono hb0.size)
      refine openK (v := .slice (some ⟨n1, 0, none⟩) 4 4) 19 rfl F (by decide) (by simp) (fun a F => ?_)
      refine hK'.out _ _ (HSS.out _ hb1) (fun hH => ?_)
      refine wpAnyH_ready (rs := [13, 16]) (by kernel_rfl) (by simp) ?_
      refine AllReadyH.cons rfl (fun K' hK' => ?_) (AllReadyH.cons rfl (fun K' hK' => ?_) AllReadyH.nil)
      · refine step_conv4 (by rfl) 19 rfl k0 k1 k2 k3 n1 S4 HS4.out hx1 (F.get 19 _ (by simp)) ?_
        refine openK (v := .string S4) 20 rfl F (by decide) (by simp) (fun a F => ?_)
        refine hK'.out _ _ (HSS.out _ hb1) (fun hH => ?_)
        refine wpAnyH_ready (rs := [16]) (by kernel_rfl) (by simp) ?_
        refine AllReadyH.cons rfl (fun K' hK' => ?_) AllReadyH.nil
        refine step_spec_l01Var (by rfl) 22 _ rfl _ _ (F.get 22 _ (by simp)) (HV1.out _) ?_
        rintro rv3 xw3 ⟨rfl, kb3⟩
        have hb3 := hb1.trans (kb3.mono hb1.size)
        have hx3 := hx1.later kb3
        refine openK (v := .string VB) 23 rfl F (by decide) (by simp) (fun a F => ?_)
        refine hK'.out _ _ (HSS.out _ hb3) (fun hH => ?_)
        have r20 := F.get 20 (.string S4) (by simp)
        have r23 := F.get 23 (.string VB) (by simp)
        refine takeF (i := 17) (v := .string (S4 ++ VB)) rfl (by kernel_rfl) (by kernel_rfl) (by kernel_rfl) (fun _ _ _ h => h) (Or.inl ⟨by rfl, fun w hw => by go_simp⟩) hH 24 rfl F (by decide) (by simp) (fun a F => ?_)
        clear r20 r23
        have r24 := F.get 24 (.string (S4 ++ VB)) (by simp)
        have r26 := F.get 26 (.string r) (by simp)
        refine takeF (i := 20) (v := .string (S4 ++ VB ++ r)) rfl (by kernel_rfl) (by kernel_rfl) (by kernel_rfl) (fun _ _ _ h => h) (Or.inl ⟨by rfl, fun w hw => by go_simp⟩) hH 27 rfl F (by decide) (by simp) (fun a F => ?_)
        clear r24 r26
        refine wpAnyH_ready (rs := [21]) (by kernel_rfl) (by simp) ?_
        refine AllReadyH.cons rfl (fun K' hK' => ?_) AllReadyH.nil
        refine step_spec_Sealed (by rfl) 27 _ rfl _ _ (F.get 27 _ (by simp)) (HTT1.out _) ?_
        rintro rv4 xw4 ⟨rfl, kb4⟩
        have hb4 := hb3.trans (kb4.mono hb3.size)
        have hx4 := hx3.later kb4
        refine openK (v := .tuple #[.string SB, .bool true]) 28 rfl F (by decide) (by simp) (fun a F => ?_)
        refine hK'.out _ _ (HSS.out _ hb4) (fun hH => ?_)
        have r28 := F.get 28 (.tuple #[.string SB, .bool true]) (by simp)
        refine takeF (i := 22) (v := .string SB) rfl (by kernel_rfl) (by kernel_rfl) (by kernel_rfl) (fun _ _ _ h => h) (Or.inl ⟨by rfl, fun w hw => by go_simp⟩) hH 29 rfl F (by decide) (by simp) (fun a F => ?_)
        clear r28
        have r28 := F.get 28 (.tuple #[.string SB, .bool true]) (by simp)
        refine takeF (i := 23) (v := .bool true) rfl (by kernel_rfl) (by kernel_rfl) (by kernel_rfl) (fun _ _ _ h => h) (Or.inl ⟨by rfl, fun w hw => by go_simp⟩) hH 30 rfl F (by decide) (by simp) (fun a F => ?_)
        clear r28
        have r29 := F.get 29 (.string SB) (by simp)
        refine takeF (i := 24) (v := .string SB) rfl (by kernel_rfl) (by kernel_rfl) (by kernel_rfl) (fun _ _ _ h => h) (Or.inl ⟨by rfl, fun w hw => by go_simp⟩) hH 2 rfl F (by decide) (by simp) (fun a F => ?_)
        clear r29
        have r30 := F.get 30 (.bool true) (by simp)
        refine takeF (i := 25) (v := .bool true) rfl (by kernel_rfl) (by kernel_rfl) (by kernel_rfl) (fun _ _ _ h => h) (Or.inl ⟨by rfl, fun w hw => by go_simp⟩) hH 3 rfl F (by decide) (by simp) (fun a F => ?_)
        clear r30
        refine wpAnyH_done (by kernel_rfl) ?_ _
        have hend := HW1.out.2.trans (hb4.mono HW1.out.2.size)
        have hd := F.2.1
        have e2 : a.tmps[2]?.getD undef = .string SB := F.get 2 _ (by simp)
        have e3 : a.tmps[3]?.getD undef = .bool true := F.get 3 _ (by simp)
        clear HV1 HTT1 HSS HS4 HW1 hH F
        go_wp2
        exact ret_tmpF2 2 3 _ _ rfl hd e2 e3 ⟨rfl, hend⟩
      · refine step_spec_l01Var (by rfl) 22 _ rfl _ _ (F.get 22 _ (by simp)) (HV1.out _) ?_
        rintro rv5 xw5 ⟨rfl, kb5⟩
        have hb5 := hb1.trans (kb5.mono hb1.size)
        have hx5 := hx1.later kb5
        refine openK (v := .string VB) 23 rfl F (by decide) (by simp) (fun a F => ?_)
        refine hK'.out _ _ (HSS.out _ hb5) (fun hH => ?_)
        refine wpAnyH_ready (rs := [13]) (by kernel_rfl) (by simp) ?_
        refine AllReadyH.cons rfl (fun K' hK' => ?_) AllReadyH.nil
        refine step_conv4 (by rfl) 19 rfl k0 k1 k2 k3 n1 S4 HS4.out hx5 (F.get 19 _ (by simp)) ?_
        refine openK (v := .string S4) 20 rfl F (by decide) (by simp) (fun a F => ?_)
        refine hK'.out _ _ (HSS.out _ hb5) (fun hH => ?_)
        have r20 := F.get 20 (.string S4) (by simp)
        have r23 := F.get 23 (.string VB) (by simp)
        refine takeF (i := 17) (v := .string (S4 ++ VB)) rfl (by kernel_rfl) (by kernel_rfl) (by kernel_rfl) (fun _ _ _ h => h) (Or.inl ⟨by rfl, fun w hw => by go_simp⟩) hH 24 rfl F (by decide) (by simp) (fun a F => ?_)
        clear r20 r23
        have r24 := F.get 24 (.string (S4 ++ VB)) (by simp)
        have r26 := F.get 26 (.string r) (by simp)
        refine takeF (i := 20) (v := .string (S4 ++ VB ++ r)) rfl (by kernel_rfl) (by kernel_rfl) (by kernel_rfl) (fun _ _ _ h => h) (Or.inl ⟨by rfl, fun w hw => by go_simp⟩) hH 27 rfl F (by decide) (by simp) (fun a F => ?_)
        clear r24 r26
        refine wpAnyH_ready (rs := [21]) (by kernel_rfl) (by simp) ?_
        refine AllReadyH.cons rfl (fun K' hK' => ?_) AllReadyH.nil
        refine step_spec_Sealed (by rfl) 27 _ rfl _ _ (F.get 27 _ (by simp)) (HTT1.out _) ?_
        rintro rv7 xw7 ⟨rfl, kb7⟩
        have hb7 := hb5.trans (kb7.mono hb5.size)
        have hx7 := hx5.later kb7
        refine openK (v := .tuple #[.string SB, .bool true]) 28 rfl F (by decide) (by simp) (fun a F => ?_)
        refine hK'.out _ _ (HSS.out _ hb7) (fun hH => ?_)
        have r28 := F.get 28 (.tuple #[.string SB, .bool true]) (by simp)
        refine takeF (i := 22) (v := .string SB) rfl (by kernel_rfl) (by kernel_rfl) (by kernel_rfl) (fun _ _ _ h => h) (Or.inl ⟨by rfl, fun w hw => by go_simp⟩) hH 29 rfl F (by decide) (by simp) (fun a F => ?_)
        clear r28
        have r28 := F.get 28 (.tuple #[.string SB, .bool true]) (by simp)
        refine takeF (i := 23) (v := .bool true) rfl (by kernel_rfl) (by kernel_rfl) (by kernel_rfl) (fun _ _ _ h => h) (Or.inl ⟨by rfl, fun w hw => by go_simp⟩) hH 30 rfl F (by decide) (by simp) (fun a F => ?_)
        clear r28
        have r29 := F.get 29 (.string SB) (by simp)
        refine takeF (i := 24) (v := .string SB) rfl (by kernel_rfl) (by kernel_rfl) (by kernel_rfl) (fun _ _ _ h => h) (Or.inl ⟨by rfl, fun w hw => by go_simp⟩) hH 2 rfl F (by decide) (by simp) (fun a F => ?_)
        clear r29
        have r30 := F.get 30 (.bool true) (by simp)
        refine takeF (i := 25) (v := .bool true) rfl (by kernel_rfl) (by kernel_rfl) (by kernel_rfl) (fun _ _ _ h => h) (Or.inl ⟨by rfl, fun w hw => by go_simp⟩) hH 3 rfl F (by decide) (by simp) (fun a F => ?_)
        clear r30
        refine wpAnyH_done (by kernel_rfl) ?_ _
        have hend := HW1.out.2.trans (hb7.mono HW1.out.2.size)
        have hd := F.2.1
        have e2 : a.tmps[2]?.getD undef = .string SB := F.get 2 _ (by simp)
        have e3 : a.tmps[3]?.getD undef = .bool true := F.get 3 _ (by simp)
        clear HV1 HTT1 HSS HS4 HW1 hH F
        go_wp2
        exact ret_tmpF2 2 3 _ _ rfl hd e2 e3 ⟨rfl, hend⟩
    · refine step_spec_l01Var (by rfl) 22 _ rfl _ _ (F.get 22 _ (by simp)) (HV1.out _) ?_
      rintro rv8 xw8 ⟨rfl, kb8⟩
      have hb8 := hb0.trans (kb8.mono hb0.size)
      refine openK (v := .string VB) 23 rfl F (by decide) (by simp) (fun a F => ?_)
      refine hK'.out _ _ (HSS.out _ hb8) (fun hH => ?_)
      refine wpAnyH_ready (rs := [12]) (by kernel_rfl) (by simp) ?_
      refine AllReadyH.cons rfl (fun K' hK' => ?_) AllReadyH.nil
      refine step_four (by rfl) 9 12 15 18 rfl k0 k1 k2 k3 (F.get 9 _ (by simp)) (F.get 12 _ (by simp)) (F.get 15 _ (by simp)) (F.get 18 _ (by simp)) ?_
      rintro xw9 n9 hx9 kb9
      have hb9 := hb8.trans (kb9.mono hb8.size)
      refine openK (v := .slice (some ⟨n9, 0, none⟩) 4 4) 19 rfl F (by decide) (by simp) (fun a F => ?_)
      refine hK'.out _ _ (HSS.out _ hb9) (fun hH => ?_)
      refine wpAnyH_ready (rs := [13]) (by kernel_rfl) (by simp) ?_
      refine AllReadyH.cons rfl (fun K' hK' => ?_) AllReadyH.nil
      refine step_conv4 (by rfl) 19 rfl k0 k1 k2 k3 n9 S4 HS4.out hx9 (F.get 19 _ (by simp)) ?_
      refine openK (v := .string S4) 20 rfl F (by decide) (by simp) (fun a F => ?_)
      refine hK'.out _ _ (HSS.out _ hb9) (fun hH => ?_)
      have r20 := F.get 20 (.string S4) (by simp)
      have r23 := F.get 23 (.string VB) (by simp)
      refine takeF (i := 17) (v := .string (S4 ++ VB)) rfl (by kernel_rfl) (by kernel_rfl) (by kernel_rfl) (fun _ _ _ h => h) (Or.inl ⟨by rfl, fun w hw => by go_simp⟩) hH 24 rfl F (by decide) (by simp) (fun a F => ?_)
      clear r20 r23
      have r24 := F.get 24 (.string (S4 ++ VB)) (by simp)
      have r26 := F.get 26 (.string r) (by simp)
      refine takeF (i := 20) (v := .string (S4 ++ VB ++ r)) rfl (by kernel_rfl) (by kernel_rfl) (by kernel_rfl) (fun _ _ _ h => h) (Or.inl ⟨by rfl, fun w hw => by go_simp⟩) hH 27 rfl F (by decide) (by simp) (fun a F => ?_)
      clear r24 r26
      refine wpAnyH_ready (rs := [21]) (by kernel_rfl) (by simp) ?_
      refine AllReadyH.cons rfl (fun K' hK' => ?_) AllReadyH.nil
      refine step_spec_Sealed (by rfl) 27 _ rfl _ _ (F.get 27 _ (by simp)) (HTT1.out _) ?_
      rintro rv11 xw11 ⟨rfl, kb11⟩
      have hb11 := hb9.trans (kb11.mono hb9.size)
      have hx11 := hx9.later kb11
      refine openK (v := .tuple #[.string SB, .bool true]) 28 rfl F (by decide) (by simp) (fun a F => ?_)
      refine hK'.out _ _ (HSS.out _ hb11) (fun hH => ?_)
      have r28 := F.get 28 (.tuple #[.string SB, .bool true]) (by simp)
      refine takeF (i := 22) (v := .string SB) rfl (by kernel_rfl) (by kernel_rfl) (by kernel_rfl) (fun _ _ _ h => h) (Or.inl ⟨by rfl, fun w hw => by go_simp⟩) hH 29 rfl F (by decide) (by simp) (fun a F => ?_)
      clear r28
      have r28 := F.get 28 (.tuple #[.string SB, .bool true]) (by simp)
      refine takeF (i := 23) (v := .bool true) rfl (by kernel_rfl) (by kernel_rfl) (by kernel_rfl) (fun _ _ _ h => h) (Or.inl ⟨by rfl, fun w hw => by go_simp⟩) hH 30 rfl F (by decide) (by simp) (fun a F => ?_)
      clear r28
      have r29 := F.get 29 (.string SB) (by simp)
      refine takeF (i := 24) (v := .string SB) rfl (by kernel_rfl) (by kernel_rfl) (by kernel_rfl) (fun _ _ _ h => h) (Or.inl ⟨by rfl, fun w hw => by go_simp⟩) hH 2 rfl F (by decide) (by simp) (fun a F => ?_)
      clear r29
      have r30 := F.get 30 (.bool true) (by simp)
      refine takeF (i := 25) (v := .bool true) rfl (by kernel_rfl) (by kernel_rfl) (by kernel_rfl) (fun _ _ _ h => h) (Or.inl ⟨by rfl, fun w hw => by go_simp⟩) hH 3 rfl F (by decide) (by simp) (fun a F => ?_)
      clear r30
      refine wpAnyH_done (by kernel_rfl) ?_ _
      have hend := HW1.out.2.trans (hb11.mono HW1.out.2.size)
      have hd := F.2.1
      have e2 : a.tmps[2]?.getD undef = .string SB := F.get 2 _ (by simp)
      have e3 : a.tmps[3]?.getD undef = .bool true := F.get 3 _ (by simp)
      clear HV1 HTT1 HSS HS4 HW1 hH F
      go_wp2
      exact ret_tmpF2 2 3 _ _ rfl hd e2 e3 ⟨rfl, hend⟩

end Go.Proofs.YtodibhiinfbhiaaDoor
