/-
  Texts laid together: Pj, Lpt, Pvd, Pbx.
-/
import Derived.Test.YtfojmagcoipbnaaQ09
import Derived.Test.YtfojmagcoipbnaaQ13
import Derived.Lib.QuietBelow
import Derived.Test.YtfojmagcoipbnaaQ12
import Derived.Deep.RegionHeld3
import Derived.Test.YtfojmagcoipbnaaQ08
import Derived.Test.YtfojmagcoipbnaaQ03
/-
  A proof as a text: the program's and the specification's answers.
-/
namespace Go.Proofs.Ytfojmagcoipbnaa
open Go.RowKit Go.BigFrame Go.Sort
set_option linter.unusedVariables false
set_option linter.unusedSimpArgs false

/-- texts behind one another -/
def joinT (S : List ByteArray) : ByteArray := ⟨(S.map (·.data.toList)).flatten.toArray⟩
theorem joinT_none : joinT [] = ⟨#[]⟩ := rfl
theorem joinT_snoc (S : List ByteArray) (t : ByteArray) : joinT (S ++ [t]) = joinT S ++ t := by
  apply ByteArray.ext
  apply Array.toList_inj.1
  simp [joinT, ByteArray.data_append]
theorem joinT_take {S : List ByteArray} {m : Nat} (h : m < S.length) : joinT (S.take (m + 1)) = joinT (S.take m) ++ S[m] := by
  rw [← List.take_append_getElem h, joinT_snoc]
theorem join_flat (X : List (List UInt8)) : Lib.join X [] = X.flatten := by
  cases X with
  | nil => rfl
  | cons x r =>
    rw [Lib.join_cons]
    unfold Lib.joinTail
    simp
theorem join_is (S : List ByteArray) : (⟨(Lib.join (S.map (·.data.toList)) []).toArray⟩ : ByteArray) = joinT S := by
  rw [join_flat]
  rfl
theorem joinT_cons (t : ByteArray) (S : List ByteArray) : joinT (t :: S) = t ++ joinT S := by
  apply ByteArray.ext
  apply Array.toList_inj.1
  simp [joinT, ByteArray.data_append]
theorem joinT_size {x : Int} {S : List ByteArray} (h : ∀ s ∈ S, s.size ≤ 1048576) : (joinT S).size ≤ S.length * 1048576 := by
  induction S with
  | nil => exact Nat.zero_le _
  | cons s S ih =>
    have h1 := ih (fun t ht => h t (List.mem_cons_of_mem _ ht))
    have h2 := h s (List.mem_cons_self ..)
    rw [joinT_cons, ByteArray.size_append]
    simp only [List.length_cons]
    omega
noncomputable def pxB (L : List Le) (S : List ByteArray) (x : Int) : Bool := LV.leavesB L && sidB S x
noncomputable def pxT (L : List Le) (S : List ByteArray) (x : Int) : ByteArray := if pxB L S x then lvT L ++ ⟨(M.varL S.length).toArray⟩ ++ joinT S else ⟨#[]⟩
theorem lvT_le (L : List Le) : (lvT L).size ≤ 1100 := by
  cases h : LV.leavesB L with
  | false => rw [lvT_no h]; exact Nat.zero_le _
  | true =>
    rw [lvT_yes h]
    have h2 := LV.leavesB_iff.1 h
    have h3 := LV.ltL_len h2.2.1
    have h4 := M.varL_len L.length
    have h5 := h2.1
    show (LV.lvL L).toArray.size ≤ 1100
    unfold LV.lvL
    simp only [List.size_toArray, List.length_append]
    omega
theorem varT_le (n : Nat) : (⟨(M.varL n).toArray⟩ : ByteArray).size ≤ 10 := by
  show (M.varL n).toArray.size ≤ 10
  have := M.varL_len n
  simpa using this
theorem sid_sizes {S : List ByteArray} {x : Int} (h : sidB S x = true) : S.length ≤ 8 ∧ ∀ s ∈ S, s.size ≤ 32 := by
  unfold sidB wideB at h
  simp only [Bool.and_eq_true, decide_eq_true_eq, List.all_eq_true] at h
  refine ⟨h.1, fun s hs => ?_⟩
  have := h.2.1 s hs
  omega
theorem sid_join {S : List ByteArray} {x : Int} (h : sidB S x = true) (m : Nat) : (joinT (S.take m)).size ≤ 8 * 1048576 := by
  obtain ⟨h1, h2⟩ := sid_sizes h
  have h3 := joinT_size (x := 0) (S := S.take m) (fun s hs => by have := h2 s (List.mem_of_mem_take hs); omega)
  have h4 : (S.take m).length ≤ 8 := by simp; omega
  exact Nat.le_trans h3 (Nat.mul_le_mul_right _ h4)

/-- some texts, their number ahead -/
def hsT (S : List ByteArray) : ByteArray := ⟨(M.varL S.length).toArray⟩ ++ joinT S

set_option maxRecDepth 100000 in
set_option maxHeartbeats 1000000 in
theorem hashesText_any (vs : Value) (gs os : Nat) (S : List ByteArray) (w : World) (hs : SS w vs gs os S) (hcap : ∀ a n c, vs = .slice a n c → n ≤ c) (hS8 : S.length ≤ 8) (hJ : (joinT S).size ≤ 8 * 1048576) :
    Calls Try.prog 40 #[vs] w fun e w' => e = .returned (.string (hsT S)) ∧ Below w.heap.size w w' := by
  have HJN : Hid (∀ W, Below w.heap.size w W → Calls Try.prog 87 #[vs, .string ⟨#[]⟩] W fun e w' => e = .returned (.string (joinT S)) ∧ Below W.heap.size W w') := fun W hW => by
    have hss := hs.below hW hs.lt
    have hglt := hss.lt
    obtain ⟨a, cap, rfl, hl, hA, hc⟩ := hss
    have hcc := hcap _ _ _ rfl
    have hsz : (Lib.join (S.map (·.data.toList)) (⟨#[]⟩ : ByteArray).data.toList).length ≤ 140737488355328 := by
      have e := join_is S
      have e2 : (joinT S).size = (Lib.join (S.map (·.data.toList)) []).length := by rw [← e]; simp [ByteArray.size]
      show (Lib.join (S.map (·.data.toList)) []).length ≤ _
      omega
    rcases Nat.eq_zero_or_pos S.length with h0 | h0
    · have e0 : S = [] := List.length_eq_zero_iff.1 h0
      subst e0
      exact (Try.strings_Join_none a cap ⟨#[]⟩ W).mono fun e w' ⟨he, hw⟩ => ⟨by rw [he, joinT_none], by rw [hw]; exact Below.refl _ _⟩
    · rw [hA h0]
      refine (Try.strings_Join gs os cap S ⟨#[]⟩ W (fun j t hj => ?_) (hglt h0) (by omega) hcc hsz).mono fun e w' ⟨he, hw⟩ => ⟨?_, hw⟩
      · obtain ⟨hj', rfl⟩ := List.getElem?_eq_some_iff.1 hj
        exact hc j hj'
      · rw [he]
        congr 2
        exact join_is S
  have HVT : Hid (∀ W, Calls Try.prog 86 #[.int .i64 (S.length : Int)] W fun e w' => e = .returned (.tuple #[.string ⟨(M.varL S.length).toArray⟩, .bool true]) ∧ Below W.heap.size W w') := fun W => VarText_yes S.length W (by omega)
  have hT2 := varT_le S.length
  unfold hsT
  obtain ⟨aS, cS, rfl, hy1, hy2, hy3⟩ := hs
  clear hy2 hy3 hcap
  generalize (⟨(M.varL S.length).toArray⟩ : ByteArray) = V at *
  generalize joinT S = J at *
  generalize S.length = n at *
  have z1 : ¬ 9223372036854775807 < V.size + J.size := by omega
  go_enter Try.func40, Try.ntmps40
  go_wp2_with fail
  refine (HVT.out _).mono ?_
  rintro e w1 ⟨rfl, hb1⟩
  clear HVT
  go_wp2_with fail
  refine (HJN.out _ hb1).mono ?_
  rintro e w2 ⟨rfl, hb2⟩
  have b2 := hb1.trans (hb2.mono hb1.size)
  clear HJN hb1 hb2
  go_wp2
  go_ret
  exact ⟨rfl, b2⟩

set_option maxRecDepth 100000 in
set_option maxHeartbeats 1000000 in
theorem ProofText_any (vb vs : Value) (gb ob gs os : Nat) (L : List Le) (S : List ByteArray) (x : Int) (w : World) (hb : RS 2 lcs w vb gb ob L) (hsm : SmallL L) (hs : SS w vs gs os S) (hcap : ∀ a n c, vs = .slice a n c → n ≤ c) :
    Calls Try.prog 11 #[.agg #[vb, vs], .int .i64 x] w fun e w' => e = .returned (.tuple #[.string (pxT L S x), .bool (pxB L S x)]) ∧ Below w.heap.size w w' := by
  obtain ⟨p0, p1⟩ := run_rangeP (w := w) (p := 0) (v1 := vb) (v2 := vs) 31
  have hba : Below w.heap.size w (w.alloc (.cells #[vb, vs] 31)) := (Below.refl _ _).alloc (Nat.le_refl _) _
  have HBS : Hid (∀ W, Below w.heap.size w W → RS 2 lcs W vb gb ob L ∧ SS W vs gs os S) := fun W hW => ⟨hb.later hW, hs.below hW hs.lt⟩
  have HPP : Hid (∀ W, Below (w.alloc (.cells #[vb, vs] 31)).heap.size (w.alloc (.cells #[vb, vs] 31)) W → W.cell? ⟨w.heap.size, 0, none⟩ = some vb ∧ W.cell? ⟨w.heap.size, 1, none⟩ = some vs ∧ Below w.heap.size w W) := fun W hW => ⟨cell_up p0 hW, cell_up p1 hW, hba.trans (hW.mono hba.size)⟩
  have hlt := LeavesText_any vb gb ob L _ (HBS.out _ hba).1 hsm
  have HSD : Hid (∀ W, Below w.heap.size w W → Calls Try.prog 39 #[vs, .int .i64 x] W fun e w' => e = .returned (.bool (sidB S x)) ∧ w' = W) := fun W hW => sidesOk_any vs gs os S x W (HBS.out W hW).2
  have HJN : Hid (∀ W, sidB S x = true → Below w.heap.size w W → Calls Try.prog 40 #[vs] W fun e w' => e = .returned (.string (hsT S)) ∧ Below W.heap.size W w') := fun W hsd hW => by
    have h8 := sid_join hsd S.length
    rw [List.take_length] at h8
    exact hashesText_any vs gs os S W (HBS.out W hW).2 hcap (sid_sizes hsd).1 h8
  have hT1 := lvT_le L
  have HR : Hid (pxB L S x = (LV.leavesB L && sidB S x) ∧ pxT L S x = if pxB L S x then lvT L ++ hsT S else ⟨#[]⟩) := by
    refine ⟨rfl, ?_⟩
    unfold pxT hsT
    rw [ByteArray.append_assoc]
  have HS8 : Hid (sidB S x = true → (hsT S).size ≤ 9 * 1048576) := fun h => by
    have := sid_join h S.length
    rw [List.take_length] at this
    have h2 := varT_le S.length
    unfold hsT
    rw [ByteArray.size_append]
    omega
  obtain ⟨aS, cS, rfl, hy1, hy2, hy3⟩ := hs
  generalize pxB L S x = B at *
  generalize pxT L S x = T at *
  generalize hsT S = J at *
  generalize sidB S x = A3 at *
  generalize LV.leavesB L = A1 at *
  generalize lvT L = LT at *
  clear hb hsm hcap HBS hy1 hy2 hy3
  go_enter Try.func11, Try.ntmps11
  go_wp2_with fail
  refine hlt.mono ?_
  rintro e w1 ⟨rfl, hb1⟩
  obtain ⟨k0, k1, b1⟩ := HPP.out _ hb1
  clear hlt p0 p1 HPP
  cases A1 with
  | false =>
    obtain ⟨e1, e2⟩ := HR.out
    rw [Bool.false_and] at e1
    subst e1
    simp only [Bool.false_eq_true, if_false] at e2
    subst e2
    clear HR HSD HJN HS8
    go_wp2
    go_ret2
    exact ⟨rfl, b1⟩
  | true =>
    go_wp2_with fail
    refine (HSD.out _ b1).mono ?_
    rintro e w2 ⟨rfl, hw2⟩
    subst hw2
    obtain ⟨e1, e2⟩ := HR.out
    rw [Bool.true_and] at e1
    subst e1
    cases B with
    | false =>
      simp only [Bool.false_eq_true, if_false] at e2
      subst e2
      clear HR HSD HJN HS8
      go_wp2
      go_ret2
      exact ⟨rfl, b1⟩
    | true =>
      simp only [if_true] at e2
      have hJ := HS8.out rfl
      have z1 : ¬ 9223372036854775807 < LT.size + J.size := by omega
      have hjn := fun W => HJN.out W rfl
      have HT : Hid (T = LT ++ J) := e2
      clear HR HSD HJN HS8 hT1 e2
      generalize S.length = n at *
      go_wp2_with fail
      refine (hjn _ b1).mono ?_
      rintro e w4 ⟨rfl, hb4⟩
      have b4 := b1.trans (hb4.mono b1.size)
      clear k0 k1 hb4
      go_wp2
      go_ret2
      rw [HT.out]
      exact ⟨rfl, b4⟩

def PjR (w : World) (U : ByteArray) (S : List ByteArray) (t i : Value) (wr : World) : Prop := ∃ m : Nat, m ≤ S.length ∧ i = .int .i64 m ∧ t = .string (U ++ joinT (S.take m)) ∧ Hid (Below w.heap.size w wr)

set_option maxRecDepth 100000 in
set_option maxHeartbeats 1000000 in
theorem sProofText_any (vb vs : Value) (gb ob gs os : Nat) (L : List Le) (S : List ByteArray) (x : Int) (w : World) (hb : RS 2 lcs w vb gb ob L) (hsm : SmallL L) (hs : SS w vs gs os S) :
    Calls Try.prog 9 #[.agg #[vb, vs], .int .i64 x] w fun e w' => e = .returned (.tuple #[.string (pxT L S x), .bool (pxB L S x)]) ∧ Below w.heap.size w w' := by
  obtain ⟨p0, p1⟩ := run_rangeP (w := w) (p := 0) (v1 := vb) (v2 := vs) 31
  have hba : Below w.heap.size w (w.alloc (.cells #[vb, vs] 31)) := (Below.refl _ _).alloc (Nat.le_refl _) _
  have HBS : Hid (∀ W, Below w.heap.size w W → RS 2 lcs W vb gb ob L ∧ SS W vs gs os S) := fun W hW => ⟨hb.later hW, hs.below hW hs.lt⟩
  have HPP : Hid (∀ W, Below (w.alloc (.cells #[vb, vs] 31)).heap.size (w.alloc (.cells #[vb, vs] 31)) W → W.cell? ⟨w.heap.size, 0, none⟩ = some vb ∧ W.cell? ⟨w.heap.size, 1, none⟩ = some vs ∧ Below w.heap.size w W) := fun W hW => ⟨cell_up p0 hW, cell_up p1 hW, hba.trans (hW.mono hba.size)⟩
  have hlt := sLeavesText_any vb gb ob L _ (HBS.out _ hba).1 hsm
  have HSD : Hid (∀ W, Below w.heap.size w W → Calls Try.prog 34 #[vs, .int .i64 x] W fun e w' => e = .returned (.bool (wideB S x)) ∧ w' = W) := fun W hW => l11Wide_any vs gs os S x W (HBS.out W hW).2
  have hT1 := lvT_le L
  have HR : Hid (pxB L S x = (LV.leavesB L && (decide (S.length ≤ 8) && wideB S x)) ∧ pxT L S x = if pxB L S x then lvT L ++ ⟨(M.varL S.length).toArray⟩ ++ joinT S else ⟨#[]⟩) := ⟨rfl, rfl⟩
  have HVT : Hid (∀ W, S.length ≤ 8 → Calls Try.prog 35 #[.int .i64 (S.length : Int)] W fun e w' => e = .returned (.string ⟨(M.varL S.length).toArray⟩) ∧ Below W.heap.size W w') := fun W h => l01Var_any S.length W (by omega)
  have HS8 : Hid ((decide (S.length ≤ 8) && wideB S x) = true → ∀ m, (joinT (S.take m)).size ≤ 8 * 1048576) := fun h m => sid_join (x := x) h m
  have HS9 : Hid ((decide (S.length ≤ 8) && wideB S x) = true → ∀ s ∈ S, s.size ≤ 32) := fun h => (sid_sizes (x := x) h).2
  have hT2 := varT_le S.length
  obtain ⟨aS, cS, rfl, hy1, hy2, hy3⟩ := hs
  obtain ⟨nS, hnS⟩ : ∃ nS, S.length = nS := ⟨_, rfl⟩
  have HN : Hid (S.length = nS) := hnS
  have HA : Hid (0 < nS → aS = some ⟨gs, os, none⟩) := by rw [← hnS]; exact hy2
  clear hy2 hy3
  rw [hnS] at hy1 hba p0 p1 HBS HPP HSD HR HVT HS8 HS9 hT2 hlt ⊢
  clear hnS
  generalize pxB L S x = B at *
  generalize pxT L S x = T at *
  generalize (⟨(M.varL nS).toArray⟩ : ByteArray) = V at *
  generalize wideB S x = A3 at *
  generalize LV.leavesB L = A1 at *
  generalize lvT L = LT at *
  clear hb hsm
  go_enter Try.func9, Try.ntmps9
  go_wp2_with fail
  refine hlt.mono ?_
  rintro e w1 ⟨rfl, hb1⟩
  obtain ⟨k0, k1, b1⟩ := HPP.out _ hb1
  clear hlt p0 p1 HPP
  cases A1 with
  | false =>
    obtain ⟨e1, e2⟩ := HR.out
    rw [Bool.false_and] at e1
    subst e1
    simp only [Bool.false_eq_true, if_false] at e2
    subst e2
    clear HR HSD HVT HS8 HS9
    go_wp2
    go_ret2
    exact ⟨rfl, b1⟩
  | true =>
    by_cases h8 : nS ≤ 8
    · go_wp2_with fail
      refine (HSD.out _ b1).mono ?_
      rintro e w2 ⟨rfl, hw2⟩
      subst hw2
      obtain ⟨e1, e2⟩ := HR.out
      rw [Bool.true_and, decide_eq_true h8, Bool.true_and] at e1
      subst e1
      cases B with
      | false =>
        simp only [Bool.false_eq_true, if_false] at e2
        subst e2
        clear HR HSD HVT HS8 HS9
        go_wp2
        go_ret2
        exact ⟨rfl, b1⟩
      | true =>
        simp only [if_true] at e2
        have hJ := HS8.out (by simp [h8])
        have hS := HS9.out (by simp [h8])
        have z1 : ¬ 9223372036854775807 < LT.size + V.size := by omega
        have hvt := fun W => HVT.out W h8
        have HT : Hid (T = LT ++ V ++ joinT S) := e2
        clear HR HSD HVT HS8 HS9 e2
        go_wp2_with fail
        refine (hvt _).mono ?_
        rintro e w3 ⟨rfl, hb3⟩
        have b3 := b1.trans (hb3.mono b1.size)
        have l1 := cell_up k1 hb3
        have HK1 : Hid (∀ W, Below w3.heap.size w3 W → W.cell? ⟨w.heap.size, 1, none⟩ = some (.slice aS nS cS)) := fun W hW => cell_up l1 hW
        have HB3 : Hid (Below w.heap.size w w3) := b3
        have hU : (LT ++ V).size ≤ 2000 := by rw [ByteArray.size_append]; omega
        have HST : Hid (PjR w3 (LT ++ V) S (.string (LT ++ V)) (.int .i64 0) w3) := ⟨0, by omega, rfl, by rw [List.take_zero, joinT_none]; congr 1; exact (ByteArray.append_empty (b := LT ++ V)).symm, Below.refl _ _⟩
        have HJJ : Hid (∀ m, (joinT (S.take m)).size ≤ 8 * 1048576) := hJ
        have HSS : Hid (∀ s ∈ S, s.size ≤ 32) := hS
        clear k0 k1 hb3 b3 b1 hb1 hJ hS hT1 hT2
        have hqd : decide ((8 : Int) < (nS : Int)) = false := decide_eq_false (by omega)
        go_wp2
        try simp only [hqd]
        generalize LT ++ V = U at *
        go_loopw [6, 8] (fun t i wr => PjR w3 U S t i wr) (fun _ i _ => nS - (intOf i).toNat)
        case atStart => exact HST.out
        case round =>
          obtain ⟨m, hm, rfl, rfl, HI⟩ := hrel
          clear HST
          rw [HN.out] at hm
          have c1 := HK1.out _ HI.out
          by_cases hlt : m < nS
          · have ea := HA.out (by omega)
            subst ea
            have hmS : m < S.length := by rw [HN.out]; exact hlt
            have c0 : wr.cell? ⟨gs, os + m, none⟩ = some (.string S[m]) := by
              obtain ⟨_, _, _, _, _, h6⟩ := (HBS.out wr (HB3.out.trans (HI.out.mono HB3.out.size))).2
              exact h6 m hmS
            have hst := joinT_take hmS
            have hj := HJJ.out m
            have hs32 := HSS.out _ (List.getElem_mem hmS)
            have HNX : Hid (∀ W, Below wr.heap.size wr W → PjR w3 U S (.string (U ++ (joinT (S.take m) ++ S[m]))) (.int .i64 ((m : Int) + 1)) W) := fun W hW => ⟨m + 1, by omega, by congr 1, by rw [hst], HI.out.trans (hW.mono HI.out.size)⟩
            rw [← ByteArray.append_assoc] at HNX
            clear hst
            generalize S[m] = X at *
            generalize joinT (S.take m) = J at *
            have z2 : ¬ 9223372036854775807 < (U ++ J).size + X.size := by rw [ByteArray.size_append]; omega
            have z3 : ¬ 9223372036854775807 < U.size + J.size + X.size := by omega
            have i1 : (m : Int) < (nS : Int) := by omega
            have i2 : (0 : Int) ≤ (m : Int) := by omega
            have HK : Hid (PjR w3 U S (.string (U ++ J ++ X)) (.int .i64 ((m : Int) + 1)) wr) := HNX.out _ (Below.refl _ _)
            clear HNX hj hs32
            go_wp2
            go_roundw
            case rel => exact HK.out
            case measure => simp [intOf]; omega
          · have hme : m = nS := by omega
            have i1 : ¬ (m : Int) < (nS : Int) := by omega
            have hT : T = U ++ joinT (S.take m) := by rw [HT.out, List.take_of_length_le (by rw [HN.out]; omega)]
            have bF := HB3.out.trans (HI.out.mono HB3.out.size)
            clear HI HBS HA
            go_wp2
            go_ret2
            exact ⟨rfl, bF⟩
    · obtain ⟨e1, e2⟩ := HR.out
      rw [Bool.true_and, decide_eq_false h8, Bool.false_and] at e1
      subst e1
      simp only [Bool.false_eq_true, if_false] at e2
      subst e2
      have i8 : (8 : Int) < (nS : Int) := by omega
      clear HR HSD HVT HS8 HS9
      go_wp2
      go_ret2
      exact ⟨rfl, b1⟩

end Go.Proofs.Ytfojmagcoipbnaa
/-
  The walk of the law FnExactProofText: it answers true of every argument.
-/
namespace Go.Proofs.Ytfojmagcoipbnaa
open Go.RowKit Go.BigFrame Go.Sort
set_option linter.unusedVariables false
set_option linter.unusedSimpArgs false

set_option maxRecDepth 100000 in
set_option maxHeartbeats 2000000 in
theorem proofTextLaw_any (v1 v2 : Value) (g1 o1 g2 o2 : Nat) (L : List Le) (S : List ByteArray) (x : Int) (w : World) (h1 : IsRowL w v1 g1 o1 L) (h2 : IsRowT w v2 g2 o2 S) :
    Calls Try.prog 3 #[.agg #[v1, v2], .int .i64 x] w fun e w' => e = .returned (.bool true) ∧ Below w.heap.size w w' := by
  have HX := PoX.start w v1 v2
  have p0 := HX.2.2.1
  have p1 := HX.2.2.2
  have hsz := szProof_row v1 v2 g1 o1 g2 o2 L S 1048576 _ (h1.later HX.1) (h2.later HX.1) (by omega) (by omega)
  clear h1 h2
  go_enter Try.func3, Try.ntmps3
  go_wp2_with fail
  refine hsz.mono ?_
  rintro e w1 ⟨A, rfl, hb1, _, hA⟩
  have HX1 : Hid (PoX w w1 v1 v2) := HX.later hb1
  clear hsz HX p0 p1
  by_cases hneg : A < 0
  · clear hA
    go_wp2
    go_ret
    exact ⟨rfl, HX1.out.1⟩
  obtain ⟨hrs, hsm, hll, hss, hst, hsl⟩ := hA (by omega)
  clear hA
  have hrs1 := hrs.later hb1
  have hss1 := hss.below hb1 hss.lt
  clear hrs hss hb1
  have HTO : Hid (∀ W, Below w1.heap.size w1 W → Calls Try.prog 10 #[.agg #[v1, v2]] W (ToP L S W)) := fun W hW => toProof_any v1 v2 g1 o1 g2 o2 L S W (hrs1.later hW) (hss1.below hW hss1.lt)
  have HCS : Hid (∀ W k1 k2, RW 2 lcs W (.slice (some ⟨k1, 0, none⟩) L.length L.length) k1 L → TS W (.slice (some ⟨k2, 0, none⟩) S.length S.length) k2 S → Calls Try.prog 9 #[.agg #[.slice (some ⟨k1, 0, none⟩) L.length L.length, .slice (some ⟨k2, 0, none⟩) S.length S.length], .int .i64 x] W fun e w' => e = .returned (.tuple #[.string (pxT L S x), .bool (pxB L S x)]) ∧ Below W.heap.size W w') := fun W k1 k2 h3 h4 => sProofText_any _ _ k1 0 k2 0 L S x W h3.1 hsm h4.ss
  have HCI : Hid (∀ W k1 k2, Below w.heap.size w W → RW 2 lcs W (.slice (some ⟨k1, 0, none⟩) L.length L.length) k1 L → TS W (.slice (some ⟨k2, 0, none⟩) S.length S.length) k2 S → Calls Try.prog 11 #[.agg #[.slice (some ⟨k1, 0, none⟩) L.length L.length, .slice (some ⟨k2, 0, none⟩) S.length S.length], .int .i64 x] W fun e w' => e = .returned (.tuple #[.string (pxT L S x), .bool (pxB L S x)]) ∧ Below W.heap.size W w') := fun W k1 k2 hW h3 h4 => ProofText_any _ _ k1 0 k2 0 L S x W h3.1 hsm h4.ss (fun _ _ _ he => by simp only [Value.slice.injEq] at he; omega)
  unfold ToP at HTO
  generalize pxT L S x = R at *
  generalize pxB L S x = R2 at *
  have p0 := HX1.out.2.2.1
  have p1 := HX1.out.2.2.2
  clear hrs1 hss1 hsm hst
  go_wp2_with fail
  refine (HTO.out _ (Below.refl _ _)).mono ?_
  rintro e w2 ⟨k1, k2, rfl, hr2, ht2, _, _, _, _, _, hb2⟩
  go_wp2_with fail
  refine (HCS.out _ _ _ hr2 ht2).mono ?_
  rintro e w3 ⟨rfl, hb3⟩
  have hb13 := hb2.trans (hb3.mono hb2.size)
  have HX3 := HX1.out.later hb13
  clear hr2 ht2 hb2 hb3 HCS p0 p1
  have p0 := HX3.2.2.1
  have p1 := HX3.2.2.2
  go_wp2_with fail
  refine (HTO.out _ hb13).mono ?_
  rintro e w4 ⟨j1, j2, rfl, hr4, ht4, _, _, _, _, _, hb4⟩
  have hb14 := hb13.trans (hb4.mono hb13.size)
  have hba : Below w4.heap.size w4 (w4.alloc (.cells #[.slice (some ⟨j1, 0, none⟩) L.length L.length, .slice (some ⟨j2, 0, none⟩) S.length S.length] 31)) := (Below.refl _ _).alloc (Nat.le_refl _) _
  have hpn := PfM.new w4 (.slice (some ⟨j1, 0, none⟩) L.length L.length) (.slice (some ⟨j2, 0, none⟩) S.length S.length)
  have hr5 := hr4.later hba
  have ht5 := ht4.later hba
  have hb15 := hb14.trans (hba.mono hb14.size)
  have HX5 := HX1.out.later hb15
  clear hr4 ht4 hb4 hb13 hb14 HX3 p0 p1
  go_wp2_with fail
  refine (HCI.out _ _ _ HX5.1 hr5 ht5).mono ?_
  rintro e w6 ⟨rfl, hb6⟩
  have hb16 := hb15.trans (hb6.mono hb15.size)
  have HX6 := HX1.out.later hb16
  have HP6 := hpn.later hb6
  have HR6 : Hid (RW 2 lcs w6 (.slice (some ⟨j1, 0, none⟩) L.length L.length) j1 L ∧ TS w6 (.slice (some ⟨j2, 0, none⟩) S.length S.length) j2 S) := ⟨hr5.later hb6, ht5.later hb6⟩
  clear hr5 ht5 hpn hb6 HX5 HCI hb15 hba
  have HK : Hid (∀ W, Below w6.heap.size w6 W → (W.cell? ⟨w4.heap.size, 0, none⟩ = some (.slice (some ⟨j1, 0, none⟩) L.length L.length) ∧ W.cell? ⟨w4.heap.size, 1, none⟩ = some (.slice (some ⟨j2, 0, none⟩) S.length S.length) ∧ W.cell? ⟨w.heap.size, 0, none⟩ = some v1 ∧ W.cell? ⟨w.heap.size, 1, none⟩ = some v2)) := fun W hW => ⟨cell_up HP6.c0 hW, cell_up HP6.c1 hW, cell_up HX6.2.2.1 hW, cell_up HX6.2.2.2 hW⟩
  have HTO6 : Hid (∀ W, Below w6.heap.size w6 W → Calls Try.prog 10 #[.agg #[v1, v2]] W (ToP L S W)) := fun W hW => HTO.out W (hb16.trans (hW.mono hb16.size))
  have HEQ : Hid (∀ W i1 i2, Below w6.heap.size w6 W → RW 2 lcs W (.slice (some ⟨i1, 0, none⟩) L.length L.length) i1 L → TS W (.slice (some ⟨i2, 0, none⟩) S.length S.length) i2 S → Calls Try.prog 12 #[.agg #[.slice (some ⟨j1, 0, none⟩) L.length L.length, .slice (some ⟨j2, 0, none⟩) S.length S.length], .agg #[.slice (some ⟨i1, 0, none⟩) L.length L.length, .slice (some ⟨i2, 0, none⟩) S.length S.length]] W fun e w' => e = .returned (.bool true) ∧ Below W.heap.size W w') := fun W i1 i2 hW h3 h4 => eqProof_yes _ _ _ _ j1 0 j2 0 i1 0 i2 0 L S W (HR6.out.1.later hW).1 (HR6.out.2.later hW).ss h3.1 h4.ss
  unfold ToP at HTO6
  have hb0 : Below w6.heap.size w6 w6.drew := (Below.refl _ _).drew
  have HX7 := HX6.1
  clear HX6 HP6 HR6 HTO HX1 hb16
  go_wp2
  go_region_held3 (fun W => W.cell? ⟨w4.heap.size, 0, none⟩ = some (.slice (some ⟨j1, 0, none⟩) L.length L.length) ∧ W.cell? ⟨w4.heap.size, 1, none⟩ = some (.slice (some ⟨j2, 0, none⟩) S.length S.length) ∧ W.cell? ⟨w.heap.size, 0, none⟩ = some v1 ∧ W.cell? ⟨w.heap.size, 1, none⟩ = some v2) (first | (go_keep; done) | exact HK.out _ hb0) (first | (go_at_call 10; refine (HTO6.out _ hb0).mono ?_; rintro e w7 ⟨i1, i2, rfl, hr7, ht7, _, _, _, _, _, hc7⟩; have hb0 := hb0.trans (hc7.mono hb0.size)) | (go_at_call 12; refine (HEQ.out _ i1 i2 hb0 hr7 ht7).mono ?_; rintro e w8 ⟨rfl, hc8⟩; have hb0 := hb0.trans (hc8.mono hb0.size)) | fail)
  go_wp2
  go_ret
  exact ⟨rfl, HX7.trans (hb0.mono HX7.size)⟩

end Go.Proofs.Ytfojmagcoipbnaa
/-
  A proof that is answered, and a word beside it.
-/
namespace Go.Proofs.Ytfojmagcoipbnaa
open Go.RowKit Go.BigFrame Go.Sort
set_option linter.unusedVariables false
set_option linter.unusedSimpArgs false

/-- a proof answered, in new memory, and a word beside it -/
def PvP (B : List Le) (S : List ByteArray) (b : Bool) (w : World) (e : Ending) (w' : World) : Prop := ∃ ab cb aS cS gb gs, e = .returned (.tuple #[.agg #[.slice ab B.length cb, .slice aS S.length cS], .bool b]) ∧ RW 2 lcs w' (.slice ab B.length cb) gb B ∧ TS w' (.slice aS S.length cS) gs S ∧ w.heap.size ≤ gb ∧ w.heap.size ≤ gs ∧ ((0 < B.length → 0 < S.length → gb ≠ gs) ∧ S.length ≤ cS) ∧ Below w.heap.size w w'
theorem PvP.no {w w' : World} (hb : Below w.heap.size w w') : PvP [] [] false w (.returned (.tuple #[.agg #[.slice none 0 0, .slice none 0 0], .bool false])) w' :=
  ⟨none, 0, none, 0, w.heap.size, w.heap.size, rfl, RW.nil _ _, TS.nil _ _, Nat.le_refl _, Nat.le_refl _, ⟨fun h => absurd h (by simp), Nat.le_refl _⟩, hb⟩

end Go.Proofs.Ytfojmagcoipbnaa
/-
  A proof in a law's box, and what it is made of.
-/
namespace Go.Proofs.Ytfojmagcoipbnaa
open Go.RowKit Go.BigFrame Go.Sort
set_option linter.unusedVariables false
set_option linter.unusedSimpArgs false

/-- a proof in its box, and what it is made of -/
def PbX (W : World) (p : Nat) (v1 v2 : Value) (g1 g2 : Nat) (B : List Le) (S : List ByteArray) : Prop := PfM W p v1 v2 ∧ RW 2 lcs W v1 g1 B ∧ TS W v2 g2 S
theorem PbX.later {W W' : World} {p : Nat} {v1 v2 : Value} {g1 g2 : Nat} {B : List Le} {S : List ByteArray} (h : PbX W p v1 v2 g1 g2 B S) (hb : Below W.heap.size W W') : PbX W' p v1 v2 g1 g2 B S := ⟨h.1.later hb, h.2.1.later hb, h.2.2.later hb⟩
theorem PbX.new {w : World} {a1 a2 : Option Addr} {c1 c2 n1 n2 g1 g2 : Nat} {B : List Le} {S : List ByteArray} (h1 : RW 2 lcs w (.slice a1 n1 c1) g1 B) (h2 : TS w (.slice a2 n2 c2) g2 S) : PbX (w.alloc (.cells #[.slice a1 n1 c1, .slice a2 n2 c2] 31)) w.heap.size (.slice a1 n1 c1) (.slice a2 n2 c2) g1 g2 B S := by
  have hb : Below w.heap.size w (w.alloc (.cells #[.slice a1 n1 c1, .slice a2 n2 c2] 31)) := (Below.refl _ _).alloc (Nat.le_refl _) _
  exact ⟨PfM.new w _ _, h1.later hb, h2.later hb⟩
theorem PbX.grown {W W' : World} {p : Nat} {v1 v2 : Value} {g1 g2 : Nat} {B : List Le} {S : List ByteArray} {row : Option Nat} (h : PbX W p v1 v2 g1 g2 B S) (hg : W.grownBy W' row) (hp : some p ≠ row) (h1 : 0 < B.length → some g1 ≠ row) (h2 : 0 < S.length → some g2 ≠ row) : PbX W' p v1 v2 g1 g2 B S :=
  ⟨h.1.keep (hg.block _ h.1.lt hp), h.2.1.grown hg h1, h.2.2.keptG hg h2⟩
theorem PbX.eq {W : World} {p q : Nat} {v1 v2 u1 u2 : Value} {g1 g2 k1 k2 : Nat} {B : List Le} {S : List ByteArray} (h : PbX W p v1 v2 g1 g2 B S) (k : PbX W q u1 u2 k1 k2 B S) : Calls Try.prog 12 #[.agg #[v1, v2], .agg #[u1, u2]] W fun e w' => e = .returned (.bool true) ∧ Below W.heap.size W w' :=
  eqProof_yes v1 v2 u1 u2 g1 0 g2 0 k1 0 k2 0 B S W h.2.1.1 h.2.2.ss k.2.1.1 k.2.2.ss

end Go.Proofs.Ytfojmagcoipbnaa
