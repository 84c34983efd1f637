/-
  Texts laid together: Jsr4, Jsr5, Jsra, GLv.
-/
import Derived.Test.YthlgohplljcgfaaGreatDoorPkESN37
import Derived.Test.YthlgohplljcgfaaGreatDoorPkESN28
import Derived.Test.YthlgohplljcgfaaGreatDoorPkESN39
import Derived.Test.YthlgohplljcgfaaGreatDoorPkESN40
import Derived.Test.YthlgohplljcgfaaGreatDoorPkESN29
import Derived.Test.YthlgohplljcgfaaGreatDoorPkESN35
import Derived.OwnWalk
/-
  A record of an end given up: the specification.
-/
namespace Go.Proofs.YthlgohplljcgfaaGreatDoor
open Go.RowKit Go.BigFrame Go.Sort
set_option linter.unusedVariables false
set_option linter.unusedSimpArgs false

set_option maxRecDepth 100000 in
set_option maxHeartbeats 4000000 in
theorem sRecord_4 {B : Nat} {w0 w : World} {p : Nat} {n : Sn} {vd vv vt va : Value} {L : Sr} {V : List Value} {G : Nat → Nat} {gd : Nat} (h : SvO B w0 w p n vd vv vt va L V G gd) (t : ByteArray) (ht : t.size ≤ 1048576) (h0 : 0 < t.size) (hr : (n.r0 = 0 ∧ n.r1 = 0 ∧ n.r2 = 0) ∨ 0 < n.r0) (hk : byB t 0 = 4) :
    Calls Tryz.prog 29 #[.pointer (some ⟨p, 0, none⟩), .string t] w (RdP B w0 p n vd L.F gd (SR.recS n.a n.k (Ss.of n L) t)) := by
  have HS : Hid (∀ W, Below w.heap.size w W → SvO B w0 W p n vd vv vt va L V G gd) := fun W hW => h.later hW
  have HB0 : Hid (Below w.heap.size w (w.alloc (.cells #[.string t, .int .i64 0, .bool false] 99)) ∧ Cu (w.alloc (.cells #[.string t, .int .i64 0, .bool false] 99)) w.heap.size t 0 false) := ⟨below_alloc _ _, Go.heap_alloc_new w _⟩
  have hkn : ((byB t 0).toNat : Int) = 4 := by rw [hk]; rfl
  have HRC : Hid (∀ x y, SR.numsT t 2 = some [x, y] → SR.recS n.a n.k (Ss.of n L) t = if (x : Int) = n.r0 ∧ (y : Int) = n.r1 then Ss.of ⟨n.a, n.k, n.u, n.e, 0, 0, 0⟩ L else Ss.of n L) := fun x y e => by
    rw [SR.recS_4 hk h0, e]
    rfl
  have HRN : Hid (SR.numsT t 2 = none → SR.recS n.a n.k (Ss.of n L) t = Ss.of n L) := fun e => by
    rw [SR.recS_4 hk h0, e]
  clear h
  go_enter Tryz.func29, Tryz.ntmps29
  go_wp2_with fail
  refine (l09Byte_yes w.heap.size t 0 _ HB0.out.2 ht h0).mono ?_
  rintro e_ w2 ⟨⟨rfl, hcu⟩, hg⟩
  have HB2 : Hid (Below w.heap.size w w2 ∧ Cu w2 w.heap.size t 1 false) := ⟨HB0.out.1.grown hg HB0.out.1.size (fun k hk => by simp at hk; omega), hcu⟩
  clear hcu hg HB0
  rw [hkn]
  go_wp2_with fail
  refine (l09Var_u w.heap.size t 1 _ HB2.out.2 ht (by omega)).mono ?_
  rintro e_ w3 ⟨n1, p1, b1, rfl, hcu, hp1, h1, k1, hg⟩
  have HB3 : Hid (Below w.heap.size w w3 ∧ Cu w3 w.heap.size t p1 b1) := ⟨HB2.out.1.grown hg HB2.out.1.size (fun k hk => by simp at hk; omega), hcu⟩
  have HV1 : Hid (_ ∧ _) := ⟨h1, k1⟩
  clear hcu hg HB2 h1 k1
  go_wp2_with fail
  refine (l09Var_w w.heap.size t p1 b1 _ HB3.out.2 ht hp1).mono ?_
  rintro e_ w4 ⟨n2, p2, b2, rfl, hcu, hp2, h2, k2, hg⟩
  have HB4 : Hid (Below w.heap.size w w4 ∧ Cu w4 w.heap.size t p2 b2) := ⟨HB3.out.1.grown hg HB3.out.1.size (fun k hk => by simp at hk; omega), hcu⟩
  have HV2 : Hid (_ ∧ _) := ⟨h2, k2⟩
  clear hcu hg HB3 h2 k2
  have hN := SR.readT2 HV1.out.1 HV1.out.2 HV2.out.1 HV2.out.2
  clear HV1 HV2 hp1
  have HS4 : Hid (SvO B w0 w4 p n vd vv vt va L V G gd) := HS.out w4 HB4.out.1
  have c1 := HB4.out.2.c1
  have c2 := HB4.out.2.c2
  have HN : Hid _ := hN
  clear hN HS
  cases b2 with
  | true =>
    have HF : Hid (SvO B w0 w4 p n vd vv vt va L V G gd ∧ SR.recS n.a n.k (Ss.of n L) t = Ss.of n L) := ⟨HS4.out, HRN.out (HN.out.1 rfl)⟩
    clear HN HRN HRC HB4 HS4
    go_wp2
    refine bodyPost_ret (results_none rfl _ _ _) rfl ?_
    exact ⟨rfl, n, vv, vt, va, L, V, G, HF.out.1, HF.out.2.symm, rfl, rfl, rfl, rfl⟩
  | false =>
    by_cases hz : p2 = t.size
    · have hN1 := HN.out.2 rfl
      rw [if_pos hz] at hN1
      have hrc := HRC.out _ _ hN1
      have q1 : ((p2 : Int) == (t.size : Int)) = true := by simp [hz]
      have z8 := HS4.out.box.at 8 _ rfl
      have z9 := HS4.out.box.at 9 _ rfl
      have z10 := HS4.out.box.at 10 _ rfl
      have f8 := HS4.out.box.fz 8
      have f9 := HS4.out.box.fz 9
      have f10 := HS4.out.box.fz 10
      clear HN HRN HRC
      by_cases hx : (n1 : Int) = n.r0
      · have q2 : (n.r0 == (n1 : Int)) = true := by simp [hx]
        by_cases hy : (n2 : Int) = n.r1
        · have q3 : (n.r1 == (n2 : Int)) = true := by simp [hy]
          rw [if_pos ⟨hx, hy⟩] at hrc
          by_cases hp : 0 < n.r0
          · have HF : Hid (SvO B w0 (((w4.setCell ⟨p, 8, none⟩ (.int .i64 0)).setCell ⟨p, 9, none⟩ (.int .i64 0)).setCell ⟨p, 10, none⟩ (.int .i64 0)) p ⟨n.a, n.k, n.u, n.e, 0, 0, 0⟩ vd vv vt va L V G gd) := HS4.out.keepR (grown_put3 _ p 8 9 10 _ _ _) (HS4.out.box.put3 _ _ _)
            have HRC3 := hide hrc
            have q4 : (0 : Int) < (n1 : Int) := by omega
            clear hrc hN1 hr HS4 HB4
            go_wp2
            refine bodyPost_end (results_none rfl _ _ _) rfl ?_
            exact ⟨rfl, _, vv, vt, va, L, V, G, HF.out, HRC3.out.symm, rfl, rfl, rfl, rfl⟩
          · have hs : Ss.of ⟨n.a, n.k, n.u, n.e, 0, 0, 0⟩ L = Ss.of n L := by
              rcases hr with ⟨h1, h2, h3⟩ | h1
              · unfold Ss.of
                rw [h1, h2, h3]
              · exact absurd h1 hp
            have HF : Hid (SvO B w0 w4 p n vd vv vt va L V G gd ∧ SR.recS n.a n.k (Ss.of n L) t = Ss.of n L) := ⟨HS4.out, hrc.trans hs⟩
            have q4 : ¬ (0 : Int) < (n1 : Int) := by omega
            clear hrc hN1 hr HS4 HB4 hs
            go_wp2
            refine bodyPost_end (results_none rfl _ _ _) rfl ?_
            exact ⟨rfl, n, vv, vt, va, L, V, G, HF.out.1, HF.out.2.symm, rfl, rfl, rfl, rfl⟩
        · rw [if_neg (fun h => hy h.2)] at hrc
          have HF : Hid (SvO B w0 w4 p n vd vv vt va L V G gd ∧ SR.recS n.a n.k (Ss.of n L) t = Ss.of n L) := ⟨HS4.out, hrc⟩
          have q3 : (n.r1 == (n2 : Int)) = false := by simp; omega
          clear hrc hN1 hr HS4 HB4
          go_wp2
          refine bodyPost_end (results_none rfl _ _ _) rfl ?_
          exact ⟨rfl, n, vv, vt, va, L, V, G, HF.out.1, HF.out.2.symm, rfl, rfl, rfl, rfl⟩
      · rw [if_neg (fun h => hx h.1)] at hrc
        have HF : Hid (SvO B w0 w4 p n vd vv vt va L V G gd ∧ SR.recS n.a n.k (Ss.of n L) t = Ss.of n L) := ⟨HS4.out, hrc⟩
        have q2 : (n.r0 == (n1 : Int)) = false := by simp; omega
        clear hrc hN1 hr HS4 HB4
        go_wp2
        refine bodyPost_end (results_none rfl _ _ _) rfl ?_
        exact ⟨rfl, n, vv, vt, va, L, V, G, HF.out.1, HF.out.2.symm, rfl, rfl, rfl, rfl⟩
    · have hN1 := HN.out.2 rfl
      rw [if_neg hz] at hN1
      have HF : Hid (SvO B w0 w4 p n vd vv vt va L V G gd ∧ SR.recS n.a n.k (Ss.of n L) t = Ss.of n L) := ⟨HS4.out, HRN.out hN1⟩
      have q1 : ((p2 : Int) == (t.size : Int)) = false := by simp; omega
      clear HN HRN HRC HB4 HS4 hN1
      go_wp2
      refine bodyPost_ret (results_none rfl _ _ _) rfl ?_
      exact ⟨rfl, n, vv, vt, va, L, V, G, HF.out.1, HF.out.2.symm, rfl, rfl, rfl, rfl⟩

end Go.Proofs.YthlgohplljcgfaaGreatDoor
/-
  A record of no known kind: the specification.
-/
namespace Go.Proofs.YthlgohplljcgfaaGreatDoor
open Go.RowKit Go.BigFrame Go.Sort
set_option linter.unusedVariables false
set_option linter.unusedSimpArgs false

set_option maxRecDepth 100000 in
set_option maxHeartbeats 4000000 in
theorem sRecord_5 {B : Nat} {w0 w : World} {p : Nat} {n : Sn} {vd vv vt va : Value} {L : Sr} {V : List Value} {G : Nat → Nat} {gd : Nat} (h : SvO B w0 w p n vd vv vt va L V G gd) (t : ByteArray) (ht : t.size ≤ 1048576) (h0 : 0 < t.size) (hk1 : byB t 0 ≠ 1) (hk2 : byB t 0 ≠ 2) (hk3 : byB t 0 ≠ 3) (hk4 : byB t 0 ≠ 4) :
    Calls Tryz.prog 29 #[.pointer (some ⟨p, 0, none⟩), .string t] w (RdP B w0 p n vd L.F gd (SR.recS n.a n.k (Ss.of n L) t)) := by
  have HS : Hid (∀ W, Below w.heap.size w W → SvO B w0 W p n vd vv vt va L V G gd) := fun W hW => h.later hW
  have HB0 : Hid (Below w.heap.size w (w.alloc (.cells #[.string t, .int .i64 0, .bool false] 99)) ∧ Cu (w.alloc (.cells #[.string t, .int .i64 0, .bool false] 99)) w.heap.size t 0 false) := ⟨below_alloc _ _, Go.heap_alloc_new w _⟩
  have hrc := SR.recS_5 (a := n.a) (k := n.k) (s := Ss.of n L) hk1 hk2 hk3 hk4
  have hne : ∀ z : UInt8, byB t 0 ≠ z → (((byB t 0).toNat : Int) == (z.toNat : Int)) = false := fun z hz => by
    simp
    intro e
    exact hz (UInt8.toNat_inj.1 (by omega))
  have y1 : (((byB t 0).toNat : Int) == 1) = false := hne 1 hk1
  have y2 : (((byB t 0).toNat : Int) == 2) = false := hne 2 hk2
  have y3 : (((byB t 0).toNat : Int) == 3) = false := hne 3 hk3
  have y4 : (((byB t 0).toNat : Int) == 4) = false := hne 4 hk4
  clear hne
  clear h
  go_enter Tryz.func29, Tryz.ntmps29
  go_wp2_with fail
  refine (l09Byte_yes w.heap.size t 0 _ HB0.out.2 ht h0).mono ?_
  rintro e_ w2 ⟨⟨rfl, hcu⟩, hg⟩
  have HB2 : Hid (Below w.heap.size w w2 ∧ Cu w2 w.heap.size t 1 false) := ⟨HB0.out.1.grown hg HB0.out.1.size (fun k hk => by simp at hk; omega), hcu⟩
  clear hcu hg HB0
  obtain ⟨X, hX⟩ : ∃ X : Int, ((byB t 0).toNat : Int) = X := ⟨_, rfl⟩
  rw [hX] at y1 y2 y3 y4 ⊢
  clear hX hk1 hk2 hk3 hk4
  go_wp2_with fail
  refine (l09Var_u w.heap.size t 1 _ HB2.out.2 ht (by omega)).mono ?_
  rintro e_ w3 ⟨n1, p1, b1, rfl, hcu, hp1, h1, k1, hg⟩
  have HB3 : Hid (Below w.heap.size w w3 ∧ Cu w3 w.heap.size t p1 b1) := ⟨HB2.out.1.grown hg HB2.out.1.size (fun k hk => by simp at hk; omega), hcu⟩
  have HV1 : Hid (_ ∧ _) := ⟨h1, k1⟩
  clear hcu hg HB2 h1 k1
  clear HV1
  have HF : Hid (SvO B w0 w3 p n vd vv vt va L V G gd ∧ SR.recS n.a n.k (Ss.of n L) t = Ss.of n L) := ⟨HS.out w3 HB3.out.1, hrc⟩
  have c1 := HB3.out.2.c1
  have c2 := HB3.out.2.c2
  clear HS hrc HB3
  cases b1 with
  | true =>
    go_wp2
    refine bodyPost_ret (results_none rfl _ _ _) rfl ?_
    exact ⟨rfl, n, vv, vt, va, L, V, G, HF.out.1, HF.out.2.symm, rfl, rfl, rfl, rfl⟩
  | false =>
    by_cases hz : p1 = t.size
    · have q1 : ((p1 : Int) == (t.size : Int)) = true := by simp [hz]
      go_wp2
      refine bodyPost_end (results_none rfl _ _ _) rfl ?_
      exact ⟨rfl, n, vv, vt, va, L, V, G, HF.out.1, HF.out.2.symm, rfl, rfl, rfl, rfl⟩
    · have q1 : ((p1 : Int) == (t.size : Int)) = false := by simp; omega
      go_wp2
      refine bodyPost_ret (results_none rfl _ _ _) rfl ?_
      exact ⟨rfl, n, vv, vt, va, L, V, G, HF.out.1, HF.out.2.symm, rfl, rfl, rfl, rfl⟩

end Go.Proofs.YthlgohplljcgfaaGreatDoor
/-
  What a record does: the specification.
-/
namespace Go.Proofs.YthlgohplljcgfaaGreatDoor
open Go.RowKit Go.BigFrame Go.Sort
set_option linter.unusedVariables false
set_option linter.unusedSimpArgs false

theorem sRecord_any {B : Nat} {w0 w : World} {p : Nat} {n : Sn} {vd vv vt va : Value} {L : Sr} {V : List Value} {G : Nat → Nat} {gd : Nat} (h : SvO B w0 w p n vd vv vt va L V G gd) (t : ByteArray) (ht : t.size ≤ 1048576) (h0 : 0 < t.size) (hr : (n.r0 = 0 ∧ n.r1 = 0 ∧ n.r2 = 0) ∨ 0 < n.r0) (hI0 : 0 < L.I.length) (hl : L.U.length < 1000000) (hP : L.P.length < 1000000) (hI : L.I.length < 1000000) (hUl : L.U.length ≤ 1000000) (hsm : SmallUs L.U) (he0 : 0 ≤ n.e) (he1 : n.e ≤ 1000000) :
    Calls Tryz.prog 29 #[.pointer (some ⟨p, 0, none⟩), .string t] w (RdP B w0 p n vd L.F gd (SR.recS n.a n.k (Ss.of n L) t)) := by
  by_cases h1 : byB t 0 = 1
  · exact sRecord_1 h t ht h0 hl h1
  by_cases h2 : byB t 0 = 2
  · exact sRecord_2 h t ht h0 hI0 hI hUl he0 he1 h2
  by_cases h3 : byB t 0 = 3
  · exact sRecord_3 h t ht h0 hP hI hUl hsm he0 he1 hr h3
  by_cases h4 : byB t 0 = 4
  · exact sRecord_4 h t ht h0 hr h4
  · exact sRecord_5 h t ht h0 h1 h2 h3 h4

end Go.Proofs.YthlgohplljcgfaaGreatDoor
/-
  The specification's LogTexts: it answers the same texts.
-/
namespace Go.Proofs.YthlgohplljcgfaaGreatDoor
open Go.RowKit
set_option linter.unusedVariables false
set_option linter.unusedSimpArgs false

/-- a whole row of texts appended to an empty one -/
theorem wp_strs {w : World} {ops : Array Oper} {rest : List Oper} {o : Oper} {a : Act} {Q : Exit → Act → World → Prop} (hgd : o.guard = none) (s x : Operand)
    (ho : o.op = .call { callee := .builtin .append, args := #[s, x], argTypes := #[60, 60] })
    (B : Nat) (w0 : World) (g : Nat) (hs : a.eval s = .slice (some ⟨g, 0, none⟩) 0 0) (h : OS B w0 w (.slice (some ⟨g, 0, none⟩) 0 0) []) (B2 : Nat) (w2 : World) (u : Value) (l : List ByteArray) (hx : a.eval x = u) (hu : OS B2 w2 w u l) (hlen : l.length ≤ 1000000)
    (hk : ∀ v' w', OS B w0 w' v' l → wpList Tryz.prog ops Q rest (a.put o.dst v') w') : wpList Tryz.prog ops Q (o :: rest) a w := by
  obtain ⟨i0, hi, hz0, hz1, hz2⟩ := info_parts Tryz.info9
  rcases hu.shape with ⟨rfl, rfl⟩ | ⟨g2, cap, rfl, _, _⟩
  · refine wpList_append_fits_any w hgd s x 60 ho B 9 i0 1 Tryz.underlying60 hi hz1 g 0 0 [] hs h.1 none 0 0 [] hx rfl (fun _ => ⟨rfl, rfl⟩) (fun ad h => by cases h) (fun u hu => by cases hu) (by omega) ?_
    intro w' h1 h2
    exact hk _ _ ⟨by simpa [svs] using h1, h.2.1.grown h2 h.2.2 (fun k hk => (h.1.lt k hk).1), Nat.le_trans h.2.2 h2.size⟩
  · refine wpList_append_own _ hgd s x 60 ho B 9 i0 (.string ByteArray.empty) 1 16 Tryz.underlying60 hi hz0 hz1 hz2 rfl (by decide) _ 0 [] hs h.1 ⟨g2, 0, none⟩ l.length cap (svs l) hx (by simp [svs]) ?_
      (fun u hu => by obtain ⟨t, _, ht⟩ := List.mem_map.1 hu; subst ht; rfl) (by unfold maxLen; omega) (by omega) h.2.2 ?_
    · intro j u hj
      have hj2 : j < l.length := by have := (List.getElem?_eq_some_iff.1 hj).1; simpa [svs] using this
      have e : u = .string l[j] := by simpa [svs, List.getElem?_eq_getElem hj2] using hj.symm
      rw [Addr.add_lit, Nat.zero_add, e]
      exact hu.at j hj2
    · intro v' w' h1 h2 _
      exact hk _ _ ⟨by simpa [svs] using h1, h.2.1.grown h2 h.2.2 (fun k hk => (h.1.lt k hk).1), Nat.le_trans h.2.2 h2.size⟩

set_option maxHeartbeats 1000000 in
theorem sLogTexts_any (v : Value) (ga oa : Nat) (L : List Fl) (x : ByteArray) (w : World) (hv : RS 3 fcs w v ga oa L) (hs : SmallF L) :
    Calls Tryz.prog 28 #[.agg #[v], .string x] w (LtP w (ltT L x)) := by
  have hv1 := hv.later (bxD.below w v)
  have HC := sDiskOk_any v ga oa L _ hv1
  have HB : Hid (Below w.heap.size w (bxD w v) ∧ (bxD w v).cell? ⟨w.heap.size, 0, none⟩ = some v ∧ w.heap.size < (bxD w v).heap.size) := ⟨bxD.below w v, bxD.cell w v, bxD.lt w v⟩
  have HF : Hid (∀ W, Below (bxD w v).heap.size (bxD w v) W → Calls Tryz.prog 64 #[.agg #[v], .string x] W fun e w' => e = .returned (.tuple #[.string (F.fileT L x), .bool (F.fileO L x)]) ∧ Below W.heap.size W w') := fun W hW => sFileAt_any v ga oa L x W (hv1.later hW)
  have hz := fileT_le (x := x) hs
  obtain ⟨M, hM⟩ : ∃ M, ltT L x = M := ⟨_, rfl⟩
  have hl : M.length ≤ 20000 := by rw [← hM]; exact ltT_len L x
  rw [hM]
  obtain ⟨a, cap, rfl⟩ := hv.shape
  unfold bxD at HC HF HB
  cases hd : F.diskB L with
  | false =>
    obtain rfl : M = [] := by rw [← hM]; simp [ltT, hd]
    rw [hd] at HC
    clear hv hv1 hs hz hl hd hM HF
    go_enter Tryz.func28, Tryz.ntmps28
    go_wp2_with fail
    refine HC.mono ?_
    rintro e w1 ⟨rfl, hb1⟩
    have HB1 : Hid (Below w.heap.size w w1) := HB.out.1.trans (hb1.mono HB.out.1.size)
    clear HB HC hb1
    go_wp2
    go_ret
    exact LtP.mk ((OS.made w1).wide HB1.out HB1.out.size)
  | true =>
    have hM2 : textsOf (framesOf (F.fileT L x)) = M := by rw [← hM]; simp [ltT, hd]
    rw [hd] at HC
    have HU : Hid (∀ W, Calls Tryz.prog 65 #[.string (F.fileT L x)] W (UnQ W (endOf (framesOf (F.fileT L x))) M)) := fun W => sUnframe_at _ _ _ W hz ⟨rfl, hM2⟩
    generalize endOf (framesOf (F.fileT L x)) = E at *
    generalize F.fileT L x = T at *
    generalize F.fileO L x = R at *
    clear hv hv1 hs hz hd hM hM2
    go_enter Tryz.func28, Tryz.ntmps28
    go_wp2_with fail
    refine HC.mono ?_
    rintro e w1 ⟨rfl, hb1⟩
    have c1 : w1.cell? ⟨w.heap.size, 0, none⟩ = some (.slice a L.length cap) := (hb1.cell (p := ⟨w.heap.size, 0, none⟩) HB.out.2.2).trans HB.out.2.1
    have HB1 : Hid (Below w.heap.size w w1) := HB.out.1.trans (hb1.mono HB.out.1.size)
    have HF1 := HF.out _ hb1
    clear HB HC HF hb1
    go_wp2_with fail
    refine HF1.mono ?_
    rintro e w2 ⟨rfl, hb2⟩
    have HB2 : Hid (Below w.heap.size w w2) := HB1.out.trans (hb2.mono HB1.out.size)
    clear HB1 hb2 HF1 c1
    go_wp2_with fail
    refine (HU.out _).mono ?_
    rintro e w3 ⟨u, rfl, hu⟩
    have HB3 : Hid (Below w.heap.size w w3) := HB2.out.trans (hu.2.1.mono HB2.out.size)
    have HO : Hid (OS w2.heap.size w2 (w3.alloc (.cells #[] 9)) u M) := hu.alloc _
    have HN : Hid (OS w.heap.size w (w3.alloc (.cells #[] 9)) (.slice (some ⟨w3.heap.size, 0, none⟩) 0 0) []) := (OS.made w3).wide HB3.out HB3.out.size
    clear HB2 hu HU HB3
    go_wp2_with (at_builtin; refine wp_strs rfl _ _ rfl w.heap.size w w3.heap.size rfl HN.out _ _ u M rfl HO.out (by omega) ?_; intro v4 w4 h4)
    go_ret
    exact LtP.mk h4

end Go.Proofs.YthlgohplljcgfaaGreatDoor
