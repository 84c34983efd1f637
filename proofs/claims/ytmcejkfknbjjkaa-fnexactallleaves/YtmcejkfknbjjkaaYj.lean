/-
  All parts together: the specification's answer.
-/
import Derived.Test.YtmcejkfknbjjkaaYi
import Derived.Test.YtmcejkfknbjjkaaNb
namespace Go.Proofs.Ytmcejkfknbjjkaa
open Go.RowKit Go.BigFrame Go.Sort
set_option linter.unusedVariables false
set_option linter.unusedSimpArgs false

/-- a row of rows of leaves -/
def PS (w : World) (v : Value) (g o : Nat) (P : List (List Le)) : Prop := ∃ a c, v = .slice a P.length c ∧ P.length ≤ 1100000 ∧ (0 < P.length → a = some ⟨g, o, none⟩ ∧ g < w.heap.size) ∧
  ∀ j (h : j < P.length), ∃ aj cj gj oj, w.cell? ⟨g, o + j, none⟩ = some (.slice aj P[j].length cj) ∧ RS 2 lcs w (.slice aj P[j].length cj) gj oj P[j]
theorem PS.later {w w' : World} {v : Value} {g o : Nat} {P : List (List Le)} (h : PS w v g o P) (hb : Below w.heap.size w w') : PS w' v g o P := by
  obtain ⟨a, c, hv, hl, hA, hc⟩ := h
  refine ⟨a, c, hv, hl, fun hp => ⟨(hA hp).1, Nat.lt_of_lt_of_le (hA hp).2 hb.size⟩, fun j hj => ?_⟩
  obtain ⟨aj, cj, gj, oj, h1, h2⟩ := hc j hj
  exact ⟨aj, cj, gj, oj, (cell_kept (hb.block g (hA (by omega)).2)).trans h1, h2.later hb⟩
theorem PS.at {w : World} {v : Value} {g o : Nat} {P : List (List Le)} (h : PS w v g o P) (j : Nat) (hj : j < P.length) : ∃ aj cj gj oj, w.cell? ⟨g, o + j, none⟩ = some (.slice aj P[j].length cj) ∧ RS 2 lcs w (.slice aj P[j].length cj) gj oj P[j] := by
  obtain ⟨a, c, hv, hl, hA, hc⟩ := h
  exact hc j hj
def SmallP (P : List (List Le)) : Prop := ∀ p ∈ P, SmallL p

/-- what has been put so far -/
def AlI (w wr : World) (a : Option Addr) (cap q : Nat) (O A : List Le) : Prop := RW 2 lcs wr (.slice a O.length cap) q O ∧ w.heap.size ≤ q ∧ Below w.heap.size w wr ∧ (a = none → cap = 0) ∧ LV.PutI A O
theorem AlI.small {w wr : World} {a : Option Addr} {cap q : Nat} {O A : List Le} (h : AlI w wr a cap q O A) : SmallL O := fun f hf => by
  have := LV.leB_sizes (h.2.2.2.2.1.2.1 f hf)
  omega
def YaO (w : World) (P : List (List Le)) (u n i : Value) (wr : World) : Prop := ∃ (m : Nat) (a : Option Addr) (cap q : Nat) (O : List Le), m ≤ P.length ∧ i = .int .i64 m ∧ u = .slice a O.length cap ∧ n = .int .i64 ((P.take m).flatten.length : Int) ∧ Hid (AlI w wr a cap q O (P.take m).flatten)
def YaI (w : World) (B p : List Le) (u n i : Value) (wr : World) : Prop := ∃ (m : Nat) (a : Option Addr) (cap q : Nat) (O : List Le), m ≤ p.length ∧ i = .int .i64 m ∧ u = .slice a O.length cap ∧ n = .int .i64 ((B.length + m : Nat) : Int) ∧ Hid (AlI w wr a cap q O (B ++ p.take m))
theorem parts_step {P : List (List Le)} {m : Nat} (hm : m < P.length) : (P.take (m + 1)).flatten = (P.take m).flatten ++ P[m] := by
  rw [List.take_succ_eq_append_getElem hm, List.flatten_append]
  simp
theorem parts_len {P : List (List Le)} {m : Nat} (hm : m < P.length) : (P.take m).flatten.length + P[m].length ≤ P.flatten.length := by
  have h := congrArg List.length (congrArg List.flatten (List.take_append_drop (m + 1) P))
  rw [List.flatten_append, List.length_append, parts_step hm, List.length_append] at h
  omega
theorem app_cut (X p t r Y : List Le) (f : Le) (h : p = t ++ f :: r) : X ++ p ++ Y = (X ++ t) ++ f :: (r ++ Y) := by
  subst h
  simp
theorem parts_split {P : List (List Le)} {m k : Nat} (hm : m < P.length) (hk : k < P[m].length) : ∃ R, P.flatten = ((P.take m).flatten ++ P[m].take k) ++ P[m][k] :: R := by
  have h : P.flatten = (P.take (m + 1)).flatten ++ (P.drop (m + 1)).flatten := by rw [← List.flatten_append, List.take_append_drop]
  rw [parts_step hm] at h
  have h2 : P[m] = P[m].take k ++ P[m][k] :: P[m].drop (k + 1) := by
    rw [← List.drop_eq_getElem_cons hk]
    exact (List.take_append_drop k _).symm
  exact ⟨P[m].drop (k + 1) ++ (P.drop (m + 1)).flatten, h.trans (app_cut _ _ _ _ _ _ h2)⟩

set_option maxRecDepth 100000 in
set_option maxHeartbeats 2000000 in
theorem sAllLeaves_any (v : Value) (g o : Nat) (P : List (List Le)) (w : World) (hv : PS w v g o P) (hsm : SmallP P) (hlen : P.flatten.length ≤ 1048576) :
    Calls Try.prog 5 #[v] w (LqP (LV.allR P.flatten) (LV.allB P.flatten) w) := by
  have HV : Hid (PS w v g o P ∧ SmallP P ∧ P.flatten.length ≤ 1048576) := ⟨hv, hsm, hlen⟩
  have HM : Hid (∀ W, Below w.heap.size w W → ¬ LV.AllOk P.flatten → LqP (LV.allR P.flatten) (LV.allB P.flatten) w (.returned (.tuple #[.slice (some ⟨W.heap.size, 0, none⟩) 0 0, .bool false])) (W.alloc (.cells #[] 38))) := fun W hW hno => by
    rw [LV.allR_no hno, LV.allB_no hno]
    have ho := OL.made w.heap.size w W hW hW.size
    obtain ⟨gz, hrz, hgz, _⟩ := ho.rw (by simp)
    exact ⟨_, _, gz, rfl, hrz, hgz, ho.2.1⟩
  obtain ⟨a, cap, rfl, hl, hA, _⟩ := hv
  obtain ⟨n, hn⟩ : ∃ n, P.length = n := ⟨_, rfl⟩
  have HA : Hid (0 < n → a = some ⟨g, o, none⟩) := by rw [← hn]; exact fun h => (hA h).1
  have HN : Hid (P.length = n) := hn
  rw [hn] at hl HV ⊢
  clear hA hsm hlen hn
  have HST : Hid (YaO w P (.slice (some ⟨w.heap.size, 0, none⟩) 0 0) (.int .i64 0) (.int .i64 0) (w.alloc (.cells #[] 38))) := by
    have ho := OL.made w.heap.size w w (Below.refl _ _) (Nat.le_refl _)
    obtain ⟨gz, hrz, hgz, _⟩ := ho.rw (by simp)
    exact ⟨0, some ⟨w.heap.size, 0, none⟩, 0, gz, [], by omega, rfl, rfl, rfl, hrz, hgz, ho.2.1, (fun h => nomatch h), LV.PutI.zero⟩
  go_enter Try.func5, Try.ntmps5
  go_wp2
  go_loopw [4, 5, 6] (fun u n i wr => YaO w P u n i wr) (fun _ _ i _ => n - (intOf i).toNat)
  case atStart => exact HST.out
  case round =>
    obtain ⟨m, au, cu, q, O, hm, rfl, rfl, rfl, HI⟩ := hrel
    clear HST
    rw [HN.out] at hm
    by_cases hlt : m < n
    · have ea := HA.out (by omega)
      subst ea
      have hmP : m < P.length := by rw [HN.out]; exact hlt
      have i1 : (m : Int) < (n : Int) := by omega
      have i2 : (0 : Int) ≤ (m : Int) := by omega
      obtain ⟨aj, cj, gj, oj, c0, hrj⟩ := HV.out.1.at m hmP
      have hst := parts_step hmP
      have hpl := parts_len hmP
      have hps := HV.out.2.1 P[m] (List.getElem_mem _)
      have HSPL : Hid (∀ k (hk : k < P[m].length) O', LV.PutI ((P.take m).flatten ++ P[m].take k) O' → LV.putB O' P[m][k] = false → ¬ LV.AllOk P.flatten) := fun k hk O' hI hb => by
        obtain ⟨R, hR⟩ := parts_split hmP hk
        rw [hR]
        exact hI.stop hb
      have HPJ : Hid (∀ W, Below w.heap.size w W → W.cell? ⟨g, o + m, none⟩ = some (.slice aj P[m].length cj) ∧ RS 2 lcs W (.slice aj P[m].length cj) gj oj P[m]) := fun W hW => ⟨(cell_kept (hW.block g (lt_of_cell c0))).trans c0, hrj.later hW⟩
      have HNX : Hid (∀ W (a' : Option Addr) cap' q' O', AlI w W a' cap' q' O' ((P.take m).flatten ++ P[m]) → YaO w P (.slice a' O'.length cap') (.int .i64 (((P.take m).flatten.length + P[m].length : Nat) : Int)) (.int .i64 ((m : Int) + 1)) W) := fun W a' cap' q' O' h => by
        rw [← hst] at h
        exact ⟨m + 1, a', cap', q', O', by omega, by simp, rfl, by rw [hst, List.length_append], h⟩
      have HB0 : Hid (AlI w wr au cu q O (P.take m).flatten) := HI
      have hfl : P.flatten.length ≤ 1048576 := HV.out.2.2
      generalize P[m] = p at *
      generalize (P.take m).flatten = B at *
      have HST2 : Hid (YaI w B p (.slice au O.length cu) (.int .i64 (B.length : Int)) (.int .i64 0) wr) := ⟨0, au, cu, q, O, by omega, rfl, rfl, by simp, by rw [List.take_zero, List.append_nil]; exact HI.out⟩
      have hbw := HI.out.2.2.1
      obtain ⟨np, hnp⟩ : ∃ n, p.length = n := ⟨_, rfl⟩
      have HNP : Hid (p.length = np) := hnp
      obtain ⟨nB, hnB⟩ : ∃ n, B.length = n := ⟨_, rfl⟩
      have HNB : Hid (B.length = nB) := hnB
      rw [hnp] at c0 HPJ HNX hpl
      rw [hnB] at HNX HST2 hpl ⊢
      clear HI HB0 hst hrj hnp hnB
      have c1 := (HPJ.out _ hbw).1
      clear c0
      go_wp2
      clear c1
      go_loopw [4, 5, 7] (fun u n i wr => YaI w B p u n i wr) (fun _ _ i _ => np - (intOf i).toNat)
      case atStart => exact HST2.out
      case round =>
        obtain ⟨k, ak, ck, qk, Ok, hk, rfl, rfl, rfl, HI⟩ := hrel
        clear HST2
        rw [HNP.out] at hk
        have hbk := HI.out.2.2.1
        obtain ⟨c1, hrk⟩ := HPJ.out _ hbk
        by_cases hkt : k < np
        · have hkp : k < p.length := by rw [HNP.out]; exact hkt
          have ej : aj = some ⟨gj, oj, none⟩ := by
            obtain ⟨a', c', ev, _, hA', _⟩ := hrk
            have := (hA' (by omega)).1
            simp at ev
            rw [ev.1, this]
          subst ej
          obtain ⟨d0, d1⟩ := hrk.leaf k hkp
          obtain ⟨X, hX⟩ : ∃ X, p[k]'hkp = X := ⟨_, rfl⟩
          have hxs := hps X (by rw [← hX]; exact List.getElem_mem _)
          have hbd : Below wr.heap.size wr wr.drew := (Below.refl _ _).drew
          have hP := sLeafPut_any ak ck qk 0 Ok X.n X.v wr.drew (HI.out.1.1.later hbd) HI.out.2.2.2.1 HI.out.small (by have := HI.out.2.2.2.2.1.1; omega) hxs.1 hxs.2
          have hstop := HSPL.out k hkp Ok HI.out.2.2.2.2
          have hstep := HI.out.2.2.2.2.step (f := X)
          have htk : B ++ p.take k ++ [X] = B ++ p.take (k + 1) := by rw [← hX, List.append_assoc, List.take_append_getElem]
          rw [htk] at hstep
          rw [hX] at d0 d1 hstop
          have e0 : (⟨X.n, X.v⟩ : Le) = X := rfl
          rw [e0] at hP
          have i3 : (k : Int) < (np : Int) := by omega
          have i4 : (0 : Int) ≤ (k : Int) := by omega
          have HSG : Hid (AlI w wr ak ck qk Ok (B ++ p.take k)) := HI
          have HCK : Hid (∀ W, Below wr.heap.size wr W → W.cell? ⟨g, o + m, none⟩ = some (.slice (some ⟨gj, oj, none⟩) np cj) ∧ W.cell? ⟨gj, oj + k * 2, none⟩ = some (.string X.n) ∧ W.cell? ⟨gj, oj + k * 2 + 1, none⟩ = some (.string X.v)) := fun W hW => ⟨(cell_kept (hW.block g (lt_of_cell c1))).trans c1, (cell_kept (hW.block gj (lt_of_cell d0))).trans d0, (cell_kept (hW.block gj (lt_of_cell d0))).trans d1⟩
          clear hrk HI htk e0 hX
          rw [HNB.out]
          cases hpb : LV.putB Ok X with
          | false =>
            have HF : Hid (¬ LV.AllOk P.flatten) := hstop hpb
            rw [hpb] at hP
            clear hstop hstep HSG hpb
            generalize LV.putR Ok X = M at *
            have HP : Hid (Calls Try.prog 14 #[.slice ak Ok.length ck, .string X.n, .string X.v] wr.drew fun e w' => ∃ a3 c3 g3, e = .returned (.tuple #[.slice a3 M.length c3, .bool false]) ∧ RW 2 lcs w' (.slice a3 M.length c3) g3 M ∧ wr.heap.size ≤ g3 ∧ Below wr.heap.size wr w') := hP.mono fun e w' ⟨a3, c3, g3, h1, h2, h3, h4⟩ => ⟨a3, c3, g3, h1, h2, h3, hbd.trans h4⟩
            clear hP
            go_wp2
            go_region_held3 (fun W => W.cell? ⟨g, o + m, none⟩ = some (.slice (some ⟨gj, oj, none⟩) np cj) ∧ W.cell? ⟨gj, oj + k * 2, none⟩ = some (.string X.n) ∧ W.cell? ⟨gj, oj + k * 2 + 1, none⟩ = some (.string X.v)) (first | go_keep | exact HCK.out _ hb3) ((go_at_call 14; with_reducible refine HP.out.mono ?_; rintro e w3 ⟨a3, c3, g3, rfl, hr3, hg3, hb3⟩))
            have HFF := HM.out w3 (hbk.trans (hb3.mono hbk.size)) HF.out
            clear HP hr3 hg3 hb3
            go_wp2
            try rw [Exit.noGoto_ret]
            go_ret2
            exact HFF
          | true =>
            have hpo := hstep hpb
            rw [hpb, putR_yes hpb] at hP
            have hM0 : 0 < (LV.put Ok X).length := by rw [LV.len_put]; omega
            clear hstop hstep hpb
            generalize LV.put Ok X = M at *
            have HP : Hid (Calls Try.prog 14 #[.slice ak Ok.length ck, .string X.n, .string X.v] wr.drew fun e w' => ∃ a3 c3 g3, e = .returned (.tuple #[.slice a3 M.length c3, .bool true]) ∧ RW 2 lcs w' (.slice a3 M.length c3) g3 M ∧ wr.heap.size ≤ g3 ∧ Below wr.heap.size wr w') := hP.mono fun e w' ⟨a3, c3, g3, h1, h2, h3, h4⟩ => ⟨a3, c3, g3, h1, h2, h3, hbd.trans h4⟩
            clear hP
            go_wp2
            go_region_held3 (fun W => W.cell? ⟨g, o + m, none⟩ = some (.slice (some ⟨gj, oj, none⟩) np cj) ∧ W.cell? ⟨gj, oj + k * 2, none⟩ = some (.string X.n) ∧ W.cell? ⟨gj, oj + k * 2 + 1, none⟩ = some (.string X.v)) (first | go_keep | exact HCK.out _ hb3) ((go_at_call 14; with_reducible refine HP.out.mono ?_; rintro e w3 ⟨a3, c3, g3, rfl, hr3, hg3, hb3⟩))
            have HK : Hid (YaI w B p (.slice a3 M.length c3) (.int .i64 (((nB + k : Nat) : Int) + 1)) (.int .i64 ((k : Int) + 1)) w3) := by
              refine ⟨k + 1, a3, c3, g3, M, by omega, by simp, rfl, by rw [HNB.out]; congr 1, hr3, by have := hbk.size; omega, hbk.trans (hb3.mono hbk.size), fun e => ?_, hpo⟩
              obtain ⟨⟨a', c', ev, _, hA', _⟩, _⟩ := hr3
              have := (hA' hM0).1
              simp at ev
              rw [e, this] at ev
              cases ev.1
            clear HP hr3 hg3 hb3 hpo hM0 HSG
            go_wp2
            go_roundw
            case rel => exact HK.out
            case measure => simp [intOf]; omega
        · have hke : k = np := by omega
          subst hke
          have HK : Hid (YaO w P (.slice ak Ok.length ck) (.int .i64 ((nB + k : Nat) : Int)) (.int .i64 ((m : Int) + 1)) wr) := by
            have h1 := HI.out
            rw [List.take_of_length_le (by rw [HNP.out]; exact Nat.le_refl _)] at h1
            exact HNX.out wr ak ck qk Ok h1
          rw [HNB.out]
          clear HI hrk
          go_wp2
          go_roundw
          case rel => exact HK.out
          case measure => simp [intOf]; omega
    · have hme : m = n := by omega
      have e : (P.take m).flatten = P.flatten := by rw [List.take_of_length_le (by rw [HN.out]; omega)]
      rw [e] at HI ⊢
      have hfl := HV.out.2.2
      have hbw := HI.out.2.2.1
      obtain ⟨nf, hnf⟩ : ∃ n, P.flatten.length = n := ⟨_, rfl⟩
      have hO24 := HI.out.2.2.2.2.1.1
      by_cases hz : O.length = P.flatten.length
      · obtain ⟨h1, h2⟩ := HI.out.2.2.2.2.done hz
        have HF : Hid (LqP (LV.allR P.flatten) (LV.allB P.flatten) w (.returned (.tuple #[.slice au O.length cu, .bool true])) wr) := by
          rw [h2, LV.allB_yes h1]
          exact ⟨au, cu, q, rfl, HI.out.1, HI.out.2.1, hbw⟩
        rw [hnf] at hz hfl ⊢
        rw [hz] at HF ⊢
        clear HI e h1 h2 HV hnf HM
        go_wp2
        go_ret2
        exact HF.out
      · have HF := HM.out wr hbw (HI.out.2.2.2.2.short hz)
        rw [hnf] at hz hfl ⊢
        generalize O.length = no at *
        have q : ((no : Int) != (nf : Int)) = true := by simp; omega
        clear HI e HV hnf HM
        go_wp2
        go_ret2
        exact HF

end Go.Proofs.Ytmcejkfknbjjkaa
