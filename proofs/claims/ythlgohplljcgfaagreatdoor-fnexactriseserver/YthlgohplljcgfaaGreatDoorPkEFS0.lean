/-
  Texts laid together: Jfd, Jsq, Slj, Jfb.
-/
import Derived.Test.YthlgohplljcgfaaGreatDoorPkESN36
import Derived.Test.YthlgohplljcgfaaGreatDoorPkESN43
import Derived.Test.YthlgohplljcgfaaGreatDoorPkESN11
import Derived.Test.YthlgohplljcgfaaGreatDoorPkESN41
import Derived.Test.YthlgohplljcgfaaGreatDoorPkESN42
import Derived.Test.YthlgohplljcgfaaGreatDoorPkESN30
/-
  The walk of the law FnExactFallServer, RiseServer: what they share: it answers true of every server.
-/
namespace Go.Proofs.YthlgohplljcgfaaGreatDoor
open Go.RowKit Go.BigFrame Go.Sort
set_option linter.unusedVariables false
set_option linter.unusedSimpArgs false

/-- a server answered, its rows its own -/
def SvA (n : Sn) (L : Sr) (w : World) (e : Ending) (w' : World) : Prop := ∃ ad cd av cv at2 ct aa ca, e = .returned (.agg #[.int .i64 n.a, .int .i64 n.k, .bool n.u, .slice ad L.F.length cd, .int .i64 n.e, .slice av L.P.length cv, .slice at2 L.I.length ct, .slice aa L.U.length ca, .int .i64 n.r0, .int .i64 n.r1, .int .i64 n.r2]) ∧ SvD w.heap.size w'.heap.size w' (.slice ad L.F.length cd) (.slice av L.P.length cv) (.slice at2 L.I.length ct) (.slice aa L.U.length ca) L ∧ Below w.heap.size w w'
def Sn.ofS (a k : Int) (u : Bool) (S : SR.Ss) : Sn := ⟨a, k, u, S.e, S.r0, S.r1, S.r2⟩
theorem SnA.sva {a k : Int} {u : Bool} {X : List Fl} {S : SR.Ss} {w w' : World} {e : Ending} (h : SnA a k u X S w e w') : SvA (Sn.ofS a k u S) (Sr.ofS X S) w e w' := h

/-- what the law has in hand: its argument's box, the first answer in its box and its rows -/
def FwS (w w1 W : World) (src : List Value) (q : Nat) (xs : List Value) (lo hi : Nat) (vd vv vt va : Value) (L : Sr) : Prop :=
  Below w.heap.size w W ∧ Below w1.heap.size w1 W ∧ Box 47 W w.heap.size src ∧ Box 35 W q xs ∧ SvD lo hi W vd vv vt va L
section
variable {w w1 W W' : World} {src : List Value} {q : Nat} {xs : List Value} {lo hi : Nat} {vd vv vt va : Value} {L : Sr}
theorem FwS.later (h : FwS w w1 W src q xs lo hi vd vv vt va L) (hb : Below W.heap.size W W') : FwS w w1 W' src q xs lo hi vd vv vt va L :=
  ⟨h.1.trans (hb.mono h.1.size), h.2.1.trans (hb.mono h.2.1.size), h.2.2.1.later hb, h.2.2.2.1.later hb, h.2.2.2.2.later hb⟩
theorem FwS.past {l2 h2 : Nat} (h : FwS w w1 W src q xs lo hi vd vv vt va L) (hb : InG l2 h2 W W') (b1 : w.heap.size < l2) (b2 : w1.heap.size ≤ l2) (b3 : q < l2) (b4 : hi ≤ l2) : FwS w w1 W' src q xs lo hi vd vv vt va L :=
  ⟨hb.below h.1 h.1.size (by omega), hb.below h.2.1 h.2.1.size b2, h.2.2.1.inG hb (.inl b1), h.2.2.2.1.inG hb (.inl b3), h.2.2.2.2.past hb b4⟩
end
theorem SvK.le {W : World} {vd vv vt va : Value} {L : Sr} {K : Int} (h : SvK W vd vv vt va L K) (hs : L.sm) : ∃ m : Nat, K = (m : Int) ∧ m ≤ 9500000 := by
  obtain ⟨_, _, _, _, _, _, e, _⟩ := h
  obtain ⟨⟨_, s2⟩, ⟨_, s4⟩, s5, _, s7⟩ := hs
  exact ⟨_, e, by omega⟩

end Go.Proofs.YthlgohplljcgfaaGreatDoor
/-
  A server made of its disk, whatever row it has: the specification.
-/
namespace Go.Proofs.YthlgohplljcgfaaGreatDoor
open Go.RowKit Go.BigFrame Go.Sort
set_option linter.unusedVariables false
set_option linter.unusedSimpArgs false

/-- a whole row of files, or one that is nil, appended to an empty one -/
theorem wp_rowV {w : World} {ops : Array Oper} {o : Oper} {a : Act} {Q : Exit → Act → World → Prop} {rest : List Oper} (hgd : o.guard = none) (s x : Operand)
    (ho : o.op = .call { callee := .builtin .append, args := #[s, x], argTypes := #[26, 26] })
    (B : Nat) (w0 : World) (g : Nat) (hs : a.eval s = .slice (some ⟨g, 0, none⟩) 0 0) (h : OF B w0 w (.slice (some ⟨g, 0, none⟩) 0 0) []) (ad : Option Addr) (cap : Nat) (l : List Fl) (hx : a.eval x = .slice ad l.length cap)
    (g2 o2 : Nat) (hrs : RS 3 fcs w (.slice ad l.length cap) g2 o2 l) (hnn : ad = none → l.length = 0 ∧ cap = 0)
    (hk : ∀ v' w', OF B w0 w' v' l → w.grownBy w' (some g) → wpList Tryz.prog ops Q rest (a.put o.dst v') w') : wpList Tryz.prog ops Q (o :: rest) a w := by
  cases ad with
  | none =>
    obtain ⟨h1, h2⟩ := hnn rfl
    obtain rfl : l = [] := List.length_eq_zero_iff.1 h1
    subst h2
    exact wp_rowJ0 hgd s x ho B w0 g hs h hx hk
  | some ad =>
    obtain ⟨a', c', hv, hl, h0, hc⟩ := hrs
    simp only [Value.slice.injEq] at hv
    obtain ⟨e1, _, e2⟩ := hv
    obtain ⟨b, o', p⟩ := ad
    rcases Nat.eq_zero_or_pos l.length with hz | hz
    · obtain rfl : l = [] := List.length_eq_zero_iff.1 hz
      obtain ⟨i0, hi, hz0, hz1, hz2⟩ := info_parts Tryz.infoFile
      refine wpList_append_fits_any w hgd s x 26 ho B 108 i0 3 Tryz.underlying26 hi hz1 g 0 0 [] hs h.1 (some ⟨b, o', p⟩) 0 cap [] hx rfl (fun h => by cases h) (fun ad h j u hu => by simp at hu) (fun u hu => by cases hu) (by omega) ?_
      intro w' h1 h2
      exact hk _ _ ⟨by simpa using h1, h.2.1.grown h2 h.2.2 (fun k hk => (h.1.lt k hk).1), Nat.le_trans h.2.2 h2.size⟩ h2
    · obtain ⟨e3, _⟩ := h0 hz
      rw [e3] at e1
      simp only [Option.some.injEq, Addr.mk.injEq] at e1
      obtain ⟨rfl, rfl, rfl⟩ := e1
      exact wp_rowJ hgd s x ho B w0 _ hs h b o' cap l hx hc hl (fun v' w' k1 k2 => hk v' w' k1 k2)

set_option maxRecDepth 100000 in
set_option maxHeartbeats 4000000 in
theorem sServerNew_nn (a k : Int) (L : List Fl) (ad : Option Addr) (gd od cd : Nat) (w : World) (hd : RS 3 fcs w (.slice ad L.length cd) gd od L) (hnn : ad = none → L.length = 0 ∧ cd = 0) (hs : SmallF L) :
    Calls Tryz.prog 8 #[.int .i64 a, .int .i64 k, .agg #[.slice ad L.length cd]] w (SnA a k true L (SR.runS a k (ltT L ⟨#[115, 104, 97, 114, 100]⟩)) w) := by
  have hM := ltT_all L ⟨#[115, 104, 97, 114, 100]⟩
  have HOK : Hid ((SR.runS a k (ltT L ⟨#[115, 104, 97, 114, 100]⟩)).okJ (ltT L ⟨#[115, 104, 97, 114, 100]⟩).length) := okJ_all a k L _
  have HLT : Hid (∀ W, Below w.heap.size w W → Calls Tryz.prog 28 #[.agg #[.slice ad L.length cd], .string ⟨#[115, 104, 97, 114, 100]⟩] W (LtP W (ltT L ⟨#[115, 104, 97, 114, 100]⟩))) := fun W hW => sLogTexts_any _ gd od L _ W (hd.later hW) hs
  unfold LtP at HLT
  have HDK : Hid (BD ((w.alloc (.cells #[.slice ad L.length cd] 28)).alloc (.cells #[.int .i64 0, .int .i64 0, .bool false, .slice none 0 0, .int .i64 0, .slice none 0 0, .slice none 0 0, .slice none 0 0, .int .i64 0, .int .i64 0, .int .i64 0] 35)) w.heap.size 28 (.slice ad L.length cd)) := (BD.new w _ _).later (below_alloc _ _)
  have HBX : Hid (Box 35 ((w.alloc (.cells #[.slice ad L.length cd] 28)).alloc (.cells #[.int .i64 0, .int .i64 0, .bool false, .slice none 0 0, .int .i64 0, .slice none 0 0, .slice none 0 0, .slice none 0 0, .int .i64 0, .int .i64 0, .int .i64 0] 35)) (w.heap.size + 1) [.int .i64 0, .int .i64 0, .bool false, .slice none 0 0, .int .i64 0, .slice none 0 0, .slice none 0 0, .slice none 0 0, .int .i64 0, .int .i64 0, .int .i64 0]) := by
    have h := Box.new 35 (w.alloc (.cells #[.slice ad L.length cd] 28)) [.int .i64 0, .int .i64 0, .bool false, .slice none 0 0, .int .i64 0, .slice none 0 0, .slice none 0 0, .slice none 0 0, .int .i64 0, .int .i64 0, .int .i64 0]
    have e : (w.alloc (.cells #[.slice ad L.length cd] 28)).heap.size = w.heap.size + 1 := by simp
    rw [e] at h
    exact h
  obtain ⟨W2, hW2⟩ : ∃ W2, ((w.alloc (.cells #[.slice ad L.length cd] 28)).alloc (.cells #[.int .i64 0, .int .i64 0, .bool false, .slice none 0 0, .int .i64 0, .slice none 0 0, .slice none 0 0, .slice none 0 0, .int .i64 0, .int .i64 0, .int .i64 0] 35)) = W2 := ⟨_, rfl⟩
  have HB2 : Hid (Below w.heap.size w W2 ∧ W2.heap.size = w.heap.size + 1 + 1) := by rw [← hW2]; exact ⟨below_two _ _ _, by simp⟩
  rw [hW2] at HDK HBX
  have HR : Hid (RS 3 fcs (W2.alloc (.cells #[] 108)) (.slice ad L.length cd) gd od L ∧ (ad = none → L.length = 0 ∧ cd = 0)) := ⟨hd.later (HB2.out.1.alloc HB2.out.1.size (.cells #[] 108)), hnn⟩
  have HLN : Hid (L.length ≤ 1100000) := hd.len
  have HN : Hid (OF W2.heap.size W2 (W2.alloc (.cells #[] 108)) (.slice (some ⟨W2.heap.size, 0, none⟩) 0 0) []) := ⟨World.ownsRow_made W2 #[] 0 (Nat.le_refl _) (by decide) (by simp), below_alloc _ _, by simp⟩
  have eW2 := HB2.out.2
  rw [eW2] at HN
  have HWW : Hid (w.heap.size + 1 + 1 = W2.heap.size) := eW2.symm
  clear hd
  generalize ltT L ⟨#[115, 104, 97, 114, 100]⟩ = M at *
  have HDL : Hid (W2.heap.size = w.heap.size + 1 + 1) := HB2.out.2
  have c0 : (W2.alloc (.cells #[] 108)).cell? ⟨w.heap.size, 0, none⟩ = some (.slice ad L.length cd) := (HDK.out.later (below_alloc _ _)).cell
  have HK4 : Hid (∀ w4 v, (W2.alloc (.cells #[] 108)).grownBy w4 (some (w.heap.size + 1 + 1)) → (NwW w4 a k v).cell? ⟨w.heap.size, 0, none⟩ = some (.slice ad L.length cd)) := fun w4 v hg => (((HDK.out.later (below_alloc _ _)).grown hg (by simp; omega)).later (NwW.below w4 a k _)).cell
  go_enter Tryz.func8, Tryz.ntmps8
  go_wp2_with (at_builtin; refine wp_rowV rfl _ _ rfl (w.heap.size + 1 + 1) W2 (w.heap.size + 1 + 1) rfl HN.out ad cd L rfl gd od HR.out.1 HR.out.2 ?_; intro v4 w4 h4 hg4; obtain ⟨a4, c4, hv4⟩ := OF.shape h4; subst hv4; have k4 := HK4.out w4 (.slice a4 L.length c4) hg4; unfold NwW at k4)
  change Calls _ _ _ (NwW w4 a k (.slice a4 L.length c4)) _
  have hbw4 : Below w.heap.size w w4 := (HB2.out.1.alloc HB2.out.1.size _).grown hg4 (by have := HB2.out.1.size; simp; omega) (fun q hq => by simp [Value.ownBlock] at hq; omega)
  have hs4 : w.heap.size + 1 + 1 ≤ w4.heap.size := h4.2.2
  obtain ⟨g4, hr4, hgb4, _⟩ := OR.rw (k := 3) (enc := fcs) (fun x => fcs_len x) (by omega) h4 HLN.out
  have HI : Hid (∀ W, Below (NwW w4 a k (.slice a4 L.length c4)).heap.size (NwW w4 a k (.slice a4 L.length c4)) W → SvO (w.heap.size + 1 + 1) W W (w4.heap.size + 1 + 1 + 1) ⟨a, k, true, 0, 0, 0, 0⟩ (.slice a4 L.length c4) (.slice (some ⟨w4.heap.size + 1, 0, none⟩) 1 1) (.slice (some ⟨w4.heap.size + 1 + 1, 0, none⟩) 1 1) (.slice none 0 0) ⟨L, [[]], [0], []⟩ [.slice (some ⟨w4.heap.size, 0, none⟩) 0 0] (fun _ => w4.heap.size) g4) := fun W hW => init_sv hr4 hs4 (fun _ => hgb4) hW
  have hb4 : Below w4.heap.size w4 (NwW w4 a k (.slice a4 L.length c4)) := NwW.below w4 a k _
  have HRB0 : Hid (Box 35 w4 (w.heap.size + 1) _) := ((HBX.out.later (below_alloc _ _)).grown hg4 (by simp [Value.ownBlock]))
  have HRB1 : Hid (Box 35 (NwW w4 a k (.slice a4 L.length c4)) (w.heap.size + 1) _) := HRB0.out.later hb4
  have HB3 : Hid (Below w.heap.size w (NwW w4 a k (.slice a4 L.length c4))) := hbw4.trans (hb4.mono hbw4.size)
  clear k4 hr4 h4 hg4 hb4 HRB0 HN HR HDK HBX HB2 c0 hgb4 hbw4
  generalize NwW w4 a k (.slice a4 L.length c4) = W3 at *
  refine (HLT.out W3 HB3.out).mono ?_
  rintro e_ w5 ⟨u5, rfl, hos⟩
  have HI5 := HI.out w5 hos.2.1
  have HB5 : Hid (Below w.heap.size w w5) := HB3.out.trans (hos.2.1.mono HB3.out.size)
  have HRB : Hid (Box 35 w5 (w.heap.size + 1) _) := HRB1.out.later hos.2.1
  have hsh : ∃ a c, u5 = .slice a (M).length c := by
    rcases hos.1.2 with ⟨hv, hn⟩ | ⟨g, cap, cur, hv, _⟩
    · exact ⟨none, 0, by rw [hv, hn]⟩
    · exact ⟨_, _, hv⟩
  have HOS : Hid (OS W3.heap.size W3 w5 u5 (M)) := hos
  obtain ⟨a5, c5, rfl⟩ := hsh
  have HMM : Hid (M.length < 1000000 ∧ ∀ t ∈ M, t.size ≤ 1048576 ∧ 0 < t.size) := hM
  have HST : Hid (∃ m : Nat, m ≤ M.length ∧ (Value.int .i64 0) = .int .i64 m ∧ RdQ (w.heap.size + 1 + 1) w5 (w4.heap.size + 1 + 1 + 1) ⟨a, k, true, 0, 0, 0, 0⟩ (.slice a4 L.length c4) L g4 (SR.runS a k (M.take m)) w5) := ⟨0, by omega, rfl, _, _, _, _, _, _, _, HI5, rfl, rfl, rfl, rfl, rfl⟩
  obtain ⟨nM, hnM⟩ : ∃ nM, M.length = nM := ⟨_, rfl⟩
  have HNM : Hid (M.length = nM) := hnM
  have HOS2 : Hid (∀ W, KpB w5 W → ∀ m (h : m < M.length), ∃ g5, a5 = some ⟨g5, 0, none⟩ ∧ W.cell? ⟨g5, m, none⟩ = some (.string M[m])) := fun W hW m hm => by
    rcases hos.1.2 with ⟨hv, hn⟩ | ⟨g5, cap, cur, hv, hbg, hg5, rest⟩
    · omega
    · have e5 : a5 = some ⟨g5, 0, none⟩ := by
        simp only [Value.slice.injEq] at hv
        exact hv.1
      have ho : W.ownsRow W3.heap.size 9 1 (.slice a5 M.length c5) M.length (svs M) := ⟨hos.1.1, .inr ⟨g5, cap, cur, hv, hbg, hW g5 9 cur (0, 0) (by unfold BadT; decide) hg5, rest⟩⟩
      have h1 := ho.cells (g := g5) (by rw [e5]; rfl) m (.string M[m]) (by simp [svs, List.getElem?_eq_getElem hm])
      rw [Addr.add_mid, Nat.zero_add] at h1
      exact ⟨g5, e5, h1⟩
  clear HI HI5 hos HB3 HLT HRB1 hM HOS
  rw [hnM]
  clear hnM
  go_wp2
  go_loopw [9] (fun i wr => ∃ m : Nat, m ≤ M.length ∧ i = .int .i64 m ∧ Hid (RdQ (w.heap.size + 1 + 1) w5 (w4.heap.size + 1 + 1 + 1) ⟨a, k, true, 0, 0, 0, 0⟩ (.slice a4 L.length c4) L g4 (SR.runS a k (M.take m)) wr)) (fun i _ => nM - (intOf i).toNat)
  case atStart => exact HST.out
  case round =>
    obtain ⟨m, hm, rfl, HI⟩ := hrel
    clear HST
    by_cases hlt : m < nM
    · obtain ⟨n', vv', vt', va', L', V', G', h1, h2, h3, ha, hk, hu⟩ := HI.out
      have hmM : m < M.length := by rw [HNM.out]; exact hlt
      obtain ⟨g5, e5, k5⟩ := HOS2.out wr h1.kp m hmM
      subst e5
      have hok := SR.okJ_run a k M m (by omega)
      rw [← h2] at hok
      have hML := HMM.out.1
      have hbd := HMM.out.2 M[m] (List.getElem_mem _)
      have hst := SR.runS_step a k M hmM
      have e1 := hok.p
      have e2 := hok.i
      have e3 := hok.u
      have e4 := hok.e0
      have e6 := hok.e1
      have hr : (n'.r0 = 0 ∧ n'.r1 = 0 ∧ n'.r2 = 0) ∨ 0 < n'.r0 := by
        rcases hok.r with h | h
        · exact .inl h
        · have h0 : n'.r0 = n'.e + 1 := h.1
          have h9 : (0 : Int) ≤ n'.e := e4
          exact .inr (by omega)
      simp only [Ss.of] at e1 e2 e3 e4 e6
      have hcall := sRecord_any h1 M[m] hbd.1 hbd.2 hr (by omega) (by omega) (by omega) (by omega) (by omega) (okU_small hok.us) e4 (by omega)
      have HCL : Hid (Calls Tryz.prog 29 #[.pointer (some ⟨w4.heap.size + 1 + 1 + 1, 0, none⟩), .string M[m]] wr fun e w' => e = .returned (.tuple #[]) ∧ RdQ (w.heap.size + 1 + 1) w5 (w4.heap.size + 1 + 1 + 1) ⟨a, k, true, 0, 0, 0, 0⟩ (.slice a4 L.length c4) L g4 (SR.runS a k (M.take (m + 1))) w') := hcall.mono fun e w' ⟨he, n2, vv2, vt2, va2, L2, V2, G2, q1, q2, q3, q4, q5, q6⟩ => ⟨he, n2, vv2, vt2, va2, L2, V2, G2, q1, by rw [q2, hst, ← h2, ha, hk], q3.trans h3, q4.trans ha, q5.trans hk, q6.trans hu⟩
      have wr1 : IntKind.i64.wrap ((m : Int) + 1) = (m : Int) + 1 := IntWalk.i64_in _ (by omega)
      clear hcall h1 h2 h3 ha hk hu hok hML hbd hst e1 e2 e3 e4 e6 hr HI
      have i1 : (m : Int) < (nM : Int) := by omega
      have i2 : (0 : Int) ≤ (m : Int) := by omega
      generalize M[m] = X at *
      go_wp2_with fail
      refine HCL.out.mono ?_
      rintro e w6 ⟨rfl, hq6⟩
      have HN2 : Hid (RdQ (w.heap.size + 1 + 1) w5 (w4.heap.size + 1 + 1 + 1) ⟨a, k, true, 0, 0, 0, 0⟩ (.slice a4 L.length c4) L g4 (SR.runS a k (M.take (m + 1))) w6) := hq6
      have HM1 : Hid (m + 1 ≤ M.length) := hmM
      clear hq6 HCL k5 hmM HOS2 HMM HRB HB5
      go_wp2
      go_roundw
      case rel => exact ⟨m + 1, HM1.out, by go_num, HN2.out⟩
      case measure => simp [intOf]; omega
    · have hme : m = nM := by have := HNM.out; omega
      subst hme
      have hT : M.take m = M := List.take_of_length_le (by rw [HNM.out]; exact Nat.le_refl _)
      rw [hT] at HI
      obtain ⟨n', vv', vt', va', L', V', G', h1, h2, h3, ha, hk, hu⟩ := HI.out
      have hbw := h1.ou.2.1
      have HR2 : Hid (Box 35 wr (w.heap.size + 1) _) := HRB.out.keep (hbw.block _ (by omega))
      have HB : Hid (Box 35 wr (w4.heap.size + 1 + 1 + 1) _) := h1.box
      have HBW : Hid (Below w.heap.size w wr) := HB5.out.trans (hbw.mono (by omega))
      have hM2 : M.length ≤ 1000000 := by have := HMM.out.1; omega
      have HF : Hid (∀ W, wr.grownBy W (some (w.heap.size + 1)) → Below w.heap.size w W → SnA a k true L (SR.runS a k M) w (.returned (.agg #[.int .i64 n'.a, .int .i64 n'.k, .bool n'.u, .slice a4 L.length c4, .int .i64 n'.e, vv', vt', va', .int .i64 n'.r0, .int .i64 n'.r1, .int .i64 n'.r2])) W) := fun W hW hb => SnA.of HOK.out hM2 h1.self (by omega) (by omega) hW h2 h3 ha hk hu hb
      obtain ⟨av3, cv3, rfl⟩ := OR.shapeJ h1.ov
      obtain ⟨at3, ct3, rfl⟩ := OR.shapeJ h1.oi
      obtain ⟨aa3, ca3, rfl⟩ := h1.ou.shape
      clear HI h1 h2 h3 ha hk hu hbw HOS2 HMM HRB HB5 hT HNM hM2 HOK
      go_wp2_with (first | (refine wp_loadSrv rfl _ rfl (w4.heap.size + 1 + 1 + 1) rfl HB.out ?_) | (refine wp_storeSrv rfl _ _ rfl (w.heap.size + 1) _ _ _ _ _ _ _ _ _ _ _ HR2.out rfl rfl ⟨rfl, rfl, rfl, rfl, rfl, rfl, rfl, rfl, rfl, rfl, rfl⟩ ?_; intro hfin))
      exact ret_srv 6 (w.heap.size + 1) rfl rfl rfl hfin (HF.out _ (grown_setRowP _ _ _) (below_setRow HBW.out (Nat.le_succ _)))


end Go.Proofs.YthlgohplljcgfaaGreatDoor
/-
  A disk that loses, as the specification reckons it.
-/
namespace Go.Proofs.YthlgohplljcgfaaGreatDoor
open Go.RowKit Go.BigFrame Go.Sort
set_option linter.unusedVariables false
set_option linter.unusedSimpArgs false

def LoRj (w : World) (r : Nat) (M : List Fl) (v : Value) (i : Value) (wr : World) : Prop := ∃ (m : Nat) (u : Value), m ≤ M.length ∧ i = .int .i64 m ∧ Hid (SpW w.heap.size w wr w.heap.size (w.heap.size + 1) r v u (M.take m))

/-- no room behind a row that is nil -/
def NlR (u : Value) : Prop := ∀ n c, u = .agg #[.slice none n c] → n = 0 ∧ c = 0
def DkN (w : World) (B : Nat) (v : Value) (l : List Fl) : Prop := DkIn w B v l ∧ NlR v
theorem NlR.nil : NlR (.agg #[.slice none 0 0]) := fun n c h => by
  simp at h
  omega
theorem OF.nl {B : Nat} {w0 w : World} {v : Value} {l : List Fl} (h : OF B w0 w v l) : NlR (.agg #[v]) := by
  rcases h.1.2 with ⟨hv, hn⟩ | ⟨g, cap, cur, hv, _⟩
  · rw [hv]
    exact NlR.nil
  · intro n c e
    rw [hv] at e
    simp at e

set_option maxRecDepth 100000 in
set_option maxHeartbeats 4000000 in
theorem sLoseDisk_nl (v : Value) (ga oa : Nat) (L : List Fl) (q : Value) (gq oq : Nat) (Q : List Int) (w : World) (hv : RS 3 fcs w v ga oa L) (hq : RS 1 ics w q gq oq Q) :
    Calls Tryz.prog 49 #[.agg #[v], q] w fun e w' => ∃ u, e = .returned (.tuple #[u, .bool (F.diskB L)]) ∧ DkN w' w.heap.size u (F.loseR L Q) ∧ Below w.heap.size w w' := by
  have hb0 : Below w.heap.size w ((w.alloc (.cells #[v] 28)).alloc (.cells #[.slice none 0 0] 28)) := ((Below.refl _ _).alloc (Nat.le_refl _) _).alloc (by simp) _
  have HC := sDiskOk_any v ga oa L _ (hv.later hb0)
  have HV : Hid (RS 3 fcs ((w.alloc (.cells #[v] 28)).alloc (.cells #[.slice none 0 0] 28)) v ga oa L ∧ RS 1 ics ((w.alloc (.cells #[v] 28)).alloc (.cells #[.slice none 0 0] 28)) q gq oq Q ∧ Below w.heap.size w ((w.alloc (.cells #[v] 28)).alloc (.cells #[.slice none 0 0] 28))) := ⟨hv.later hb0, hq.later hb0, hb0⟩
  have HVW0 := hv
  have HVW1 := hq
  obtain ⟨a, cap, rfl, hl, hA, _⟩ := hv
  obtain ⟨aq, cq, rfl, hlq, hAq, _⟩ := hq
  obtain ⟨n, hn⟩ : ∃ n, L.length = n := ⟨_, rfl⟩
  obtain ⟨nq, hnq⟩ : ∃ nq, Q.length = nq := ⟨_, rfl⟩
  have HA : Hid ((0 < n → a = some ⟨ga, oa, none⟩) ∧ (0 < nq → aq = some ⟨gq, oq, none⟩)) := ⟨fun h => (hA (by omega)).1, fun h => (hAq (by omega)).1⟩
  have HG : Hid (BD ((w.alloc (.cells #[.slice a n cap] 28)).alloc (.cells #[.slice none 0 0] 28)) w.heap.size 28 (.slice a n cap) ∧ BD ((w.alloc (.cells #[.slice a n cap] 28)).alloc (.cells #[.slice none 0 0] 28)) (w.heap.size + 1) 28 (.slice none 0 0)) := ⟨alloc_snd _ _ _ rfl, alloc_fst _ _ (by simp)⟩
  rw [hn] at hl HC HV hb0 HVW0 ⊢
  rw [hnq] at hlq HV HVW1 ⊢
  have HV1 : Hid (RS 3 fcs w (.slice a n cap) ga oa L ∧ RS 1 ics w (.slice aq nq cq) gq oq Q) := ⟨HVW0, HVW1⟩
  clear HVW0 HVW1
  clear hA hAq hb0
  have hs0 : ((w.alloc (.cells #[.slice a n cap] 28)).alloc (.cells #[.slice none 0 0] 28)).heap.size = w.heap.size + 2 := by simp
  cases hd : F.diskB L
  · rw [hd] at HC
    have el : F.loseR L Q = [] := by unfold F.loseR; rw [hd]; rfl
    rw [el]
    clear el
    go_enter Tryz.func49, Tryz.ntmps49
    go_wp2_with fail
    refine HC.mono ?_
    rintro e w1 ⟨rfl, hb1⟩
    have hG := HG.out.2.later hb1
    have t0 := hG.cell
    have g0 := hG.fr
    have HF : Hid ((w1.setCell ⟨w.heap.size + 1, 0, none⟩ (.slice none 0 0)).rangeAt (w.heap.size + 1) 0 [.slice none 0 0] ∧ Below w.heap.size w (w1.setCell ⟨w.heap.size + 1, 0, none⟩ (.slice none 0 0))) := ⟨range1 (set_here t0 g0 _), (HV.out.2.2.trans (hb1.mono (by rw [hs0]; omega))).setCell (p := ⟨w.heap.size + 1, 0, none⟩) (by simp) _⟩
    clear HC hb1 hG HV HA HG
    go_wp2
    refine ret_rec2 4 5 (w.heap.size + 1) 28 [.slice none 0 0] _ _ rfl rfl rfl rfl Tryz.underlying28 rfl sizeDisk HF.out.1 ?_
    exact ⟨_, rfl, ⟨⟨_, w.heap.size, rfl, RW.nil _ _, Nat.le_refl _⟩, NlR.nil⟩, HF.out.2⟩
  rw [hd] at HC
  have el : F.loseR L Q = F.cutL L Q := by unfold F.loseR; rw [hd]; rfl
  rw [el]
  obtain ⟨M, hM⟩ : ∃ M, F.cutL L Q = M := ⟨_, rfl⟩
  have HM : Hid (M.length = n ∧ ∀ j (h : j < M.length) (h2 : j < L.length), M[j] = F.cutF L[j] (Q.getD j 0)) := by
    subst hM
    exact ⟨by rw [F.cutL_len]; exact hn, fun j h h2 => F.cutL_at L Q j h h2⟩
  have HD : Hid (F.DOk L) := F.diskB_iff.1 hd
  have hn30 := HD.out.1
  rw [hM]
  clear el hM hd
  go_enter Tryz.func49, Tryz.ntmps49
  go_wp2_with fail
  refine HC.mono ?_
  rintro e w1 ⟨rfl, hb1⟩
  have hs1 : w.heap.size + 2 ≤ w1.heap.size := by have := hb1.size; omega
  have hbw1 := HV.out.2.2.trans (hb1.mono (by rw [hs0]; omega))
  have hwb : Below w1.heap.size w1 (w1.alloc (.cells #[.slice none 0 0] 28)) := (Below.refl _ _).alloc (Nat.le_refl _) _
  have hst : SpW w.heap.size w (w1.alloc (.cells #[.slice none 0 0] 28)) w.heap.size (w.heap.size + 1) w1.heap.size (.slice a n cap) (.slice none 0 0) [] :=
    ⟨⟨World.ownsRow_nil _ _ _ _, hbw1.trans (hwb.mono hbw1.size), by simp; omega⟩, ⟨(HG.out.1.later hb1).later hwb, (HG.out.2.later hb1).later hwb, BD.new _ _ _⟩, ⟨by omega, by omega⟩, by omega, by omega⟩
  have HST : Hid (LoRj w w1.heap.size M (.slice a n cap) (.int .i64 0) (w1.alloc (.cells #[.slice none 0 0] 28))) := ⟨0, _, by omega, rfl, hst⟩
  clear HC hb1 HV HG hs0 hst hwb hbw1
  go_wp2
  go_loopw [7] (fun i wr => LoRj w w1.heap.size M (.slice a n cap) i wr) (fun i _ => n - (intOf i).toNat)
  case atStart => exact HST.out
  case round =>
    obtain ⟨m, u, hm, rfl, HI⟩ := hrel
    clear HST
    rw [HM.out.1] at hm
    have d0 := HI.out.2.1.1.cell
    by_cases hlt : m < n
    · have ea := HA.out.1 (by omega)
      subst ea
      obtain ⟨c0, c1, c2⟩ := (HV1.out.1.later HI.out.1.2.1).file m (by omega)
      obtain ⟨⟨y, t, k⟩, hX⟩ : ∃ X, L[m]'(by omega) = X := ⟨_, rfl⟩
      rw [hX] at c0 c1 c2
      simp only at c0 c1 c2
      obtain ⟨Y, hY⟩ : ∃ Y, Q.getD m 0 = Y := ⟨_, rfl⟩
      have hfl := F.flB_iff.1 (HD.out.2.1 ⟨y, t, k⟩ (by rw [← hX]; exact List.getElem_mem _))
      simp only at hfl
      obtain ⟨hnm, hf1, hf2, hf3⟩ := hfl
      have hcin := F.cutN_in (HD.out.2.1 ⟨y, t, k⟩ (by rw [← hX]; exact List.getElem_mem _)) Y
      obtain ⟨c, hc⟩ : ∃ c : Nat, F.cutN ⟨y, t, k⟩ Y = (c : Int) := ⟨(F.cutN ⟨y, t, k⟩ Y).toNat, by omega⟩
      rw [hc] at hcin
      simp only at hcin
      have hcc : c ≤ t.size := by omega
      have i1 : (m : Int) < (n : Int) := by omega
      have i2 : (0 : Int) ≤ (m : Int) := by omega
      obtain ⟨l, hl'⟩ : ∃ l, M.take m = l := ⟨_, rfl⟩
      have hll : l.length ≤ 30 := by rw [← hl']; simp; omega
      have hj : M.take (m + 1) = l ++ [⟨y, t.extract 0 c, (c : Int)⟩] := by
        rw [List.take_succ_eq_append_getElem (by rw [HM.out.1]; omega), hl', HM.out.2 m (by rw [HM.out.1]; omega) (by omega), hX, hY]
        unfold F.cutF
        rw [hc]
        rfl
      have HJ : Hid (M.take (m + 1) = l ++ [⟨y, t.extract 0 c, (c : Int)⟩]) := hj
      rw [hl'] at HI
      clear hj hl' hX hnm hcin
      by_cases hmq : m < nq
      · have eq := HA.out.2 (by omega)
        subst eq
        have cq0 := (HV1.out.2.later HI.out.1.2.1).int m (by omega)
        have hYq : Q[m]'(by omega) = Y := by rw [← hY]; simp [List.getD, List.getElem?_eq_getElem (show m < Q.length by omega)]
        rw [hYq] at cq0
        have cq1 : (wr.alloc (.cells #[.string y, .string t, .int .i64 k] 108)).cell? ⟨gq, oq + m, none⟩ = some (.int .i64 Y) := (cell_kept (Below.heap_alloc _ _ gq (lt_of_cell cq0))).trans cq0
        have j1 : (m : Int) < (nq : Int) := by omega
        clear hYq hY
        by_cases h1 : (t.size : Int) < Y
        · obtain rfl : c = t.size := by
            have := hc
            unfold F.cutN at this
            simp only at this
            rw [if_pos h1, if_neg (by omega)] at this
            omega
          have h3 : ¬ (t.size : Int) < k := by omega
          have ext : t.extract 0 t.size = t := by simp
          rw [ext] at HJ
          clear hc ext
          have hwa : Below wr.heap.size wr ((wr.alloc (.cells #[.string y, .string t, .int .i64 k] 108)).alloc (.cells #[.string y, .string t, .int .i64 (t.size : Int)] 108)).drew := (((Below.refl _ _).alloc (Nat.le_refl _) _).alloc (by simp) _).drew
          have HA1 : Hid (SpW w.heap.size w ((wr.alloc (.cells #[.string y, .string t, .int .i64 k] 108)).alloc (.cells #[.string y, .string t, .int .i64 (t.size : Int)] 108)).drew w.heap.size (w.heap.size + 1) w1.heap.size (.slice (some ⟨ga, oa, none⟩) n cap) u l) := HI.out.later hwa
          have HRN : Hid (((wr.alloc (.cells #[.string y, .string t, .int .i64 k] 108)).alloc (.cells #[.string y, .string t, .int .i64 (t.size : Int)] 108)).drew.rangeAt (wr.heap.size + 1) 0 (fcs ⟨y, t, (t.size : Int)⟩)) := range_at (by simp) (range_new (wr.alloc (.cells #[.string y, .string t, .int .i64 k] 108)) [.string y, .string t, .int .i64 (t.size : Int)] 108)
          have d2 : (wr.alloc (.cells #[.string y, .string t, .int .i64 k] 108)).cell? ⟨w1.heap.size, 0, none⟩ = some u := (HI.out.later (((Below.refl _ _).alloc (Nat.le_refl _) _))).2.1.2.2.cell
          have d2' : ((wr.alloc (.cells #[.string y, .string t, .int .i64 k] 108)).alloc (.cells #[.string y, .string t, .int .i64 (t.size : Int)] 108)).cell? ⟨w1.heap.size, 0, none⟩ = some u := HA1.out.2.1.2.2.cell
          have hbk : ((wr.alloc (.cells #[.string y, .string t, .int .i64 k] 108)).alloc (.cells #[.string y, .string t, .int .i64 (t.size : Int)] 108)).heap[wr.heap.size]? = some (.cells #[.string y, .string t, .int .i64 k] 108) := alloc_snd _ _ _ rfl
          have z0 : ((wr.alloc (.cells #[.string y, .string t, .int .i64 k] 108)).alloc (.cells #[.string y, .string t, .int .i64 (t.size : Int)] 108)).cell? ⟨wr.heap.size, 0, none⟩ = some (.string y) := by rw [cell_of_row _ _ 0 _ _ (0, 0) hbk]; rfl
          have z1 : ((wr.alloc (.cells #[.string y, .string t, .int .i64 k] 108)).alloc (.cells #[.string y, .string t, .int .i64 (t.size : Int)] 108)).cell? ⟨wr.heap.size, 1, none⟩ = some (.string t) := by rw [cell_of_row _ _ 1 _ _ (0, 0) hbk]; rfl
          clear HI HD HA HV1 hwa hbk
          go_wp2
          go_region_law ((refine step_file rfl _ _ rfl _ _ u l ⟨y, t, (t.size : Int)⟩ (by rfl) HA1.out.1 _ (by rfl) HRN.out (by omega) ?_; intro g8 cap8 w9 ho9 hg9; have hs9 := HA1.out.app ho9 hg9; have e1 := hs9.2.1.2.2.cell; have f1 := hs9.2.1.2.2.fr))
          all_goals
            have HJ2 : Hid (SpW w.heap.size w (w9.setCell ⟨w1.heap.size, 0, none⟩ (.slice (some ⟨g8, 0, none⟩) (l.length + 1) cap8)) w.heap.size (w.heap.size + 1) w1.heap.size (.slice (some ⟨ga, oa, none⟩) n cap) (.slice (some ⟨g8, 0, none⟩) (l.length + 1) cap8) (M.take (m + 1))) := by rw [HJ.out]; exact hs9.set
            clear hs9 e1 f1 ho9 hg9 HA1 HRN HJ d2 d2' z0 z1 d0 c0 c1 c2
            go_wp2
            go_roundw
            case rel => exact ⟨m + 1, _, by rw [HM.out.1]; omega, by go_num, HJ2⟩
            case measure => simp [intOf]; omega
        · by_cases h2 : Y < k
          · obtain rfl : k = (c : Int) := by
              have := hc
              unfold F.cutN at this
              simp only at this
              rw [if_neg h1, if_pos h2] at this
              exact this
            clear hc
            have hwa : Below wr.heap.size wr ((wr.alloc (.cells #[.string y, .string t, .int .i64 (c : Int)] 108)).alloc (.cells #[.string y, .string (t.extract 0 c), .int .i64 (c : Int)] 108)).drew := (((Below.refl _ _).alloc (Nat.le_refl _) _).alloc (by simp) _).drew
            have HA1 : Hid (SpW w.heap.size w ((wr.alloc (.cells #[.string y, .string t, .int .i64 (c : Int)] 108)).alloc (.cells #[.string y, .string (t.extract 0 c), .int .i64 (c : Int)] 108)).drew w.heap.size (w.heap.size + 1) w1.heap.size (.slice (some ⟨ga, oa, none⟩) n cap) u l) := HI.out.later hwa
            have HRN : Hid (((wr.alloc (.cells #[.string y, .string t, .int .i64 (c : Int)] 108)).alloc (.cells #[.string y, .string (t.extract 0 c), .int .i64 (c : Int)] 108)).drew.rangeAt (wr.heap.size + 1) 0 (fcs ⟨y, t.extract 0 c, (c : Int)⟩)) := range_at (by simp) (range_new (wr.alloc (.cells #[.string y, .string t, .int .i64 (c : Int)] 108)) [.string y, .string (t.extract 0 c), .int .i64 (c : Int)] 108)
            have d2 : (wr.alloc (.cells #[.string y, .string t, .int .i64 (c : Int)] 108)).cell? ⟨w1.heap.size, 0, none⟩ = some u := (HI.out.later (((Below.refl _ _).alloc (Nat.le_refl _) _))).2.1.2.2.cell
            have d2' : ((wr.alloc (.cells #[.string y, .string t, .int .i64 (c : Int)] 108)).alloc (.cells #[.string y, .string (t.extract 0 c), .int .i64 (c : Int)] 108)).cell? ⟨w1.heap.size, 0, none⟩ = some u := HA1.out.2.1.2.2.cell
            have hbk : ((wr.alloc (.cells #[.string y, .string t, .int .i64 (c : Int)] 108)).alloc (.cells #[.string y, .string (t.extract 0 c), .int .i64 (c : Int)] 108)).heap[wr.heap.size]? = some (.cells #[.string y, .string t, .int .i64 (c : Int)] 108) := alloc_snd _ _ _ rfl
            have z0 : ((wr.alloc (.cells #[.string y, .string t, .int .i64 (c : Int)] 108)).alloc (.cells #[.string y, .string (t.extract 0 c), .int .i64 (c : Int)] 108)).cell? ⟨wr.heap.size, 0, none⟩ = some (.string y) := by rw [cell_of_row _ _ 0 _ _ (0, 0) hbk]; rfl
            have z1 : ((wr.alloc (.cells #[.string y, .string t, .int .i64 (c : Int)] 108)).alloc (.cells #[.string y, .string (t.extract 0 c), .int .i64 (c : Int)] 108)).cell? ⟨wr.heap.size, 1, none⟩ = some (.string t) := by rw [cell_of_row _ _ 1 _ _ (0, 0) hbk]; rfl
            clear HI HD HA HV1 hwa hbk
            go_wp2
            go_region_law ((refine step_file rfl _ _ rfl _ _ u l ⟨y, t.extract 0 c, (c : Int)⟩ (by rfl) HA1.out.1 _ (by rfl) HRN.out (by omega) ?_; intro g8 cap8 w9 ho9 hg9; have hs9 := HA1.out.app ho9 hg9; have e1 := hs9.2.1.2.2.cell; have f1 := hs9.2.1.2.2.fr))
            all_goals
              have HJ2 : Hid (SpW w.heap.size w (w9.setCell ⟨w1.heap.size, 0, none⟩ (.slice (some ⟨g8, 0, none⟩) (l.length + 1) cap8)) w.heap.size (w.heap.size + 1) w1.heap.size (.slice (some ⟨ga, oa, none⟩) n cap) (.slice (some ⟨g8, 0, none⟩) (l.length + 1) cap8) (M.take (m + 1))) := by rw [HJ.out]; exact hs9.set
              clear hs9 e1 f1 ho9 hg9 HA1 HRN HJ d2 d2' z0 z1 d0 c0 c1 c2
              go_wp2
              go_roundw
              case rel => exact ⟨m + 1, _, by rw [HM.out.1]; omega, by go_num, HJ2⟩
              case measure => simp [intOf]; omega
          · have hyc : Y = (c : Int) := by
              have := hc
              unfold F.cutN at this
              simp only at this
              rw [if_neg h1, if_neg h2] at this
              exact this
            clear hc
            subst hyc
            have hwa : Below wr.heap.size wr ((wr.alloc (.cells #[.string y, .string t, .int .i64 k] 108)).alloc (.cells #[.string y, .string (t.extract 0 c), .int .i64 (c : Int)] 108)).drew := (((Below.refl _ _).alloc (Nat.le_refl _) _).alloc (by simp) _).drew
            have HA1 : Hid (SpW w.heap.size w ((wr.alloc (.cells #[.string y, .string t, .int .i64 k] 108)).alloc (.cells #[.string y, .string (t.extract 0 c), .int .i64 (c : Int)] 108)).drew w.heap.size (w.heap.size + 1) w1.heap.size (.slice (some ⟨ga, oa, none⟩) n cap) u l) := HI.out.later hwa
            have HRN : Hid (((wr.alloc (.cells #[.string y, .string t, .int .i64 k] 108)).alloc (.cells #[.string y, .string (t.extract 0 c), .int .i64 (c : Int)] 108)).drew.rangeAt (wr.heap.size + 1) 0 (fcs ⟨y, t.extract 0 c, (c : Int)⟩)) := range_at (by simp) (range_new (wr.alloc (.cells #[.string y, .string t, .int .i64 k] 108)) [.string y, .string (t.extract 0 c), .int .i64 (c : Int)] 108)
            have d2 : (wr.alloc (.cells #[.string y, .string t, .int .i64 k] 108)).cell? ⟨w1.heap.size, 0, none⟩ = some u := (HI.out.later (((Below.refl _ _).alloc (Nat.le_refl _) _))).2.1.2.2.cell
            have d2' : ((wr.alloc (.cells #[.string y, .string t, .int .i64 k] 108)).alloc (.cells #[.string y, .string (t.extract 0 c), .int .i64 (c : Int)] 108)).cell? ⟨w1.heap.size, 0, none⟩ = some u := HA1.out.2.1.2.2.cell
            have hbk : ((wr.alloc (.cells #[.string y, .string t, .int .i64 k] 108)).alloc (.cells #[.string y, .string (t.extract 0 c), .int .i64 (c : Int)] 108)).heap[wr.heap.size]? = some (.cells #[.string y, .string t, .int .i64 k] 108) := alloc_snd _ _ _ rfl
            have z0 : ((wr.alloc (.cells #[.string y, .string t, .int .i64 k] 108)).alloc (.cells #[.string y, .string (t.extract 0 c), .int .i64 (c : Int)] 108)).cell? ⟨wr.heap.size, 0, none⟩ = some (.string y) := by rw [cell_of_row _ _ 0 _ _ (0, 0) hbk]; rfl
            have z1 : ((wr.alloc (.cells #[.string y, .string t, .int .i64 k] 108)).alloc (.cells #[.string y, .string (t.extract 0 c), .int .i64 (c : Int)] 108)).cell? ⟨wr.heap.size, 1, none⟩ = some (.string t) := by rw [cell_of_row _ _ 1 _ _ (0, 0) hbk]; rfl
            clear HI HD HA HV1 hwa hbk
            go_wp2
            go_region_law ((refine step_file rfl _ _ rfl _ _ u l ⟨y, t.extract 0 c, (c : Int)⟩ (by rfl) HA1.out.1 _ (by rfl) HRN.out (by omega) ?_; intro g8 cap8 w9 ho9 hg9; have hs9 := HA1.out.app ho9 hg9; have e1 := hs9.2.1.2.2.cell; have f1 := hs9.2.1.2.2.fr))
            all_goals
              have HJ2 : Hid (SpW w.heap.size w (w9.setCell ⟨w1.heap.size, 0, none⟩ (.slice (some ⟨g8, 0, none⟩) (l.length + 1) cap8)) w.heap.size (w.heap.size + 1) w1.heap.size (.slice (some ⟨ga, oa, none⟩) n cap) (.slice (some ⟨g8, 0, none⟩) (l.length + 1) cap8) (M.take (m + 1))) := by rw [HJ.out]; exact hs9.set
              clear hs9 e1 f1 ho9 hg9 HA1 HRN HJ d2 d2' z0 z1 d0 c0 c1 c2
              go_wp2
              go_roundw
              case rel => exact ⟨m + 1, _, by rw [HM.out.1]; omega, by go_num, HJ2⟩
              case measure => simp [intOf]; omega
      · have hYq : Y = 0 := by rw [← hY]; simp [List.getD, List.getElem?_eq_none (show Q.length ≤ m by omega)]
        subst hYq
        have j1 : ¬ (m : Int) < (nq : Int) := by omega
        clear hY
        by_cases h1 : (t.size : Int) < 0
        · exact absurd h1 (by omega)
        · by_cases h2 : 0 < k
          · obtain rfl : k = (c : Int) := by
              have := hc
              unfold F.cutN at this
              simp only at this
              rw [if_neg h1, if_pos h2] at this
              exact this
            clear hc
            have hwa : Below wr.heap.size wr ((wr.alloc (.cells #[.string y, .string t, .int .i64 (c : Int)] 108)).alloc (.cells #[.string y, .string (t.extract 0 c), .int .i64 (c : Int)] 108)).drew := (((Below.refl _ _).alloc (Nat.le_refl _) _).alloc (by simp) _).drew
            have HA1 : Hid (SpW w.heap.size w ((wr.alloc (.cells #[.string y, .string t, .int .i64 (c : Int)] 108)).alloc (.cells #[.string y, .string (t.extract 0 c), .int .i64 (c : Int)] 108)).drew w.heap.size (w.heap.size + 1) w1.heap.size (.slice (some ⟨ga, oa, none⟩) n cap) u l) := HI.out.later hwa
            have HRN : Hid (((wr.alloc (.cells #[.string y, .string t, .int .i64 (c : Int)] 108)).alloc (.cells #[.string y, .string (t.extract 0 c), .int .i64 (c : Int)] 108)).drew.rangeAt (wr.heap.size + 1) 0 (fcs ⟨y, t.extract 0 c, (c : Int)⟩)) := range_at (by simp) (range_new (wr.alloc (.cells #[.string y, .string t, .int .i64 (c : Int)] 108)) [.string y, .string (t.extract 0 c), .int .i64 (c : Int)] 108)
            have d2 : (wr.alloc (.cells #[.string y, .string t, .int .i64 (c : Int)] 108)).cell? ⟨w1.heap.size, 0, none⟩ = some u := (HI.out.later (((Below.refl _ _).alloc (Nat.le_refl _) _))).2.1.2.2.cell
            have d2' : ((wr.alloc (.cells #[.string y, .string t, .int .i64 (c : Int)] 108)).alloc (.cells #[.string y, .string (t.extract 0 c), .int .i64 (c : Int)] 108)).cell? ⟨w1.heap.size, 0, none⟩ = some u := HA1.out.2.1.2.2.cell
            have hbk : ((wr.alloc (.cells #[.string y, .string t, .int .i64 (c : Int)] 108)).alloc (.cells #[.string y, .string (t.extract 0 c), .int .i64 (c : Int)] 108)).heap[wr.heap.size]? = some (.cells #[.string y, .string t, .int .i64 (c : Int)] 108) := alloc_snd _ _ _ rfl
            have z0 : ((wr.alloc (.cells #[.string y, .string t, .int .i64 (c : Int)] 108)).alloc (.cells #[.string y, .string (t.extract 0 c), .int .i64 (c : Int)] 108)).cell? ⟨wr.heap.size, 0, none⟩ = some (.string y) := by rw [cell_of_row _ _ 0 _ _ (0, 0) hbk]; rfl
            have z1 : ((wr.alloc (.cells #[.string y, .string t, .int .i64 (c : Int)] 108)).alloc (.cells #[.string y, .string (t.extract 0 c), .int .i64 (c : Int)] 108)).cell? ⟨wr.heap.size, 1, none⟩ = some (.string t) := by rw [cell_of_row _ _ 1 _ _ (0, 0) hbk]; rfl
            clear HI HD HA HV1 hwa hbk
            go_wp2
            go_region_law ((refine step_file rfl _ _ rfl _ _ u l ⟨y, t.extract 0 c, (c : Int)⟩ (by rfl) HA1.out.1 _ (by rfl) HRN.out (by omega) ?_; intro g8 cap8 w9 ho9 hg9; have hs9 := HA1.out.app ho9 hg9; have e1 := hs9.2.1.2.2.cell; have f1 := hs9.2.1.2.2.fr))
            all_goals
              have HJ2 : Hid (SpW w.heap.size w (w9.setCell ⟨w1.heap.size, 0, none⟩ (.slice (some ⟨g8, 0, none⟩) (l.length + 1) cap8)) w.heap.size (w.heap.size + 1) w1.heap.size (.slice (some ⟨ga, oa, none⟩) n cap) (.slice (some ⟨g8, 0, none⟩) (l.length + 1) cap8) (M.take (m + 1))) := by rw [HJ.out]; exact hs9.set
              clear hs9 e1 f1 ho9 hg9 HA1 HRN HJ d2 d2' z0 z1 d0 c0 c1 c2
              go_wp2
              go_roundw
              case rel => exact ⟨m + 1, _, by rw [HM.out.1]; omega, by go_num, HJ2⟩
              case measure => simp [intOf]; omega
          · have hyc : 0 = (c : Int) := by
              have := hc
              unfold F.cutN at this
              simp only at this
              rw [if_neg h1, if_neg h2] at this
              exact this
            clear hc
            obtain rfl : c = 0 := by omega
            clear hyc
            have ext : t.extract 0 0 = ByteArray.empty := by simp
            rw [ext] at HJ
            clear ext
            have hwa : Below wr.heap.size wr ((wr.alloc (.cells #[.string y, .string t, .int .i64 k] 108)).alloc (.cells #[.string y, .string ByteArray.empty, .int .i64 (0 : Int)] 108)).drew := (((Below.refl _ _).alloc (Nat.le_refl _) _).alloc (by simp) _).drew
            have HA1 : Hid (SpW w.heap.size w ((wr.alloc (.cells #[.string y, .string t, .int .i64 k] 108)).alloc (.cells #[.string y, .string ByteArray.empty, .int .i64 (0 : Int)] 108)).drew w.heap.size (w.heap.size + 1) w1.heap.size (.slice (some ⟨ga, oa, none⟩) n cap) u l) := HI.out.later hwa
            have HRN : Hid (((wr.alloc (.cells #[.string y, .string t, .int .i64 k] 108)).alloc (.cells #[.string y, .string ByteArray.empty, .int .i64 (0 : Int)] 108)).drew.rangeAt (wr.heap.size + 1) 0 (fcs ⟨y, ByteArray.empty, (0 : Int)⟩)) := range_at (by simp) (range_new (wr.alloc (.cells #[.string y, .string t, .int .i64 k] 108)) [.string y, .string ByteArray.empty, .int .i64 (0 : Int)] 108)
            have d2 : (wr.alloc (.cells #[.string y, .string t, .int .i64 k] 108)).cell? ⟨w1.heap.size, 0, none⟩ = some u := (HI.out.later (((Below.refl _ _).alloc (Nat.le_refl _) _))).2.1.2.2.cell
            have d2' : ((wr.alloc (.cells #[.string y, .string t, .int .i64 k] 108)).alloc (.cells #[.string y, .string ByteArray.empty, .int .i64 (0 : Int)] 108)).cell? ⟨w1.heap.size, 0, none⟩ = some u := HA1.out.2.1.2.2.cell
            have hbk : ((wr.alloc (.cells #[.string y, .string t, .int .i64 k] 108)).alloc (.cells #[.string y, .string ByteArray.empty, .int .i64 (0 : Int)] 108)).heap[wr.heap.size]? = some (.cells #[.string y, .string t, .int .i64 k] 108) := alloc_snd _ _ _ rfl
            have z0 : ((wr.alloc (.cells #[.string y, .string t, .int .i64 k] 108)).alloc (.cells #[.string y, .string ByteArray.empty, .int .i64 (0 : Int)] 108)).cell? ⟨wr.heap.size, 0, none⟩ = some (.string y) := by rw [cell_of_row _ _ 0 _ _ (0, 0) hbk]; rfl
            have z1 : ((wr.alloc (.cells #[.string y, .string t, .int .i64 k] 108)).alloc (.cells #[.string y, .string ByteArray.empty, .int .i64 (0 : Int)] 108)).cell? ⟨wr.heap.size, 1, none⟩ = some (.string t) := by rw [cell_of_row _ _ 1 _ _ (0, 0) hbk]; rfl
            clear HI HD HA HV1 hwa hbk
            go_wp2
            go_region_law ((refine step_file rfl _ _ rfl _ _ u l ⟨y, ByteArray.empty, (0 : Int)⟩ (by rfl) HA1.out.1 _ (by rfl) HRN.out (by omega) ?_; intro g8 cap8 w9 ho9 hg9; have hs9 := HA1.out.app ho9 hg9; have e1 := hs9.2.1.2.2.cell; have f1 := hs9.2.1.2.2.fr))
            all_goals
              have HJ2 : Hid (SpW w.heap.size w (w9.setCell ⟨w1.heap.size, 0, none⟩ (.slice (some ⟨g8, 0, none⟩) (l.length + 1) cap8)) w.heap.size (w.heap.size + 1) w1.heap.size (.slice (some ⟨ga, oa, none⟩) n cap) (.slice (some ⟨g8, 0, none⟩) (l.length + 1) cap8) (M.take (m + 1))) := by rw [HJ.out]; exact hs9.set
              clear hs9 e1 f1 ho9 hg9 HA1 HRN HJ d2 d2' z0 z1 d0 c0 c1 c2
              go_wp2
              go_roundw
              case rel => exact ⟨m + 1, _, by rw [HM.out.1]; omega, by go_num, HJ2⟩
              case measure => simp [intOf]; omega
    · have hme : n = m := by omega
      have e1 : M.take m = M := List.take_of_length_le (by rw [HM.out.1]; omega)
      rw [e1] at HI
      subst hme
      have d2 := HI.out.2.1.2.2.cell
      have d1 := HI.out.2.1.2.1.cell
      have f1 := HI.out.2.1.2.1.fr
      have HF : Hid ((wr.setCell ⟨w.heap.size + 1, 0, none⟩ u).rangeAt (w.heap.size + 1) 0 [u] ∧ DkN (wr.setCell ⟨w.heap.size + 1, 0, none⟩ u) w.heap.size (.agg #[u]) M ∧ Below w.heap.size w (wr.setCell ⟨w.heap.size + 1, 0, none⟩ u)) := by
        have h1 := SpW.ret HI.out (by rw [HM.out.1]; omega)
        exact ⟨h1.1, ⟨h1.2.1, HI.out.1.nl⟩, h1.2.2⟩
      obtain ⟨au, cu, hu⟩ := HI.out.1.shape
      subst hu
      clear HI HA HV1 HD
      go_wp2
      refine ret_rec2 4 5 (w.heap.size + 1) 28 [_] _ _ rfl rfl rfl rfl Tryz.underlying28 rfl sizeDisk HF.out.1 ?_
      exact ⟨_, rfl, HF.out.2.1, HF.out.2.2⟩

theorem sLoseDisk_any (v : Value) (ga oa : Nat) (L : List Fl) (q : Value) (gq oq : Nat) (Q : List Int) (w : World) (hv : RS 3 fcs w v ga oa L) (hq : RS 1 ics w q gq oq Q) :
    Calls Tryz.prog 49 #[.agg #[v], q] w fun e w' => ∃ u, e = .returned (.tuple #[u, .bool (F.diskB L)]) ∧ DkIn w' w.heap.size u (F.loseR L Q) ∧ Below w.heap.size w w' :=
  (sLoseDisk_nl v ga oa L q gq oq Q w hv hq).mono fun _ _ ⟨u, h1, h2, h3⟩ => ⟨u, h1, h2.1, h3⟩

end Go.Proofs.YthlgohplljcgfaaGreatDoor
/-
  A server that falls: both answers.
-/
namespace Go.Proofs.YthlgohplljcgfaaGreatDoor
open Go.RowKit Go.BigFrame Go.Sort
set_option linter.unusedVariables false
set_option linter.unusedSimpArgs false

/-- what is left of a disk, or the disk as it was -/
noncomputable def lsF (X : List Fl) (Q : List Int) : List Fl := if F.diskB X then F.loseR X Q else X
theorem lose_small {X : List Fl} (h : SmallF X) (Q : List Int) : SmallF (F.loseR X Q) ∧ (F.loseR X Q).length ≤ X.length := by
  unfold F.loseR
  split
  · refine ⟨fun f hf => ?_, by rw [F.cutL_len]; exact Nat.le_refl _⟩
    obtain ⟨j, hj, rfl⟩ := List.getElem_of_mem hf
    have hj2 : j < X.length := by rw [F.cutL_len] at hj; exact hj
    rw [F.cutL_at X Q j hj hj2]
    have h1 := h X[j] (List.getElem_mem hj2)
    refine ⟨h1.1, ?_⟩
    show (X[j].t.extract 0 _).size ≤ 1048576
    rw [ByteArray.size_extract]
    omega
  · exact ⟨fun f hf => by simp at hf, Nat.zero_le _⟩
theorem ls_small {X : List Fl} (h : SmallF X) (Q : List Int) : SmallF (lsF X Q) ∧ (lsF X Q).length ≤ X.length := by
  unfold lsF
  split
  · exact lose_small h Q
  · exact ⟨h, Nat.le_refl _⟩
theorem SvD.keptHi {lo hi q : Nat} {W W' : World} {vd vv vt va : Value} {L : Sr} (h : SvD lo hi W vd vv vt va L) (hg : W.grownBy W' (some q)) (hq : hi ≤ q) : SvD lo hi W' vd vv vt va L := by
  obtain ⟨g1, go, V, g, g3, g4, h1, h2, h3, h4, c1, c2, c3, c4, c5, ds⟩ := h
  have hg' : W.grownBy W' (rowF q 1) := hg
  exact ⟨g1, go, V, g, g3, g4, h1.grown hg (fun hp => by have := (c1 hp).2; simp; omega), h2.grown hg' (fun _ hp => by have := (c2 hp).2; omega) (fun _ j hj hp => by have := (c3 j hj hp).2; omega), h3.grown hg (fun hp => by have := (c4 hp).2; simp; omega), h4.grown hg (fun hp => by have := (c5 hp).2; simp; omega), c1, c2, c3, c4, c5, ds⟩

set_option maxRecDepth 100000 in
set_option maxHeartbeats 4000000 in
theorem FallServer_any (n : Sn) (vd vv vt va : Value) (L : Sr) (q : Value) (gq oq : Nat) (Q : List Int) (w : World) (hM : SvS w vd vv vt va L) (hq : RS 1 ics w q gq oq Q) (hsm : SmallF L.F) (hT : Tab w) (hE : Eh w) (hTb : Tb w) :
    Calls Tryz.prog 20 #[.agg #[.int .i64 n.a, .int .i64 n.k, .bool n.u, vd, .int .i64 n.e, vv, vt, va, .int .i64 n.r0, .int .i64 n.r1, .int .i64 n.r2], q] w (SnA n.a n.k false (lsF L.F Q) (SR.runS n.a n.k (ltT (lsF L.F Q) ⟨#[115, 104, 97, 114, 100]⟩)) w) := by
  have HLO : Hid (∀ W, Below w.heap.size w W → Calls Tryz.prog 53 #[.agg #[vd], q] W fun e w' => ∃ a c g, e = .returned (.tuple #[.agg #[.slice a (F.loseR L.F Q).length c], .bool (F.diskB L.F)]) ∧ RW 3 fcs w' (.slice a (F.loseR L.F Q).length c) g (F.loseR L.F Q) ∧ (∀ X : List Fl, X = F.loseR L.F Q → True) ∧ Below W.heap.size W w') := fun W hW => by
    obtain ⟨⟨g1, o1, h1⟩, _⟩ := hM.later hW
    refine (LoseDisk_any vd g1 o1 L.F q gq oq Q W h1 (hq.later hW)).mono ?_
    rintro e w' ⟨u, rfl, ⟨s, g, rfl, hr, _⟩, hb⟩
    obtain ⟨a, c, rfl⟩ := hr.1.shape
    exact ⟨a, c, g, rfl, hr, fun _ _ => trivial, hb⟩
  have HSN : Hid (∀ W a c g o X, Below w.heap.size w W → RS 3 fcs W (.slice a X.length c) g o X → SmallF X → True → Calls Tryz.prog 10 #[.int .i64 n.a, .int .i64 n.k, .agg #[.slice a X.length c]] W (SnA n.a n.k true X (SR.runS n.a n.k (ltT X ⟨#[115, 104, 97, 114, 100]⟩)) W)) := fun W a c g o X hW h hs _ => ServerNew_at n.a n.k _ X g o W h hs (hT.later hW hT.pos) (hE.later hW) (hTb.later hW)
  have HND : Hid (∀ a c, vd = .slice a L.F.length c → True) := fun _ _ _ => trivial
  unfold SnA at HSN ⊢
  have hlq := ls_small hsm Q
  have hlo := lose_small hsm Q
  have hqs := hq.shape
  have HDK : Hid (∀ W, Below w.heap.size w W → ∃ g o, RS 3 fcs W vd g o L.F) := fun W hW => (hM.later hW).1
  obtain ⟨⟨xd, cd, rfl⟩, ⟨xv, xw, rfl⟩, ⟨xt, xu, rfl⟩, ⟨xa, xb, rfl⟩⟩ := hM.shapes
  have HND2 : Hid _ := HND.out xd cd rfl
  obtain ⟨aq, cq, rfl⟩ := hqs
  clear hM hq HND hT hE hTb
  have HX0 : Hid (Below w.heap.size w ((w.alloc (.cells #[.int .i64 n.a, .int .i64 n.k, .bool n.u, .slice xd L.F.length cd, .int .i64 n.e, .slice xv L.P.length xw, .slice xt L.I.length xu, .slice xa L.U.length xb, .int .i64 n.r0, .int .i64 n.r1, .int .i64 n.r2] 35)).alloc (.cells #[.int .i64 0, .int .i64 0, .bool false, .slice none 0 0, .int .i64 0, .slice none 0 0, .slice none 0 0, .slice none 0 0, .int .i64 0, .int .i64 0, .int .i64 0] 35)) ∧ Box 35 ((w.alloc (.cells #[.int .i64 n.a, .int .i64 n.k, .bool n.u, .slice xd L.F.length cd, .int .i64 n.e, .slice xv L.P.length xw, .slice xt L.I.length xu, .slice xa L.U.length xb, .int .i64 n.r0, .int .i64 n.r1, .int .i64 n.r2] 35)).alloc (.cells #[.int .i64 0, .int .i64 0, .bool false, .slice none 0 0, .int .i64 0, .slice none 0 0, .slice none 0 0, .slice none 0 0, .int .i64 0, .int .i64 0, .int .i64 0] 35)) w.heap.size [.int .i64 n.a, .int .i64 n.k, .bool n.u, .slice xd L.F.length cd, .int .i64 n.e, .slice xv L.P.length xw, .slice xt L.I.length xu, .slice xa L.U.length xb, .int .i64 n.r0, .int .i64 n.r1, .int .i64 n.r2] ∧ Box 35 ((w.alloc (.cells #[.int .i64 n.a, .int .i64 n.k, .bool n.u, .slice xd L.F.length cd, .int .i64 n.e, .slice xv L.P.length xw, .slice xt L.I.length xu, .slice xa L.U.length xb, .int .i64 n.r0, .int .i64 n.r1, .int .i64 n.r2] 35)).alloc (.cells #[.int .i64 0, .int .i64 0, .bool false, .slice none 0 0, .int .i64 0, .slice none 0 0, .slice none 0 0, .slice none 0 0, .int .i64 0, .int .i64 0, .int .i64 0] 35)) (w.heap.size + 1) [.int .i64 0, .int .i64 0, .bool false, .slice none 0 0, .int .i64 0, .slice none 0 0, .slice none 0 0, .slice none 0 0, .int .i64 0, .int .i64 0, .int .i64 0] ∧ w.heap.size + 1 + 1 ≤ ((w.alloc (.cells #[.int .i64 n.a, .int .i64 n.k, .bool n.u, .slice xd L.F.length cd, .int .i64 n.e, .slice xv L.P.length xw, .slice xt L.I.length xu, .slice xa L.U.length xb, .int .i64 n.r0, .int .i64 n.r1, .int .i64 n.r2] 35)).alloc (.cells #[.int .i64 0, .int .i64 0, .bool false, .slice none 0 0, .int .i64 0, .slice none 0 0, .slice none 0 0, .slice none 0 0, .int .i64 0, .int .i64 0, .int .i64 0] 35)).heap.size) := ⟨below_two _ _ _, (Box.new _ w _).later (below_alloc _ _), alloc_fst _ _ (by simp), by simp⟩
  cases hd : F.diskB L.F with
  | true =>
    have hls : lsF L.F Q = (F.loseR L.F Q) := by unfold lsF; rw [hd]; rfl
    rw [hls] at hlq ⊢
    rw [hd] at HLO
    obtain ⟨X, hX⟩ : ∃ X, (F.loseR L.F Q) = X := ⟨_, rfl⟩
    rw [hX] at HLO hlo ⊢
    have hsX : SmallF X := hlo.1
    have HSN2 : Hid (∀ W a c g o, Below w.heap.size w W → RS 3 fcs W (.slice a X.length c) g o X → True → Calls Tryz.prog 10 #[.int .i64 n.a, .int .i64 n.k, .agg #[.slice a X.length c]] W (fun e w' => ∃ ad cd av cv at2 ct aa ca, e = .returned (.agg #[.int .i64 n.a, .int .i64 n.k, .bool true, .slice ad X.length cd, .int .i64 (SR.runS n.a n.k (ltT X ⟨#[115, 104, 97, 114, 100]⟩)).e, .slice av (SR.runS n.a n.k (ltT X ⟨#[115, 104, 97, 114, 100]⟩)).P.length cv, .slice at2 (SR.runS n.a n.k (ltT X ⟨#[115, 104, 97, 114, 100]⟩)).I.length ct, .slice aa (SR.runS n.a n.k (ltT X ⟨#[115, 104, 97, 114, 100]⟩)).U.length ca, .int .i64 (SR.runS n.a n.k (ltT X ⟨#[115, 104, 97, 114, 100]⟩)).r0, .int .i64 (SR.runS n.a n.k (ltT X ⟨#[115, 104, 97, 114, 100]⟩)).r1, .int .i64 (SR.runS n.a n.k (ltT X ⟨#[115, 104, 97, 114, 100]⟩)).r2]) ∧ SvD W.heap.size w'.heap.size w' (.slice ad X.length cd) (.slice av (SR.runS n.a n.k (ltT X ⟨#[115, 104, 97, 114, 100]⟩)).P.length cv) (.slice at2 (SR.runS n.a n.k (ltT X ⟨#[115, 104, 97, 114, 100]⟩)).I.length ct) (.slice aa (SR.runS n.a n.k (ltT X ⟨#[115, 104, 97, 114, 100]⟩)).U.length ca) (Sr.ofS X (SR.runS n.a n.k (ltT X ⟨#[115, 104, 97, 114, 100]⟩))) ∧ Below W.heap.size W w')) := fun W a c g o hW h hn => HSN.out W a c g o X hW h hsX hn
    generalize SR.runS n.a n.k (ltT X ⟨#[115, 104, 97, 114, 100]⟩) = S at *
    obtain ⟨nX, hnX⟩ : ∃ nX, X.length = nX := ⟨_, rfl⟩
    have HNX : Hid (X.length = nX) := hnX
    rw [hnX] at HSN2 HLO ⊢
    clear hlq hlo hls hd hsm hsX HSN hnX 
    go_enter Tryz.func20, Tryz.ntmps20
    go_wp2_with fail
    refine (HLO.out _ HX0.out.1).mono ?_
    rintro e_ w1 ⟨a1, c1, g1, rfl, hr1, hn1, hb1⟩
    have HX1 : Hid (Below w.heap.size w (w1.alloc (.cells #[.slice a1 nX c1] 28)) ∧ Box 35 (w1.alloc (.cells #[.slice a1 nX c1] 28)) w.heap.size [.int .i64 n.a, .int .i64 n.k, .bool n.u, .slice xd L.F.length cd, .int .i64 n.e, .slice xv L.P.length xw, .slice xt L.I.length xu, .slice xa L.U.length xb, .int .i64 n.r0, .int .i64 n.r1, .int .i64 n.r2] ∧ Box 35 (w1.alloc (.cells #[.slice a1 nX c1] 28)) (w.heap.size + 1) [.int .i64 0, .int .i64 0, .bool false, .slice none 0 0, .int .i64 0, .slice none 0 0, .slice none 0 0, .slice none 0 0, .int .i64 0, .int .i64 0, .int .i64 0] ∧ w.heap.size + 1 + 1 ≤ w1.heap.size ∧ BD (w1.alloc (.cells #[.slice a1 nX c1] 28)) w1.heap.size 28 (.slice a1 nX c1)) := ⟨(HX0.out.1.trans (hb1.mono HX0.out.1.size)).alloc (HX0.out.1.trans (hb1.mono HX0.out.1.size)).size _, (HX0.out.2.1.later hb1).later (below_alloc _ _), (HX0.out.2.2.1.later hb1).later (below_alloc _ _), by have := hb1.size; have := HX0.out.2.2.2; omega, BD.new _ _ _⟩
    have z0 := HX1.out.2.1.at 0 _ rfl
    have z1 := HX1.out.2.1.at 1 _ rfl
    have z3 := HX1.out.2.1.at 3 _ rfl
    have zd := HX1.out.2.2.2.2.cell
    have fd := HX1.out.2.2.2.2.fr
    have hne : w.heap.size ≠ w1.heap.size := by have := HX1.out.2.2.2.1; omega
    have hsn := HSN2.out (w1.alloc (.cells #[.slice a1 nX c1] 28)) a1 c1 g1 0 HX1.out.1 (hr1.1.later (below_alloc _ _)) (trivial)
    clear hr1 hn1 hb1 HLO HSN2 HX0 HND2 HDK HNX
    go_wp2_with fail
    refine hsn.mono ?_
    rintro e_ w2 ⟨ad, c2, av, cv, at2, ct, aa, ca, rfl, hd2, hb2⟩
    have HD2 : Hid (SvD (w1.heap.size + 1) w2.heap.size w2 (.slice ad nX c2) (.slice av S.P.length cv) (.slice at2 S.I.length ct) (.slice aa S.U.length ca) (Sr.ofS X S)) := by
      have h9 := hd2
      have e9 : (w1.alloc (.cells #[.slice a1 nX c1] 28)).heap.size = w1.heap.size + 1 := by simp
      rw [e9] at h9
      exact h9
    have HX2 : Hid (Below w.heap.size w w2 ∧ Box 35 w2 (w.heap.size + 1) [.int .i64 0, .int .i64 0, .bool false, .slice none 0 0, .int .i64 0, .slice none 0 0, .slice none 0 0, .slice none 0 0, .int .i64 0, .int .i64 0, .int .i64 0] ∧ w1.heap.size + 1 ≤ w2.heap.size) := ⟨HX1.out.1.trans (hb2.mono HX1.out.1.size), HX1.out.2.2.1.later hb2, by have := hb2.size; simpa using this⟩
    have HW1 : Hid (w.heap.size + 1 + 1 ≤ w1.heap.size) := HX1.out.2.2.2.1
    clear hd2 hb2 HX1 z0 z1 z3 zd fd hne  hsn
    have HM2 : Hid (Box 35 (w2.alloc (.cells #[.int .i64 n.a, .int .i64 n.k, .bool false, .slice ad nX c2, .int .i64 S.e, .slice av S.P.length cv, .slice at2 S.I.length ct, .slice aa S.U.length ca, .int .i64 S.r0, .int .i64 S.r1, .int .i64 S.r2] 35)) w2.heap.size [.int .i64 n.a, .int .i64 n.k, .bool false, .slice ad nX c2, .int .i64 S.e, .slice av S.P.length cv, .slice at2 S.I.length ct, .slice aa S.U.length ca, .int .i64 S.r0, .int .i64 S.r1, .int .i64 S.r2] ∧ Box 35 (w2.alloc (.cells #[.int .i64 n.a, .int .i64 n.k, .bool false, .slice ad nX c2, .int .i64 S.e, .slice av S.P.length cv, .slice at2 S.I.length ct, .slice aa S.U.length ca, .int .i64 S.r0, .int .i64 S.r1, .int .i64 S.r2] 35)) (w.heap.size + 1) [.int .i64 0, .int .i64 0, .bool false, .slice none 0 0, .int .i64 0, .slice none 0 0, .slice none 0 0, .slice none 0 0, .int .i64 0, .int .i64 0, .int .i64 0]) := ⟨Box.new _ _ _, HX2.out.2.1.later (below_alloc _ _)⟩
    have HF : Hid (∀ W, (w2.alloc (.cells #[.int .i64 n.a, .int .i64 n.k, .bool false, .slice ad nX c2, .int .i64 S.e, .slice av S.P.length cv, .slice at2 S.I.length ct, .slice aa S.U.length ca, .int .i64 S.r0, .int .i64 S.r1, .int .i64 S.r2] 35)).grownBy W (some (w.heap.size + 1)) → SvD w.heap.size W.heap.size W (.slice ad nX c2) (.slice av S.P.length cv) (.slice at2 S.I.length ct) (.slice aa S.U.length ca) (Sr.ofS X S) ∧ Below w.heap.size w W) := fun W hg => by
      have s1 : w2.heap.size + 1 = (w2.alloc (.cells #[.int .i64 n.a, .int .i64 n.k, .bool false, .slice ad nX c2, .int .i64 S.e, .slice av S.P.length cv, .slice at2 S.I.length ct, .slice aa S.U.length ca, .int .i64 S.r0, .int .i64 S.r1, .int .i64 S.r2] 35)).heap.size := by simp
      have s2 := hg.size
      have s3 := HX2.out.2.2
      have s4 := HW1.out
      have k1 := HD2.out.later (below_alloc w2 (.cells #[.int .i64 n.a, .int .i64 n.k, .bool false, .slice ad nX c2, .int .i64 S.e, .slice av S.P.length cv, .slice at2 S.I.length ct, .slice aa S.U.length ca, .int .i64 S.r0, .int .i64 S.r1, .int .i64 S.r2] 35))
      have b1 := HX2.out.1.alloc HX2.out.1.size (.cells #[.int .i64 n.a, .int .i64 n.k, .bool false, .slice ad nX c2, .int .i64 S.e, .slice av S.P.length cv, .slice at2 S.I.length ct, .slice aa S.U.length ca, .int .i64 S.r0, .int .i64 S.r1, .int .i64 S.r2] 35)
      exact ⟨(k1.kept hg (by omega)).wide (by omega) (by omega), b1.grown hg b1.size (fun k hk => by simp at hk; omega)⟩
    clear HD2 HX2 HW1
    go_wp2_with (first | (refine wp_loadSrv rfl _ rfl w2.heap.size rfl HM2.out.1 ?_) | (refine wp_storeSrv rfl _ _ rfl (w.heap.size + 1) _ _ _ _ _ _ _ _ _ _ _ HM2.out.2 rfl rfl ⟨rfl, rfl, rfl, rfl, rfl, rfl, rfl, rfl, rfl, rfl, rfl⟩ ?_; intro hfin))
    exact ret_srv 4 (w.heap.size + 1) rfl rfl rfl hfin ⟨ad, c2, av, cv, at2, ct, aa, ca, rfl, HF.out _ (grown_setRowP _ _ _)⟩
  | false =>
    have hls : lsF L.F Q = L.F := by unfold lsF; rw [hd]; rfl
    rw [hls] at hlq ⊢
    rw [hd] at HLO
    obtain ⟨X, hX⟩ : ∃ X, L.F = X := ⟨_, rfl⟩
    have hsX : SmallF X := by rw [← hX]; exact hlq.1
    rw [hX] at HDK ⊢
    try rw [hX] at HND2
    have hlx : L.F.length = X.length := by rw [hX]
    try rw [hlx] at HLO
    rw [hlx] at HX0
    have HSN2 : Hid (∀ W a c g o, Below w.heap.size w W → RS 3 fcs W (.slice a X.length c) g o X → True → Calls Tryz.prog 10 #[.int .i64 n.a, .int .i64 n.k, .agg #[.slice a X.length c]] W (fun e w' => ∃ ad cd av cv at2 ct aa ca, e = .returned (.agg #[.int .i64 n.a, .int .i64 n.k, .bool true, .slice ad X.length cd, .int .i64 (SR.runS n.a n.k (ltT X ⟨#[115, 104, 97, 114, 100]⟩)).e, .slice av (SR.runS n.a n.k (ltT X ⟨#[115, 104, 97, 114, 100]⟩)).P.length cv, .slice at2 (SR.runS n.a n.k (ltT X ⟨#[115, 104, 97, 114, 100]⟩)).I.length ct, .slice aa (SR.runS n.a n.k (ltT X ⟨#[115, 104, 97, 114, 100]⟩)).U.length ca, .int .i64 (SR.runS n.a n.k (ltT X ⟨#[115, 104, 97, 114, 100]⟩)).r0, .int .i64 (SR.runS n.a n.k (ltT X ⟨#[115, 104, 97, 114, 100]⟩)).r1, .int .i64 (SR.runS n.a n.k (ltT X ⟨#[115, 104, 97, 114, 100]⟩)).r2]) ∧ SvD W.heap.size w'.heap.size w' (.slice ad X.length cd) (.slice av (SR.runS n.a n.k (ltT X ⟨#[115, 104, 97, 114, 100]⟩)).P.length cv) (.slice at2 (SR.runS n.a n.k (ltT X ⟨#[115, 104, 97, 114, 100]⟩)).I.length ct) (.slice aa (SR.runS n.a n.k (ltT X ⟨#[115, 104, 97, 114, 100]⟩)).U.length ca) (Sr.ofS X (SR.runS n.a n.k (ltT X ⟨#[115, 104, 97, 114, 100]⟩))) ∧ Below W.heap.size W w')) := fun W a c g o hW h hn => HSN.out W a c g o X hW h hsX hn
    generalize SR.runS n.a n.k (ltT X ⟨#[115, 104, 97, 114, 100]⟩) = S at *
    obtain ⟨nX, hnX⟩ : ∃ nX, X.length = nX := ⟨_, rfl⟩
    have HNX : Hid (X.length = nX) := hnX
    rw [hnX] at HSN2 HLO ⊢
    rw [hnX] at HDK HX0
    try rw [hnX] at HND2
    clear hlq hlo hls hd hsm hsX HSN hnX hlx
    go_enter Tryz.func20, Tryz.ntmps20
    go_wp2_with fail
    refine (HLO.out _ HX0.out.1).mono ?_
    rintro e_ w1 ⟨a1, c1, g1, rfl, hr1, hn1, hb1⟩
    have HX1 : Hid (Below w.heap.size w (w1.alloc (.cells #[.slice a1 (F.loseR X Q).length c1] 28)) ∧ Box 35 (w1.alloc (.cells #[.slice a1 (F.loseR X Q).length c1] 28)) w.heap.size [.int .i64 n.a, .int .i64 n.k, .bool n.u, .slice xd nX cd, .int .i64 n.e, .slice xv L.P.length xw, .slice xt L.I.length xu, .slice xa L.U.length xb, .int .i64 n.r0, .int .i64 n.r1, .int .i64 n.r2] ∧ Box 35 (w1.alloc (.cells #[.slice a1 (F.loseR X Q).length c1] 28)) (w.heap.size + 1) [.int .i64 0, .int .i64 0, .bool false, .slice none 0 0, .int .i64 0, .slice none 0 0, .slice none 0 0, .slice none 0 0, .int .i64 0, .int .i64 0, .int .i64 0] ∧ w.heap.size + 1 + 1 ≤ w1.heap.size ∧ BD (w1.alloc (.cells #[.slice a1 (F.loseR X Q).length c1] 28)) w1.heap.size 28 (.slice a1 (F.loseR X Q).length c1)) := ⟨(HX0.out.1.trans (hb1.mono HX0.out.1.size)).alloc (HX0.out.1.trans (hb1.mono HX0.out.1.size)).size _, (HX0.out.2.1.later hb1).later (below_alloc _ _), (HX0.out.2.2.1.later hb1).later (below_alloc _ _), by have := hb1.size; have := HX0.out.2.2.2; omega, BD.new _ _ _⟩
    have z0 := HX1.out.2.1.at 0 _ rfl
    have z1 := HX1.out.2.1.at 1 _ rfl
    have z3 := HX1.out.2.1.at 3 _ rfl
    have zd := HX1.out.2.2.2.2.cell
    have fd := HX1.out.2.2.2.2.fr
    have hne : w.heap.size ≠ w1.heap.size := by have := HX1.out.2.2.2.1; omega
    have HX2' : Hid (Below w.heap.size w (w1.alloc (.cells #[.slice xd nX cd] 28)) ∧ Box 35 (w1.alloc (.cells #[.slice xd nX cd] 28)) w.heap.size [.int .i64 n.a, .int .i64 n.k, .bool n.u, .slice xd nX cd, .int .i64 n.e, .slice xv L.P.length xw, .slice xt L.I.length xu, .slice xa L.U.length xb, .int .i64 n.r0, .int .i64 n.r1, .int .i64 n.r2] ∧ Box 35 (w1.alloc (.cells #[.slice xd nX cd] 28)) (w.heap.size + 1) [.int .i64 0, .int .i64 0, .bool false, .slice none 0 0, .int .i64 0, .slice none 0 0, .slice none 0 0, .slice none 0 0, .int .i64 0, .int .i64 0, .int .i64 0]) := ⟨(HX0.out.1.trans (hb1.mono HX0.out.1.size)).alloc (HX0.out.1.trans (hb1.mono HX0.out.1.size)).size _, (HX0.out.2.1.later hb1).later (below_alloc _ _), (HX0.out.2.2.1.later hb1).later (below_alloc _ _)⟩
    obtain ⟨gz, oz, hz⟩ := HDK.out _ HX2'.out.1
    have hsn := HSN2.out _ xd cd gz oz HX2'.out.1 hz HND2.out
    have z0' := HX2'.out.2.1.at 0 _ rfl
    have z1' := HX2'.out.2.1.at 1 _ rfl
    clear hz
    clear hr1 hn1 hb1 HLO HSN2 HX0 HND2 HDK HNX
    go_wp2_with fail
    refine hsn.mono ?_
    rintro e_ w2 ⟨ad, c2, av, cv, at2, ct, aa, ca, rfl, hd2, hb2⟩
    have HD2 : Hid (SvD (w1.heap.size + 1) w2.heap.size w2 (.slice ad nX c2) (.slice av S.P.length cv) (.slice at2 S.I.length ct) (.slice aa S.U.length ca) (Sr.ofS X S)) := by
      have h9 := hd2
      have e9 : (w1.alloc (.cells #[.slice xd nX cd] 28)).heap.size = w1.heap.size + 1 := by simp
      rw [e9] at h9
      exact h9
    have HX2 : Hid (Below w.heap.size w w2 ∧ Box 35 w2 (w.heap.size + 1) [.int .i64 0, .int .i64 0, .bool false, .slice none 0 0, .int .i64 0, .slice none 0 0, .slice none 0 0, .slice none 0 0, .int .i64 0, .int .i64 0, .int .i64 0] ∧ w1.heap.size + 1 ≤ w2.heap.size) := ⟨HX2'.out.1.trans (hb2.mono HX2'.out.1.size), HX2'.out.2.2.later hb2, by have := hb2.size; simpa using this⟩
    have HW1 : Hid (w.heap.size + 1 + 1 ≤ w1.heap.size) := HX1.out.2.2.2.1
    clear hd2 hb2 HX1 z0 z1 z3 zd fd hne HX2' z0' z1' hsn
    have HM2 : Hid (Box 35 (w2.alloc (.cells #[.int .i64 n.a, .int .i64 n.k, .bool false, .slice ad nX c2, .int .i64 S.e, .slice av S.P.length cv, .slice at2 S.I.length ct, .slice aa S.U.length ca, .int .i64 S.r0, .int .i64 S.r1, .int .i64 S.r2] 35)) w2.heap.size [.int .i64 n.a, .int .i64 n.k, .bool false, .slice ad nX c2, .int .i64 S.e, .slice av S.P.length cv, .slice at2 S.I.length ct, .slice aa S.U.length ca, .int .i64 S.r0, .int .i64 S.r1, .int .i64 S.r2] ∧ Box 35 (w2.alloc (.cells #[.int .i64 n.a, .int .i64 n.k, .bool false, .slice ad nX c2, .int .i64 S.e, .slice av S.P.length cv, .slice at2 S.I.length ct, .slice aa S.U.length ca, .int .i64 S.r0, .int .i64 S.r1, .int .i64 S.r2] 35)) (w.heap.size + 1) [.int .i64 0, .int .i64 0, .bool false, .slice none 0 0, .int .i64 0, .slice none 0 0, .slice none 0 0, .slice none 0 0, .int .i64 0, .int .i64 0, .int .i64 0]) := ⟨Box.new _ _ _, HX2.out.2.1.later (below_alloc _ _)⟩
    have HF : Hid (∀ W, (w2.alloc (.cells #[.int .i64 n.a, .int .i64 n.k, .bool false, .slice ad nX c2, .int .i64 S.e, .slice av S.P.length cv, .slice at2 S.I.length ct, .slice aa S.U.length ca, .int .i64 S.r0, .int .i64 S.r1, .int .i64 S.r2] 35)).grownBy W (some (w.heap.size + 1)) → SvD w.heap.size W.heap.size W (.slice ad nX c2) (.slice av S.P.length cv) (.slice at2 S.I.length ct) (.slice aa S.U.length ca) (Sr.ofS X S) ∧ Below w.heap.size w W) := fun W hg => by
      have s1 : w2.heap.size + 1 = (w2.alloc (.cells #[.int .i64 n.a, .int .i64 n.k, .bool false, .slice ad nX c2, .int .i64 S.e, .slice av S.P.length cv, .slice at2 S.I.length ct, .slice aa S.U.length ca, .int .i64 S.r0, .int .i64 S.r1, .int .i64 S.r2] 35)).heap.size := by simp
      have s2 := hg.size
      have s3 := HX2.out.2.2
      have s4 := HW1.out
      have k1 := HD2.out.later (below_alloc w2 (.cells #[.int .i64 n.a, .int .i64 n.k, .bool false, .slice ad nX c2, .int .i64 S.e, .slice av S.P.length cv, .slice at2 S.I.length ct, .slice aa S.U.length ca, .int .i64 S.r0, .int .i64 S.r1, .int .i64 S.r2] 35))
      have b1 := HX2.out.1.alloc HX2.out.1.size (.cells #[.int .i64 n.a, .int .i64 n.k, .bool false, .slice ad nX c2, .int .i64 S.e, .slice av S.P.length cv, .slice at2 S.I.length ct, .slice aa S.U.length ca, .int .i64 S.r0, .int .i64 S.r1, .int .i64 S.r2] 35)
      exact ⟨(k1.kept hg (by omega)).wide (by omega) (by omega), b1.grown hg b1.size (fun k hk => by simp at hk; omega)⟩
    clear HD2 HX2 HW1
    go_wp2_with (first | (refine wp_loadSrv rfl _ rfl w2.heap.size rfl HM2.out.1 ?_) | (refine wp_storeSrv rfl _ _ rfl (w.heap.size + 1) _ _ _ _ _ _ _ _ _ _ _ HM2.out.2 rfl rfl ⟨rfl, rfl, rfl, rfl, rfl, rfl, rfl, rfl, rfl, rfl, rfl⟩ ?_; intro hfin))
    exact ret_srv 4 (w.heap.size + 1) rfl rfl rfl hfin ⟨ad, c2, av, cv, at2, ct, aa, ca, rfl, HF.out _ (grown_setRowP _ _ _)⟩

set_option maxRecDepth 100000 in
set_option maxHeartbeats 4000000 in
theorem sFallServer_any (n : Sn) (vd vv vt va : Value) (L : Sr) (q : Value) (gq oq : Nat) (Q : List Int) (w : World) (hM : SvS w vd vv vt va L) (hq : RS 1 ics w q gq oq Q) (hsm : SmallF L.F) (hnn : ∀ c, vd ≠ .slice none 0 c) :
    Calls Tryz.prog 17 #[.agg #[.int .i64 n.a, .int .i64 n.k, .bool n.u, vd, .int .i64 n.e, vv, vt, va, .int .i64 n.r0, .int .i64 n.r1, .int .i64 n.r2], q] w (SnA n.a n.k false (lsF L.F Q) (SR.runS n.a n.k (ltT (lsF L.F Q) ⟨#[115, 104, 97, 114, 100]⟩)) w) := by
  have HLO : Hid (∀ W, Below w.heap.size w W → Calls Tryz.prog 49 #[.agg #[vd], q] W fun e w' => ∃ a c g, e = .returned (.tuple #[.agg #[.slice a (F.loseR L.F Q).length c], .bool (F.diskB L.F)]) ∧ RW 3 fcs w' (.slice a (F.loseR L.F Q).length c) g (F.loseR L.F Q) ∧ (∀ X : List Fl, X = F.loseR L.F Q → (a = none → X.length = 0 ∧ c = 0)) ∧ Below W.heap.size W w') := fun W hW => by
    obtain ⟨⟨g1, o1, h1⟩, _⟩ := hM.later hW
    refine (sLoseDisk_nl vd g1 o1 L.F q gq oq Q W h1 (hq.later hW)).mono ?_
    rintro e w' ⟨u, rfl, ⟨⟨s, g, rfl, hr, _⟩, hnl⟩, hb⟩
    obtain ⟨a, c, rfl⟩ := hr.1.shape
    exact ⟨a, c, g, rfl, hr, fun X hX ha => by subst ha; rw [hX]; exact hnl _ _ rfl, hb⟩
  have HSN : Hid (∀ W a c g o X, Below w.heap.size w W → RS 3 fcs W (.slice a X.length c) g o X → SmallF X → (a = none → X.length = 0 ∧ c = 0) → Calls Tryz.prog 8 #[.int .i64 n.a, .int .i64 n.k, .agg #[.slice a X.length c]] W (SnA n.a n.k true X (SR.runS n.a n.k (ltT X ⟨#[115, 104, 97, 114, 100]⟩)) W)) := fun W a c g o X hW h hs hnn => sServerNew_nn n.a n.k X a g o c W h hnn hs
  have HND : Hid (∀ a c, vd = .slice a L.F.length c → (a = none → L.F.length = 0 ∧ c = 0)) := fun a c e ha => by
    subst ha
    obtain ⟨⟨_, _, _, _, e2, _, h0, _⟩, _⟩ := hM
    rcases Nat.eq_zero_or_pos L.F.length with hz | hz
    · rw [hz] at e
      exact absurd e (hnn c)
    · obtain ⟨e3, _⟩ := h0 hz
      rw [e] at e2
      simp at e2
      rw [← e2.1] at e3
      cases e3
  unfold SnA at HSN ⊢
  have hlq := ls_small hsm Q
  have hlo := lose_small hsm Q
  have hqs := hq.shape
  have HDK : Hid (∀ W, Below w.heap.size w W → ∃ g o, RS 3 fcs W vd g o L.F) := fun W hW => (hM.later hW).1
  obtain ⟨⟨xd, cd, rfl⟩, ⟨xv, xw, rfl⟩, ⟨xt, xu, rfl⟩, ⟨xa, xb, rfl⟩⟩ := hM.shapes
  have HND2 : Hid _ := HND.out xd cd rfl
  obtain ⟨aq, cq, rfl⟩ := hqs
  clear hM hq HND hnn
  have HX0 : Hid (Below w.heap.size w ((w.alloc (.cells #[.int .i64 n.a, .int .i64 n.k, .bool n.u, .slice xd L.F.length cd, .int .i64 n.e, .slice xv L.P.length xw, .slice xt L.I.length xu, .slice xa L.U.length xb, .int .i64 n.r0, .int .i64 n.r1, .int .i64 n.r2] 35)).alloc (.cells #[.int .i64 0, .int .i64 0, .bool false, .slice none 0 0, .int .i64 0, .slice none 0 0, .slice none 0 0, .slice none 0 0, .int .i64 0, .int .i64 0, .int .i64 0] 35)) ∧ Box 35 ((w.alloc (.cells #[.int .i64 n.a, .int .i64 n.k, .bool n.u, .slice xd L.F.length cd, .int .i64 n.e, .slice xv L.P.length xw, .slice xt L.I.length xu, .slice xa L.U.length xb, .int .i64 n.r0, .int .i64 n.r1, .int .i64 n.r2] 35)).alloc (.cells #[.int .i64 0, .int .i64 0, .bool false, .slice none 0 0, .int .i64 0, .slice none 0 0, .slice none 0 0, .slice none 0 0, .int .i64 0, .int .i64 0, .int .i64 0] 35)) w.heap.size [.int .i64 n.a, .int .i64 n.k, .bool n.u, .slice xd L.F.length cd, .int .i64 n.e, .slice xv L.P.length xw, .slice xt L.I.length xu, .slice xa L.U.length xb, .int .i64 n.r0, .int .i64 n.r1, .int .i64 n.r2] ∧ Box 35 ((w.alloc (.cells #[.int .i64 n.a, .int .i64 n.k, .bool n.u, .slice xd L.F.length cd, .int .i64 n.e, .slice xv L.P.length xw, .slice xt L.I.length xu, .slice xa L.U.length xb, .int .i64 n.r0, .int .i64 n.r1, .int .i64 n.r2] 35)).alloc (.cells #[.int .i64 0, .int .i64 0, .bool false, .slice none 0 0, .int .i64 0, .slice none 0 0, .slice none 0 0, .slice none 0 0, .int .i64 0, .int .i64 0, .int .i64 0] 35)) (w.heap.size + 1) [.int .i64 0, .int .i64 0, .bool false, .slice none 0 0, .int .i64 0, .slice none 0 0, .slice none 0 0, .slice none 0 0, .int .i64 0, .int .i64 0, .int .i64 0] ∧ w.heap.size + 1 + 1 ≤ ((w.alloc (.cells #[.int .i64 n.a, .int .i64 n.k, .bool n.u, .slice xd L.F.length cd, .int .i64 n.e, .slice xv L.P.length xw, .slice xt L.I.length xu, .slice xa L.U.length xb, .int .i64 n.r0, .int .i64 n.r1, .int .i64 n.r2] 35)).alloc (.cells #[.int .i64 0, .int .i64 0, .bool false, .slice none 0 0, .int .i64 0, .slice none 0 0, .slice none 0 0, .slice none 0 0, .int .i64 0, .int .i64 0, .int .i64 0] 35)).heap.size) := ⟨below_two _ _ _, (Box.new _ w _).later (below_alloc _ _), alloc_fst _ _ (by simp), by simp⟩
  cases hd : F.diskB L.F with
  | true =>
    have hls : lsF L.F Q = (F.loseR L.F Q) := by unfold lsF; rw [hd]; rfl
    rw [hls] at hlq ⊢
    rw [hd] at HLO
    obtain ⟨X, hX⟩ : ∃ X, (F.loseR L.F Q) = X := ⟨_, rfl⟩
    rw [hX] at HLO hlo ⊢
    have hsX : SmallF X := hlo.1
    have HSN2 : Hid (∀ W a c g o, Below w.heap.size w W → RS 3 fcs W (.slice a X.length c) g o X → (a = none → X.length = 0 ∧ c = 0) → Calls Tryz.prog 8 #[.int .i64 n.a, .int .i64 n.k, .agg #[.slice a X.length c]] W (fun e w' => ∃ ad cd av cv at2 ct aa ca, e = .returned (.agg #[.int .i64 n.a, .int .i64 n.k, .bool true, .slice ad X.length cd, .int .i64 (SR.runS n.a n.k (ltT X ⟨#[115, 104, 97, 114, 100]⟩)).e, .slice av (SR.runS n.a n.k (ltT X ⟨#[115, 104, 97, 114, 100]⟩)).P.length cv, .slice at2 (SR.runS n.a n.k (ltT X ⟨#[115, 104, 97, 114, 100]⟩)).I.length ct, .slice aa (SR.runS n.a n.k (ltT X ⟨#[115, 104, 97, 114, 100]⟩)).U.length ca, .int .i64 (SR.runS n.a n.k (ltT X ⟨#[115, 104, 97, 114, 100]⟩)).r0, .int .i64 (SR.runS n.a n.k (ltT X ⟨#[115, 104, 97, 114, 100]⟩)).r1, .int .i64 (SR.runS n.a n.k (ltT X ⟨#[115, 104, 97, 114, 100]⟩)).r2]) ∧ SvD W.heap.size w'.heap.size w' (.slice ad X.length cd) (.slice av (SR.runS n.a n.k (ltT X ⟨#[115, 104, 97, 114, 100]⟩)).P.length cv) (.slice at2 (SR.runS n.a n.k (ltT X ⟨#[115, 104, 97, 114, 100]⟩)).I.length ct) (.slice aa (SR.runS n.a n.k (ltT X ⟨#[115, 104, 97, 114, 100]⟩)).U.length ca) (Sr.ofS X (SR.runS n.a n.k (ltT X ⟨#[115, 104, 97, 114, 100]⟩))) ∧ Below W.heap.size W w')) := fun W a c g o hW h hn => HSN.out W a c g o X hW h hsX hn
    generalize SR.runS n.a n.k (ltT X ⟨#[115, 104, 97, 114, 100]⟩) = S at *
    obtain ⟨nX, hnX⟩ : ∃ nX, X.length = nX := ⟨_, rfl⟩
    have HNX : Hid (X.length = nX) := hnX
    rw [hnX] at HSN2 HLO ⊢
    clear hlq hlo hls hd hsm hsX HSN hnX 
    go_enter Tryz.func17, Tryz.ntmps17
    go_wp2_with fail
    refine (HLO.out _ HX0.out.1).mono ?_
    rintro e_ w1 ⟨a1, c1, g1, rfl, hr1, hn1, hb1⟩
    have HX1 : Hid (Below w.heap.size w (w1.alloc (.cells #[.slice a1 nX c1] 28)) ∧ Box 35 (w1.alloc (.cells #[.slice a1 nX c1] 28)) w.heap.size [.int .i64 n.a, .int .i64 n.k, .bool n.u, .slice xd L.F.length cd, .int .i64 n.e, .slice xv L.P.length xw, .slice xt L.I.length xu, .slice xa L.U.length xb, .int .i64 n.r0, .int .i64 n.r1, .int .i64 n.r2] ∧ Box 35 (w1.alloc (.cells #[.slice a1 nX c1] 28)) (w.heap.size + 1) [.int .i64 0, .int .i64 0, .bool false, .slice none 0 0, .int .i64 0, .slice none 0 0, .slice none 0 0, .slice none 0 0, .int .i64 0, .int .i64 0, .int .i64 0] ∧ w.heap.size + 1 + 1 ≤ w1.heap.size ∧ BD (w1.alloc (.cells #[.slice a1 nX c1] 28)) w1.heap.size 28 (.slice a1 nX c1)) := ⟨(HX0.out.1.trans (hb1.mono HX0.out.1.size)).alloc (HX0.out.1.trans (hb1.mono HX0.out.1.size)).size _, (HX0.out.2.1.later hb1).later (below_alloc _ _), (HX0.out.2.2.1.later hb1).later (below_alloc _ _), by have := hb1.size; have := HX0.out.2.2.2; omega, BD.new _ _ _⟩
    have z0 := HX1.out.2.1.at 0 _ rfl
    have z1 := HX1.out.2.1.at 1 _ rfl
    have z3 := HX1.out.2.1.at 3 _ rfl
    have zd := HX1.out.2.2.2.2.cell
    have fd := HX1.out.2.2.2.2.fr
    have hne : w.heap.size ≠ w1.heap.size := by have := HX1.out.2.2.2.1; omega
    have hsn := HSN2.out (w1.alloc (.cells #[.slice a1 nX c1] 28)) a1 c1 g1 0 HX1.out.1 (hr1.1.later (below_alloc _ _)) (fun ha => by have := hn1 X rfl ha; rw [HNX.out] at this; exact this)
    clear hr1 hn1 hb1 HLO HSN2 HX0 HND2 HDK HNX
    go_wp2_with fail
    refine hsn.mono ?_
    rintro e_ w2 ⟨ad, c2, av, cv, at2, ct, aa, ca, rfl, hd2, hb2⟩
    have HD2 : Hid (SvD (w1.heap.size + 1) w2.heap.size w2 (.slice ad nX c2) (.slice av S.P.length cv) (.slice at2 S.I.length ct) (.slice aa S.U.length ca) (Sr.ofS X S)) := by
      have h9 := hd2
      have e9 : (w1.alloc (.cells #[.slice a1 nX c1] 28)).heap.size = w1.heap.size + 1 := by simp
      rw [e9] at h9
      exact h9
    have HX2 : Hid (Below w.heap.size w w2 ∧ Box 35 w2 (w.heap.size + 1) [.int .i64 0, .int .i64 0, .bool false, .slice none 0 0, .int .i64 0, .slice none 0 0, .slice none 0 0, .slice none 0 0, .int .i64 0, .int .i64 0, .int .i64 0] ∧ w1.heap.size + 1 ≤ w2.heap.size) := ⟨HX1.out.1.trans (hb2.mono HX1.out.1.size), HX1.out.2.2.1.later hb2, by have := hb2.size; simpa using this⟩
    have HW1 : Hid (w.heap.size + 1 + 1 ≤ w1.heap.size) := HX1.out.2.2.2.1
    clear hd2 hb2 HX1 z0 z1 z3 zd fd hne  hsn
    have HM2 : Hid (Box 35 (w2.alloc (.cells #[.int .i64 n.a, .int .i64 n.k, .bool false, .slice ad nX c2, .int .i64 S.e, .slice av S.P.length cv, .slice at2 S.I.length ct, .slice aa S.U.length ca, .int .i64 S.r0, .int .i64 S.r1, .int .i64 S.r2] 35)) w2.heap.size [.int .i64 n.a, .int .i64 n.k, .bool false, .slice ad nX c2, .int .i64 S.e, .slice av S.P.length cv, .slice at2 S.I.length ct, .slice aa S.U.length ca, .int .i64 S.r0, .int .i64 S.r1, .int .i64 S.r2] ∧ Box 35 (w2.alloc (.cells #[.int .i64 n.a, .int .i64 n.k, .bool false, .slice ad nX c2, .int .i64 S.e, .slice av S.P.length cv, .slice at2 S.I.length ct, .slice aa S.U.length ca, .int .i64 S.r0, .int .i64 S.r1, .int .i64 S.r2] 35)) (w.heap.size + 1) [.int .i64 0, .int .i64 0, .bool false, .slice none 0 0, .int .i64 0, .slice none 0 0, .slice none 0 0, .slice none 0 0, .int .i64 0, .int .i64 0, .int .i64 0]) := ⟨Box.new _ _ _, HX2.out.2.1.later (below_alloc _ _)⟩
    have HF : Hid (∀ W, (w2.alloc (.cells #[.int .i64 n.a, .int .i64 n.k, .bool false, .slice ad nX c2, .int .i64 S.e, .slice av S.P.length cv, .slice at2 S.I.length ct, .slice aa S.U.length ca, .int .i64 S.r0, .int .i64 S.r1, .int .i64 S.r2] 35)).grownBy W (some (w.heap.size + 1)) → SvD w.heap.size W.heap.size W (.slice ad nX c2) (.slice av S.P.length cv) (.slice at2 S.I.length ct) (.slice aa S.U.length ca) (Sr.ofS X S) ∧ Below w.heap.size w W) := fun W hg => by
      have s1 : w2.heap.size + 1 = (w2.alloc (.cells #[.int .i64 n.a, .int .i64 n.k, .bool false, .slice ad nX c2, .int .i64 S.e, .slice av S.P.length cv, .slice at2 S.I.length ct, .slice aa S.U.length ca, .int .i64 S.r0, .int .i64 S.r1, .int .i64 S.r2] 35)).heap.size := by simp
      have s2 := hg.size
      have s3 := HX2.out.2.2
      have s4 := HW1.out
      have k1 := HD2.out.later (below_alloc w2 (.cells #[.int .i64 n.a, .int .i64 n.k, .bool false, .slice ad nX c2, .int .i64 S.e, .slice av S.P.length cv, .slice at2 S.I.length ct, .slice aa S.U.length ca, .int .i64 S.r0, .int .i64 S.r1, .int .i64 S.r2] 35))
      have b1 := HX2.out.1.alloc HX2.out.1.size (.cells #[.int .i64 n.a, .int .i64 n.k, .bool false, .slice ad nX c2, .int .i64 S.e, .slice av S.P.length cv, .slice at2 S.I.length ct, .slice aa S.U.length ca, .int .i64 S.r0, .int .i64 S.r1, .int .i64 S.r2] 35)
      exact ⟨(k1.kept hg (by omega)).wide (by omega) (by omega), b1.grown hg b1.size (fun k hk => by simp at hk; omega)⟩
    clear HD2 HX2 HW1
    go_wp2_with (first | (refine wp_loadSrv rfl _ rfl w2.heap.size rfl HM2.out.1 ?_) | (refine wp_storeSrv rfl _ _ rfl (w.heap.size + 1) _ _ _ _ _ _ _ _ _ _ _ HM2.out.2 rfl rfl ⟨rfl, rfl, rfl, rfl, rfl, rfl, rfl, rfl, rfl, rfl, rfl⟩ ?_; intro hfin))
    exact ret_srv 4 (w.heap.size + 1) rfl rfl rfl hfin ⟨ad, c2, av, cv, at2, ct, aa, ca, rfl, HF.out _ (grown_setRowP _ _ _)⟩
  | false =>
    have hls : lsF L.F Q = L.F := by unfold lsF; rw [hd]; rfl
    rw [hls] at hlq ⊢
    rw [hd] at HLO
    obtain ⟨X, hX⟩ : ∃ X, L.F = X := ⟨_, rfl⟩
    have hsX : SmallF X := by rw [← hX]; exact hlq.1
    rw [hX] at HDK ⊢
    try rw [hX] at HND2
    have hlx : L.F.length = X.length := by rw [hX]
    try rw [hlx] at HLO
    rw [hlx] at HX0
    have HSN2 : Hid (∀ W a c g o, Below w.heap.size w W → RS 3 fcs W (.slice a X.length c) g o X → (a = none → X.length = 0 ∧ c = 0) → Calls Tryz.prog 8 #[.int .i64 n.a, .int .i64 n.k, .agg #[.slice a X.length c]] W (fun e w' => ∃ ad cd av cv at2 ct aa ca, e = .returned (.agg #[.int .i64 n.a, .int .i64 n.k, .bool true, .slice ad X.length cd, .int .i64 (SR.runS n.a n.k (ltT X ⟨#[115, 104, 97, 114, 100]⟩)).e, .slice av (SR.runS n.a n.k (ltT X ⟨#[115, 104, 97, 114, 100]⟩)).P.length cv, .slice at2 (SR.runS n.a n.k (ltT X ⟨#[115, 104, 97, 114, 100]⟩)).I.length ct, .slice aa (SR.runS n.a n.k (ltT X ⟨#[115, 104, 97, 114, 100]⟩)).U.length ca, .int .i64 (SR.runS n.a n.k (ltT X ⟨#[115, 104, 97, 114, 100]⟩)).r0, .int .i64 (SR.runS n.a n.k (ltT X ⟨#[115, 104, 97, 114, 100]⟩)).r1, .int .i64 (SR.runS n.a n.k (ltT X ⟨#[115, 104, 97, 114, 100]⟩)).r2]) ∧ SvD W.heap.size w'.heap.size w' (.slice ad X.length cd) (.slice av (SR.runS n.a n.k (ltT X ⟨#[115, 104, 97, 114, 100]⟩)).P.length cv) (.slice at2 (SR.runS n.a n.k (ltT X ⟨#[115, 104, 97, 114, 100]⟩)).I.length ct) (.slice aa (SR.runS n.a n.k (ltT X ⟨#[115, 104, 97, 114, 100]⟩)).U.length ca) (Sr.ofS X (SR.runS n.a n.k (ltT X ⟨#[115, 104, 97, 114, 100]⟩))) ∧ Below W.heap.size W w')) := fun W a c g o hW h hn => HSN.out W a c g o X hW h hsX hn
    generalize SR.runS n.a n.k (ltT X ⟨#[115, 104, 97, 114, 100]⟩) = S at *
    obtain ⟨nX, hnX⟩ : ∃ nX, X.length = nX := ⟨_, rfl⟩
    have HNX : Hid (X.length = nX) := hnX
    rw [hnX] at HSN2 HLO ⊢
    rw [hnX] at HDK HX0
    try rw [hnX] at HND2
    clear hlq hlo hls hd hsm hsX HSN hnX hlx
    go_enter Tryz.func17, Tryz.ntmps17
    go_wp2_with fail
    refine (HLO.out _ HX0.out.1).mono ?_
    rintro e_ w1 ⟨a1, c1, g1, rfl, hr1, hn1, hb1⟩
    have HX1 : Hid (Below w.heap.size w (w1.alloc (.cells #[.slice a1 (F.loseR X Q).length c1] 28)) ∧ Box 35 (w1.alloc (.cells #[.slice a1 (F.loseR X Q).length c1] 28)) w.heap.size [.int .i64 n.a, .int .i64 n.k, .bool n.u, .slice xd nX cd, .int .i64 n.e, .slice xv L.P.length xw, .slice xt L.I.length xu, .slice xa L.U.length xb, .int .i64 n.r0, .int .i64 n.r1, .int .i64 n.r2] ∧ Box 35 (w1.alloc (.cells #[.slice a1 (F.loseR X Q).length c1] 28)) (w.heap.size + 1) [.int .i64 0, .int .i64 0, .bool false, .slice none 0 0, .int .i64 0, .slice none 0 0, .slice none 0 0, .slice none 0 0, .int .i64 0, .int .i64 0, .int .i64 0] ∧ w.heap.size + 1 + 1 ≤ w1.heap.size ∧ BD (w1.alloc (.cells #[.slice a1 (F.loseR X Q).length c1] 28)) w1.heap.size 28 (.slice a1 (F.loseR X Q).length c1)) := ⟨(HX0.out.1.trans (hb1.mono HX0.out.1.size)).alloc (HX0.out.1.trans (hb1.mono HX0.out.1.size)).size _, (HX0.out.2.1.later hb1).later (below_alloc _ _), (HX0.out.2.2.1.later hb1).later (below_alloc _ _), by have := hb1.size; have := HX0.out.2.2.2; omega, BD.new _ _ _⟩
    have z0 := HX1.out.2.1.at 0 _ rfl
    have z1 := HX1.out.2.1.at 1 _ rfl
    have z3 := HX1.out.2.1.at 3 _ rfl
    have zd := HX1.out.2.2.2.2.cell
    have fd := HX1.out.2.2.2.2.fr
    have hne : w.heap.size ≠ w1.heap.size := by have := HX1.out.2.2.2.1; omega
    have HX2' : Hid (Below w.heap.size w (w1.alloc (.cells #[.slice xd nX cd] 28)) ∧ Box 35 (w1.alloc (.cells #[.slice xd nX cd] 28)) w.heap.size [.int .i64 n.a, .int .i64 n.k, .bool n.u, .slice xd nX cd, .int .i64 n.e, .slice xv L.P.length xw, .slice xt L.I.length xu, .slice xa L.U.length xb, .int .i64 n.r0, .int .i64 n.r1, .int .i64 n.r2] ∧ Box 35 (w1.alloc (.cells #[.slice xd nX cd] 28)) (w.heap.size + 1) [.int .i64 0, .int .i64 0, .bool false, .slice none 0 0, .int .i64 0, .slice none 0 0, .slice none 0 0, .slice none 0 0, .int .i64 0, .int .i64 0, .int .i64 0]) := ⟨(HX0.out.1.trans (hb1.mono HX0.out.1.size)).alloc (HX0.out.1.trans (hb1.mono HX0.out.1.size)).size _, (HX0.out.2.1.later hb1).later (below_alloc _ _), (HX0.out.2.2.1.later hb1).later (below_alloc _ _)⟩
    obtain ⟨gz, oz, hz⟩ := HDK.out _ HX2'.out.1
    have hsn := HSN2.out _ xd cd gz oz HX2'.out.1 hz HND2.out
    have z0' := HX2'.out.2.1.at 0 _ rfl
    have z1' := HX2'.out.2.1.at 1 _ rfl
    clear hz
    clear hr1 hn1 hb1 HLO HSN2 HX0 HND2 HDK HNX
    go_wp2_with fail
    refine hsn.mono ?_
    rintro e_ w2 ⟨ad, c2, av, cv, at2, ct, aa, ca, rfl, hd2, hb2⟩
    have HD2 : Hid (SvD (w1.heap.size + 1) w2.heap.size w2 (.slice ad nX c2) (.slice av S.P.length cv) (.slice at2 S.I.length ct) (.slice aa S.U.length ca) (Sr.ofS X S)) := by
      have h9 := hd2
      have e9 : (w1.alloc (.cells #[.slice xd nX cd] 28)).heap.size = w1.heap.size + 1 := by simp
      rw [e9] at h9
      exact h9
    have HX2 : Hid (Below w.heap.size w w2 ∧ Box 35 w2 (w.heap.size + 1) [.int .i64 0, .int .i64 0, .bool false, .slice none 0 0, .int .i64 0, .slice none 0 0, .slice none 0 0, .slice none 0 0, .int .i64 0, .int .i64 0, .int .i64 0] ∧ w1.heap.size + 1 ≤ w2.heap.size) := ⟨HX2'.out.1.trans (hb2.mono HX2'.out.1.size), HX2'.out.2.2.later hb2, by have := hb2.size; simpa using this⟩
    have HW1 : Hid (w.heap.size + 1 + 1 ≤ w1.heap.size) := HX1.out.2.2.2.1
    clear hd2 hb2 HX1 z0 z1 z3 zd fd hne HX2' z0' z1' hsn
    have HM2 : Hid (Box 35 (w2.alloc (.cells #[.int .i64 n.a, .int .i64 n.k, .bool false, .slice ad nX c2, .int .i64 S.e, .slice av S.P.length cv, .slice at2 S.I.length ct, .slice aa S.U.length ca, .int .i64 S.r0, .int .i64 S.r1, .int .i64 S.r2] 35)) w2.heap.size [.int .i64 n.a, .int .i64 n.k, .bool false, .slice ad nX c2, .int .i64 S.e, .slice av S.P.length cv, .slice at2 S.I.length ct, .slice aa S.U.length ca, .int .i64 S.r0, .int .i64 S.r1, .int .i64 S.r2] ∧ Box 35 (w2.alloc (.cells #[.int .i64 n.a, .int .i64 n.k, .bool false, .slice ad nX c2, .int .i64 S.e, .slice av S.P.length cv, .slice at2 S.I.length ct, .slice aa S.U.length ca, .int .i64 S.r0, .int .i64 S.r1, .int .i64 S.r2] 35)) (w.heap.size + 1) [.int .i64 0, .int .i64 0, .bool false, .slice none 0 0, .int .i64 0, .slice none 0 0, .slice none 0 0, .slice none 0 0, .int .i64 0, .int .i64 0, .int .i64 0]) := ⟨Box.new _ _ _, HX2.out.2.1.later (below_alloc _ _)⟩
    have HF : Hid (∀ W, (w2.alloc (.cells #[.int .i64 n.a, .int .i64 n.k, .bool false, .slice ad nX c2, .int .i64 S.e, .slice av S.P.length cv, .slice at2 S.I.length ct, .slice aa S.U.length ca, .int .i64 S.r0, .int .i64 S.r1, .int .i64 S.r2] 35)).grownBy W (some (w.heap.size + 1)) → SvD w.heap.size W.heap.size W (.slice ad nX c2) (.slice av S.P.length cv) (.slice at2 S.I.length ct) (.slice aa S.U.length ca) (Sr.ofS X S) ∧ Below w.heap.size w W) := fun W hg => by
      have s1 : w2.heap.size + 1 = (w2.alloc (.cells #[.int .i64 n.a, .int .i64 n.k, .bool false, .slice ad nX c2, .int .i64 S.e, .slice av S.P.length cv, .slice at2 S.I.length ct, .slice aa S.U.length ca, .int .i64 S.r0, .int .i64 S.r1, .int .i64 S.r2] 35)).heap.size := by simp
      have s2 := hg.size
      have s3 := HX2.out.2.2
      have s4 := HW1.out
      have k1 := HD2.out.later (below_alloc w2 (.cells #[.int .i64 n.a, .int .i64 n.k, .bool false, .slice ad nX c2, .int .i64 S.e, .slice av S.P.length cv, .slice at2 S.I.length ct, .slice aa S.U.length ca, .int .i64 S.r0, .int .i64 S.r1, .int .i64 S.r2] 35))
      have b1 := HX2.out.1.alloc HX2.out.1.size (.cells #[.int .i64 n.a, .int .i64 n.k, .bool false, .slice ad nX c2, .int .i64 S.e, .slice av S.P.length cv, .slice at2 S.I.length ct, .slice aa S.U.length ca, .int .i64 S.r0, .int .i64 S.r1, .int .i64 S.r2] 35)
      exact ⟨(k1.kept hg (by omega)).wide (by omega) (by omega), b1.grown hg b1.size (fun k hk => by simp at hk; omega)⟩
    clear HD2 HX2 HW1
    go_wp2_with (first | (refine wp_loadSrv rfl _ rfl w2.heap.size rfl HM2.out.1 ?_) | (refine wp_storeSrv rfl _ _ rfl (w.heap.size + 1) _ _ _ _ _ _ _ _ _ _ _ HM2.out.2 rfl rfl ⟨rfl, rfl, rfl, rfl, rfl, rfl, rfl, rfl, rfl, rfl, rfl⟩ ?_; intro hfin))
    exact ret_srv 4 (w.heap.size + 1) rfl rfl rfl hfin ⟨ad, c2, av, cv, at2, ct, aa, ca, rfl, HF.out _ (grown_setRowP _ _ _)⟩

end Go.Proofs.YthlgohplljcgfaaGreatDoor
