/-
  Texts laid together: Jso, Jnx, Jlm, Jsn.
-/
import Derived.Test.YthlgohplljcgfaaGreatDoorPkESN35
/-
  A server that was made: its rows, as marking wants them.
-/
namespace Go.Proofs.YthlgohplljcgfaaGreatDoor
open Go.RowKit Go.BigFrame Go.Sort
set_option linter.unusedVariables false
set_option linter.unusedSimpArgs false

theorem OR.own {α : Type} {T k B : Nat} {enc : α → List Value} {w0 w : World} {v : Value} {l : List α} {g : Nat} (h : OR T k enc B w0 w v l) (hw : RW k enc w v g l) (hp : 0 < l.length) : v.ownBlock = some g := by
  obtain ⟨⟨a, c, hv, _, h0, _⟩, _⟩ := hw
  rw [hv, (h0 hp).1]
  rfl
theorem RW.iw {w : World} {v : Value} {g : Nat} {l : List Int} (h : RW 1 ics w v g l) : IW w v g l := by
  obtain ⟨⟨a, c, hv, hl, h0, hc⟩, ht⟩ := h
  refine ⟨a, c, hv, hl, h0, fun j hj => ⟨?_, ?_⟩⟩
  · have := hc j hj 0 _ rfl
    rwa [Nat.zero_add, Nat.mul_one] at this
  · have := (ht j hj 0 (by omega)).2
    rwa [Nat.mul_one] at this

theorem SvO.svd {B : Nat} {w0 W : World} {p : Nat} {n : Sn} {vd vv vt va : Value} {L : Sr} {V : List Value} {G : Nat → Nat} {gd : Nat} (h : SvO B w0 W p n vd vv vt va L V G gd) (hP : L.P.length ≤ 1000000) (hI : L.I.length ≤ 1000000) (hU : L.U.length ≤ 1000000) : SvD B W.heap.size W vd vv vt va L := by
  have hlen := h.fz.len
  obtain ⟨go, r2, b2, _⟩ := OR.rw (k := 1) (enc := vcs) (fun _ => rfl) (by omega) h.ov (by omega)
  obtain ⟨g3, r3, b3, _⟩ := OR.rw (k := 1) (enc := ics) (fun _ => rfl) (by omega) h.oi (by omega)
  obtain ⟨g4, r4, b4, _⟩ := h.ou.rw (by omega)
  have o2 : 0 < L.P.length → vv.ownBlock = some go := fun hp => h.ov.own r2 (by omega)
  have o3 : 0 < L.I.length → vt.ownBlock = some g3 := fun hp => h.oi.own r3 hp
  have o4 : 0 < L.U.length → va.ownBlock = some g4 := fun hp => OR.own h.ou r4 hp
  have hrow : ∀ j (hj : j < L.P.length), 0 < L.P[j].length → FreeS p vv vt va (G j) ∧ (0 < L.F.length → G j ≠ gd) := fun j hj hp => (h.fz.rows j hj (by omega)).2.2 hp
  have n2 : ∀ {q : Nat}, vv.ownBlock ≠ some q → 0 < L.P.length → q ≠ go := fun hq hp e => hq (by rw [o2 hp, e])
  have n3 : ∀ {q : Nat}, vt.ownBlock ≠ some q → 0 < L.I.length → q ≠ g3 := fun hq hp e => hq (by rw [o3 hp, e])
  have n4 : ∀ {q : Nat}, va.ownBlock ≠ some q → 0 < L.U.length → q ≠ g4 := fun hq hp e => hq (by rw [o4 hp, e])
  have a23 : 0 < L.P.length → 0 < L.I.length → go ≠ g3 := fun h1 h2 e => own_apartJ h.ov.1 h.oi.1 (by decide) go (o2 h1) (by rw [o3 h2, e])
  have a24 : 0 < L.P.length → 0 < L.U.length → go ≠ g4 := fun h1 h2 e => own_apartJ h.ov.1 h.ou.1 (by decide) go (o2 h1) (by rw [o4 h2, e])
  have a34 : 0 < L.I.length → 0 < L.U.length → g3 ≠ g4 := fun h1 h2 e => own_apartJ h.oi.1 h.ou.1 (by decide) g3 (o3 h1) (by rw [o4 h2, e])
  refine ⟨gd, go, fun j => V.getD j (.int .i64 0), G, g3, g4, h.fz.disk, ⟨?_, fun j hj => ?_, fun i j hi hj hij pi pj => h.fz.dist i j hi hj hij pi pj⟩, r3.iw, r4, ?_⟩
  · obtain ⟨⟨a, c, hv, hl, h0, _⟩, _⟩ := r2
    rw [hlen] at hv h0
    exact ⟨a, c, hv, by omega, h0⟩
  · have hjV : j < V.length := by omega
    have e : V.getD j (.int .i64 0) = V[j] := by simp [List.getD, List.getElem?_eq_getElem hjV]
    refine ⟨?_, by show RW 2 lcs W (V.getD j (.int .i64 0)) (G j) L.P[j]; rw [e]; exact (h.fz.rows j hj hjV).2.1, fun hp => n2 (hrow j hj hp).1.2.1 (by omega)⟩
    obtain ⟨⟨a, c, hv, hl, h0, hc⟩, _⟩ := r2
    have := hc j hjV 0 _ rfl
    rw [Nat.zero_add, Nat.mul_one] at this
    show W.cell? ⟨go, j, none⟩ = some (V.getD j (.int .i64 0))
    rw [e]
    exact this
  · refine ⟨fun hp => ⟨h.gf hp, h.fz.disk.lt hp⟩, fun hp => ⟨b2, r2.lt (by omega)⟩, fun j hj hp => ⟨h.gp j hj hp, (h.fz.rows j hj (by omega)).2.1.lt hp⟩, fun hp => ⟨b3, r3.lt hp⟩, fun hp => ⟨b4, r4.lt hp⟩, fun h1 h2 e => n2 (h.fz.free h1).2.1 h2 e.symm, fun h1 j hj hp => (hrow j hj hp).2 h1, fun h1 h2 e => n3 (h.fz.free h1).2.2.1 h2 e.symm, fun h1 h2 e => n4 (h.fz.free h1).2.2.2 h2 e.symm, a23, a24, fun j hj hp h2 => n3 (hrow j hj hp).1.2.2.1 h2, fun j hj hp h2 => n4 (hrow j hj hp).1.2.2.2 h2, a34⟩

end Go.Proofs.YthlgohplljcgfaaGreatDoor
/-
  A server made of its disk: the program's answer.
-/
namespace Go.Proofs.YthlgohplljcgfaaGreatDoor
open Go.RowKit Go.BigFrame Go.Sort
set_option linter.unusedVariables false
set_option linter.unusedSimpArgs false

/-- a new server answered: what it knows, and its rows, each in a block of its own that may be written -/
def SnP (a k : Int) (F : List Fl) (S : SR.Ss) (w : World) (e : Ending) (w' : World) : Prop := Below w.heap.size w w' ∧ ∃ n vd vv vt va L p V G gd B wr, e = .returned (.agg #[.int .i64 n.a, .int .i64 n.k, .bool n.u, vd, .int .i64 n.e, vv, vt, va, .int .i64 n.r0, .int .i64 n.r1, .int .i64 n.r2]) ∧ SvO B wr wr p n vd vv vt va L V G gd ∧ w.heap.size + 2 ≤ B ∧ wr.grownBy w' (some (w.heap.size + 1)) ∧ Ss.of n L = S ∧ L.F = F ∧ n.a = a ∧ n.k = k ∧ n.u = true
/-- one's own start -/
theorem SvO.self {B : Nat} {w0 W : World} {p : Nat} {n : Sn} {vd vv vt va : Value} {L : Sr} {V : List Value} {G : Nat → Nat} {gd : Nat} (h : SvO B w0 W p n vd vv vt va L V G gd) : SvO B W W p n vd vv vt va L V G gd :=
  ⟨h.bp, h.box, ⟨h.ou.1, Below.refl _ _, h.ou.2.2⟩, ⟨h.oi.1, Below.refl _ _, h.oi.2.2⟩, ⟨h.ov.1, Below.refl _ _, h.ov.2.2⟩, h.fz, KpB.refl W, h.gp, h.gf⟩

set_option maxRecDepth 100000 in
set_option maxHeartbeats 4000000 in
theorem ServerNew_any (a k : Int) (vd : Value) (L : List Fl) (gd od : Nat) (w : World) (hd : RS 3 fcs w vd gd od L) (hs : SmallF L) (hT : Tab w) (hE : Eh w) (hTb : Tb w) (hM : (ltT L ⟨#[115, 104, 97, 114, 100]⟩).length < 1000000 ∧ ∀ t ∈ ltT L ⟨#[115, 104, 97, 114, 100]⟩, t.size ≤ 1048576 ∧ 0 < t.size) :
    Calls Tryz.prog 10 #[.int .i64 a, .int .i64 k, .agg #[vd]] w (SnP a k L (SR.runS a k (ltT L ⟨#[115, 104, 97, 114, 100]⟩)) w) := by
  unfold SnP
  obtain ⟨ad, cd, rfl⟩ := hd.shape
  have HD : Hid (∀ W, Below w.heap.size w W → Calls Tryz.prog 31 #[.agg #[.slice ad L.length cd]] W fun e w' => ∃ u, e = .returned u ∧ DkIn w' W.heap.size u L ∧ Below W.heap.size W w') := fun W hW => diskCopy_any _ gd od L W (hd.later hW) hs
  have HLT : Hid (∀ W, Below w.heap.size w W → Calls Tryz.prog 33 #[.agg #[.slice ad L.length cd], .string ⟨#[115, 104, 97, 114, 100]⟩] W (LtP W (ltT L ⟨#[115, 104, 97, 114, 100]⟩))) := fun W hW => LogTexts_any _ gd od L _ W (hd.later hW) hs (hT.later hW hT.pos) (hE.later hW)
  unfold LtP at HLT
  obtain ⟨M, hMd⟩ : ∃ M, ltT L ⟨#[115, 104, 97, 114, 100]⟩ = M := ⟨_, rfl⟩
  rw [hMd] at HLT hM ⊢
  clear hMd
  obtain ⟨W1, hW1⟩ : ∃ W1, (w.alloc (.cells #[.slice ad L.length cd] 28)).alloc (.cells #[.int .i64 0, .int .i64 0, .bool false, .slice none 0 0, .int .i64 0, .slice none 0 0, .slice none 0 0, .slice none 0 0, .int .i64 0, .int .i64 0, .int .i64 0] 35) = W1 := ⟨_, rfl⟩
  have HB1 : Hid (Below w.heap.size w W1 ∧ W1.heap.size = w.heap.size + 1 + 1) := by rw [← hW1]; exact ⟨below_two _ _ _, by simp⟩
  have HX : Hid (Box 35 W1 (w.heap.size + 1) [.int .i64 0, .int .i64 0, .bool false, .slice none 0 0, .int .i64 0, .slice none 0 0, .slice none 0 0, .slice none 0 0, .int .i64 0, .int .i64 0, .int .i64 0]) := by
    have h := Box.new 35 (w.alloc (.cells #[.slice ad L.length cd] 28)) [.int .i64 0, .int .i64 0, .bool false, .slice none 0 0, .int .i64 0, .slice none 0 0, .slice none 0 0, .slice none 0 0, .int .i64 0, .int .i64 0, .int .i64 0]
    have e : (w.alloc (.cells #[.slice ad L.length cd] 28)).heap.size = w.heap.size + 1 := by simp
    rw [e] at h
    rw [← hW1]
    exact h
  have HK : Hid (W1.cell? ⟨w.heap.size, 0, none⟩ = some (.slice ad L.length cd)) := by
    rw [← hW1]
    exact (Box.later (Box.new 28 w [.slice ad L.length cd]) (below_alloc _ _)).at 0 _ rfl
  have k0 := HK.out
  go_enter Tryz.func10, Tryz.ntmps10
  go_wp2_with fail
  try rw [hW1]
  refine (HD.out W1 HB1.out.1).mono ?_
  rintro e w2 ⟨u, rfl, ⟨s, g, rfl, hr, hg⟩, hb2⟩
  obtain ⟨ad2, cd2, rfl⟩ := hr.1.shape
  clear hW1
  go_wp2_with fail
  change Calls _ _ _ (NwW w2 a k (.slice ad2 L.length cd2)) _
  have HI : Hid (∀ W, Below (NwW w2 a k (.slice ad2 L.length cd2)).heap.size (NwW w2 a k (.slice ad2 L.length cd2)) W → SvO W1.heap.size W W (w2.heap.size + 1 + 1 + 1) ⟨a, k, true, 0, 0, 0, 0⟩ (.slice ad2 L.length cd2) (.slice (some ⟨w2.heap.size + 1, 0, none⟩) 1 1) (.slice (some ⟨w2.heap.size + 1 + 1, 0, none⟩) 1 1) (.slice none 0 0) ⟨L, [[]], [0], []⟩ [.slice (some ⟨w2.heap.size, 0, none⟩) 0 0] (fun _ => w2.heap.size) g) := fun W hW => init_sv hr hb2.size (fun _ => hg) hW
  have HB3 : Hid (Below w.heap.size w (NwW w2 a k (.slice ad2 L.length cd2))) := (HB1.out.1.trans (hb2.mono HB1.out.1.size)).trans ((NwW.below w2 a k _).mono (Nat.le_trans HB1.out.1.size hb2.size))
  have hb3z : Below w2.heap.size w2 (NwW w2 a k (.slice ad2 L.length cd2)) := NwW.below w2 a k _
  refine (recordRows_any _).mono ?_
  rintro e w4 ⟨rfl, hbx, hb4⟩
  generalize NwW w2 a k (.slice ad2 L.length cd2) = W3 at *
  have HB4 : Hid (Below w.heap.size w w4) := HB3.out.trans (hb4.mono HB3.out.size)
  have k4 : w4.cell? ⟨w.heap.size, 0, none⟩ = some (.slice ad L.length cd) := (((hb2.trans (hb3z.mono hb2.size)).trans (hb4.mono (Nat.le_trans hb2.size hb3z.size))).cell (p := ⟨w.heap.size, 0, none⟩) (by have := HB1.out.2; show w.heap.size < W1.heap.size; omega)).trans HK.out
  go_wp2_with fail
  refine (HLT.out w4 HB4.out).mono ?_
  rintro e w5 ⟨u5, rfl, hos⟩
  have HI5 := HI.out w5 (hb4.trans (hos.2.1.mono hb4.size))
  have HS5 : Hid _ := HI5
  have HB5 : Hid (Below w.heap.size w w5 ∧ Box 113 w5 W3.heap.size rrC) := ⟨HB4.out.trans (hos.2.1.mono HB4.out.size), hbx.later hos.2.1⟩
  have hsh : ∃ a c, u5 = .slice a (M).length c := by
    rcases hos.1.2 with ⟨hv, hn⟩ | ⟨g, cap, cur, hv, _⟩
    · exact ⟨none, 0, by rw [hv, hn]⟩
    · exact ⟨_, _, hv⟩
  have HOS : Hid (OS w4.heap.size w4 w5 u5 (M)) := hos
  obtain ⟨a5, c5, rfl⟩ := hsh
  have HRB : Hid (Box 35 w5 (w.heap.size + 1) _) := HX.out.later ((hb2.trans (hb3z.mono hb2.size)).trans ((hb4.trans (hos.2.1.mono hb4.size)).mono (Nat.le_trans hb2.size hb3z.size)))
  have HMM : Hid (M.length < 1000000 ∧ ∀ t ∈ M, t.size ≤ 1048576 ∧ 0 < t.size) := hM
  have HTB : Hid (∀ W, Below W1.heap.size w5 W → Tb W) := fun W hW => by
    have h5 : Tb w5 := hTb.later HB5.out.1
    exact ⟨h5.1.later hW (Nat.lt_of_lt_of_le hTb.1.pos HB1.out.1.size), h5.2.later hW (Nat.lt_of_lt_of_le hTb.2.pos HB1.out.1.size)⟩
  have HBS : Hid (W1.heap.size = w.heap.size + 1 + 1) := HB1.out.2
  have HST : Hid (∃ m : Nat, m ≤ M.length ∧ (Value.int .i64 0) = .int .i64 m ∧ RdQ W1.heap.size w5 (w2.heap.size + 1 + 1 + 1) ⟨a, k, true, 0, 0, 0, 0⟩ (.slice ad2 L.length cd2) L g (SR.runS a k (M.take m)) w5) := ⟨0, by omega, rfl, _, _, _, _, _, _, _, HI5, rfl, rfl, rfl, rfl, rfl⟩
  obtain ⟨nM, hnM⟩ : ∃ nM, M.length = nM := ⟨_, rfl⟩
  have HNM : Hid (M.length = nM) := hnM
  have HOS2 : Hid (∀ W, KpB w5 W → ∀ m (h : m < M.length), ∃ g5, a5 = some ⟨g5, 0, none⟩ ∧ W.cell? ⟨g5, m, none⟩ = some (.string M[m])) := fun W hW m hm => by
    rcases hos.1.2 with ⟨hv, hn⟩ | ⟨g5, cap, cur, hv, hbg, hg5, rest⟩
    · omega
    · have e5 : a5 = some ⟨g5, 0, none⟩ := by
        simp only [Value.slice.injEq] at hv
        exact hv.1
      have ho : W.ownsRow w4.heap.size 9 1 (.slice a5 M.length c5) M.length (svs M) := ⟨hos.1.1, .inr ⟨g5, cap, cur, hv, hbg, hW g5 9 cur (0, 0) (by unfold BadT; decide) hg5, rest⟩⟩
      have h1 := ho.cells (g := g5) (by rw [e5]; rfl) m (.string M[m]) (by simp [svs, List.getElem?_eq_getElem hm])
      rw [Addr.add_mid, Nat.zero_add] at h1
      exact ⟨g5, e5, h1⟩
  clear HI HI5 hos hbx hb4 HB3 HB4 hb3z hb2 hr hg HD HLT HX HK k0 k4 HB1 hM hTb HOS
  rw [hnM] 
  clear hnM
  go_wp2
  go_loopw [10, 23] (fun v i wr => ∃ m : Nat, m ≤ M.length ∧ i = .int .i64 m ∧ Hid (RdQ W1.heap.size w5 (w2.heap.size + 1 + 1 + 1) ⟨a, k, true, 0, 0, 0, 0⟩ (.slice ad2 L.length cd2) L g (SR.runS a k (M.take m)) wr)) (fun _ i _ => nM - (intOf i).toNat)
  case atStart => exact HST.out
  case round =>
    obtain ⟨m, hm, rfl, HI⟩ := hrel
    clear HST
    by_cases hlt : m < nM
    · obtain ⟨n', vv', vt', va', L', V', G', h1, h2, h3, ha, hk, hu⟩ := HI.out
      have hmM : m < M.length := by rw [HNM.out]; exact hlt
      obtain ⟨g5, e5, k5⟩ := HOS2.out wr h1.kp m hmM
      subst e5
      have hok := SR.okJ_run a k M m (by omega)
      rw [← h2] at hok
      have hML := HMM.out.1
      have hbd := HMM.out.2 M[m] (List.getElem_mem _)
      have hst := SR.runS_step a k M hmM
      have e1 := hok.p
      have e2 := hok.i
      have e3 := hok.u
      have e4 := hok.e0
      have e6 := hok.e1
      have hr : (n'.r0 = 0 ∧ n'.r1 = 0 ∧ n'.r2 = 0) ∨ 0 < n'.r0 := by
        rcases hok.r with h | h
        · exact .inl h
        · have h0 : n'.r0 = n'.e + 1 := h.1
          have h9 : (0 : Int) ≤ n'.e := e4
          exact .inr (by omega)
      simp only [Ss.of] at e1 e2 e3 e4 e6
      have hcall := redo_rd h1 HB5.out.2 M[m] hbd.1 hbd.2 (HTB.out wr h1.ou.2.1) hr (by omega) (by omega) (by omega) (okU_small hok.us) e4 (by omega)
      have HCL : Hid (Calls Tryz.prog 34 #[.pointer (some ⟨w2.heap.size + 1 + 1 + 1, 0, none⟩), .slice (some ⟨W3.heap.size, 0, none⟩) 4 4, .string M[m]] wr fun e w' => e = .returned (.tuple #[]) ∧ RdQ W1.heap.size w5 (w2.heap.size + 1 + 1 + 1) ⟨a, k, true, 0, 0, 0, 0⟩ (.slice ad2 L.length cd2) L g (SR.runS a k (M.take (m + 1))) w') := hcall.mono fun e w' ⟨he, n2, vv2, vt2, va2, L2, V2, G2, q1, q2, q3, q4, q5, q6⟩ => ⟨he, n2, vv2, vt2, va2, L2, V2, G2, q1, by rw [q2, hst, ← h2, ha, hk], q3.trans h3, q4.trans ha, q5.trans hk, q6.trans hu⟩
      have wr1 : IntKind.i64.wrap ((m : Int) + 1) = (m : Int) + 1 := IntWalk.i64_in _ (by omega)
      clear hcall h1 h2 h3 ha hk hu hok hML hbd hst e1 e2 e3 e4 e6 hr HI
      have i1 : (m : Int) < (nM : Int) := by omega
      have i2 : (0 : Int) ≤ (m : Int) := by omega
      generalize M[m] = X at *
      go_wp2_with fail
      refine HCL.out.mono ?_
      rintro e w6 ⟨rfl, hq6⟩
      have HN : Hid (RdQ W1.heap.size w5 (w2.heap.size + 1 + 1 + 1) ⟨a, k, true, 0, 0, 0, 0⟩ (.slice ad2 L.length cd2) L g (SR.runS a k (M.take (m + 1))) w6) := hq6
      have HM1 : Hid (m + 1 ≤ M.length) := hmM
      clear hq6 HCL k5 hmM HOS2 HMM HTB HRB HS5 HB5
      go_wp2
      go_roundw
      case rel => exact ⟨m + 1, HM1.out, by congr 1, HN.out⟩
      case measure => simp [intOf]; omega
    · have hme : m = nM := by have := HNM.out; omega
      subst hme
      have hT : M.take m = M := List.take_of_length_le (by rw [HNM.out]; exact Nat.le_refl _)
      rw [hT] at HI
      obtain ⟨n', vv', vt', va', L', V', G', h1, h2, h3, ha, hk, hu⟩ := HI.out
      obtain ⟨av3, cv3, rfl⟩ := OR.shapeJ h1.ov
      obtain ⟨at3, ct3, rfl⟩ := OR.shapeJ h1.oi
      obtain ⟨aa3, ca3, rfl⟩ := h1.ou.shape
      have hbw := h1.ou.2.1
      have HR : Hid (Box 35 wr (w.heap.size + 1) _) := HRB.out.keep (hbw.block _ (by rw [HBS.out]; omega))
      have HB : Hid (Box 35 wr (w2.heap.size + 1 + 1 + 1) _) := h1.box
      have HBW : Hid (Below w.heap.size w wr) := HB5.out.1.trans (hbw.mono (by rw [HBS.out]; omega))
      have HF : Hid (∀ W, wr.grownBy W (some (w.heap.size + 1)) → Below w.heap.size w W → SnP a k L (SR.runS a k M) w (.returned (.agg #[.int .i64 n'.a, .int .i64 n'.k, .bool n'.u, .slice ad2 L.length cd2, .int .i64 n'.e, .slice av3 V'.length cv3, .slice at3 L'.I.length ct3, .slice aa3 L'.U.length ca3, .int .i64 n'.r0, .int .i64 n'.r1, .int .i64 n'.r2])) W) := fun W hW hb => ⟨hb, n', _, _, _, _, L', _, V', G', g, _, wr, rfl, h1.self, by rw [HBS.out]; exact Nat.le_refl _, hW, h2, h3, ha, hk, hu⟩
      unfold SnP at HF
      clear HI h1 h2 h3 ha hk hu hbw HOS2 HMM HTB HRB HS5 HB5 hT HNM HBS
      go_wp2_with (first | (refine wp_loadSrv rfl _ rfl (w2.heap.size + 1 + 1 + 1) rfl HB.out ?_) | (refine wp_storeSrv rfl _ _ rfl (w.heap.size + 1) _ _ _ _ _ _ _ _ _ _ _ HR.out rfl rfl ⟨rfl, rfl, rfl, rfl, rfl, rfl, rfl, rfl, rfl, rfl, rfl⟩ ?_; intro hfin))
      exact ret_srv 6 (w.heap.size + 1) rfl rfl rfl hfin (HF.out _ (grown_setRowP _ _ _) (below_setRow HBW.out (Nat.le_succ _)))

end Go.Proofs.YthlgohplljcgfaaGreatDoor
/-
  The texts that a file begins with are neither empty nor great.
-/
namespace Go.Proofs.YthlgohplljcgfaaGreatDoor
open Go.RowKit
set_option linter.unusedVariables false
set_option linter.unusedSimpArgs false

theorem framesF_mem (s : ByteArray) : ∀ (f p : Nat) (x : ByteArray × Nat), x ∈ framesF s f p → 0 < x.1.size ∧ x.1.size ≤ 9000
  | 0, _, x, h => by simp [framesF] at h
  | f + 1, p, x, h => by
    rw [framesF] at h
    cases hr : recAt s p with
    | none => rw [hr] at h; simp at h
    | some y =>
      obtain ⟨t, q⟩ := y
      rw [hr] at h
      simp only [List.mem_cons] at h
      rcases h with rfl | h
      · obtain ⟨n, b, _, hn, _, ht, _⟩ := recAt_some hr
        have hz : t.size = n := by rw [ht]; exact piece_len s (b + 4) n (by omega)
        show 0 < t.size ∧ t.size ≤ 9000
        omega
      · exact framesF_mem s f q x h
theorem ltT_mem {L : List Fl} {x t : ByteArray} (h : t ∈ ltT L x) : 0 < t.size ∧ t.size ≤ 9000 := by
  unfold ltT at h
  split at h
  · unfold framesOf at h
    split at h
    · unfold textsOf frames at h
      obtain ⟨y, hy, rfl⟩ := List.mem_map.1 h
      exact framesF_mem _ _ _ y hy
    · simp [textsOf] at h
  · simp at h
theorem ltT_all (L : List Fl) (x : ByteArray) : (ltT L x).length < 1000000 ∧ ∀ t ∈ ltT L x, t.size ≤ 1048576 ∧ 0 < t.size :=
  ⟨by have := ltT_len L x; omega, fun t ht => by have := ltT_mem ht; omega⟩

end Go.Proofs.YthlgohplljcgfaaGreatDoor
/-
  A server made of its disk: the program's answer, its rows told as marking wants them.
-/
namespace Go.Proofs.YthlgohplljcgfaaGreatDoor
open Go.RowKit Go.BigFrame Go.Sort
set_option linter.unusedVariables false
set_option linter.unusedSimpArgs false

theorem SvD.kept {lo hi q : Nat} {W W' : World} {vd vv vt va : Value} {L : Sr} (h : SvD lo hi W vd vv vt va L) (hg : W.grownBy W' (some q)) (hq : q < lo) : SvD lo hi W' vd vv vt va L := by
  obtain ⟨g1, go, V, g, g3, g4, h1, h2, h3, h4, c1, c2, c3, c4, c5, ds⟩ := h
  have hg' : W.grownBy W' (rowF q 1) := hg
  exact ⟨g1, go, V, g, g3, g4, h1.grown hg (fun hp => by have := (c1 hp).1; simp; omega), h2.grown hg' (fun _ hp => by have := (c2 hp).1; omega) (fun _ j hj hp => by have := (c3 j hj hp).1; omega), h3.grown hg (fun hp => by have := (c4 hp).1; simp; omega), h4.grown hg (fun hp => by have := (c5 hp).1; simp; omega), c1, c2, c3, c4, c5, ds⟩
theorem SvD.wide {lo lo' hi hi' : Nat} {W : World} {vd vv vt va : Value} {L : Sr} (h : SvD lo hi W vd vv vt va L) (hl : lo' ≤ lo) (hh : hi ≤ hi') : SvD lo' hi' W vd vv vt va L := by
  obtain ⟨g1, go, V, g, g3, g4, h1, h2, h3, h4, c1, c2, c3, c4, c5, ds⟩ := h
  exact ⟨g1, go, V, g, g3, g4, h1, h2, h3, h4, fun hp => ⟨by have := c1 hp; omega, by have := c1 hp; omega⟩, fun hp => ⟨by have := c2 hp; omega, by have := c2 hp; omega⟩, fun j hj hp => ⟨by have := c3 j hj hp; omega, by have := c3 j hj hp; omega⟩, fun hp => ⟨by have := c4 hp; omega, by have := c4 hp; omega⟩, fun hp => ⟨by have := c5 hp; omega, by have := c5 hp; omega⟩, ds⟩

/-- the rows of a server that knows this -/
def Sr.ofS (F : List Fl) (S : SR.Ss) : Sr := ⟨F, S.P, S.I, S.U⟩
/-- a server answered: what it knows, its rows its own -/
def SnA (a k : Int) (u : Bool) (F : List Fl) (S : SR.Ss) (w : World) (e : Ending) (w' : World) : Prop := ∃ ad cd av cv at2 ct aa ca, e = .returned (.agg #[.int .i64 a, .int .i64 k, .bool u, .slice ad F.length cd, .int .i64 S.e, .slice av S.P.length cv, .slice at2 S.I.length ct, .slice aa S.U.length ca, .int .i64 S.r0, .int .i64 S.r1, .int .i64 S.r2]) ∧ SvD w.heap.size w'.heap.size w' (.slice ad F.length cd) (.slice av S.P.length cv) (.slice at2 S.I.length ct) (.slice aa S.U.length ca) (Sr.ofS F S) ∧ Below w.heap.size w w'

theorem flat_le24 : ∀ (P : List (List Le)), (∀ l ∈ P, l.length ≤ 24) → P.flatten.length ≤ 24 * P.length
  | [], _ => by simp
  | l :: P, h => by
    have h1 := h l (by simp)
    have h2 := flat_le24 P (fun x hx => h x (by simp [hx]))
    rw [List.flatten_cons, List.length_append, List.length_cons]
    omega
theorem SR.Ss.okJ.sm {s : SR.Ss} {m : Nat} (h : s.okJ m) (hm : m ≤ 1000000) {F : List Fl} (hF : SmallF F) (hl : F.length ≤ 1048576) : (Sr.ofS F s).sm := by
  have h1 := flat_le24 s.P h.f
  have h2 := h.p
  have h3 := h.e1
  have h4 := h.i
  have h5 := h.u
  refine ⟨⟨hF, hl⟩, ⟨h.q, ?_⟩, ?_, okU_small h.us, ?_⟩
  · show s.P.flatten.length ≤ 1048576
    omega
  · show s.I.length ≤ 1048576
    omega
  · show s.U.length ≤ 1048576
    omega
theorem okJ_all (a k : Int) (F : List Fl) (x : ByteArray) : (SR.runS a k (ltT F x)).okJ (ltT F x).length := by
  have h := SR.okJ_run a k (ltT F x) (ltT F x).length (Nat.le_refl _)
  rwa [List.take_length] at h
theorem sm_all (a k : Int) (x : ByteArray) {F : List Fl} (hF : SmallF F) (hl : F.length ≤ 1048576) : (Sr.ofS F (SR.runS a k (ltT F x))).sm :=
  (okJ_all a k F x).sm (by have := ltT_len F x; omega) hF hl

/-- a server under way in a box above all that was there, answered -/
theorem SnA.of {a k : Int} {u : Bool} {F : List Fl} {S : SR.Ss} {m B q p gd : Nat} {w wr w' : World} {n : Sn} {vd vv vt va : Value} {L : Sr} {V : List Value} {G : Nat → Nat} (hS : S.okJ m) (hm : m ≤ 1000000) (h : SvO B wr wr p n vd vv vt va L V G gd) (hB : w.heap.size ≤ B) (hq : q < B) (hg : wr.grownBy w' (some q)) (e1 : Ss.of n L = S) (e2 : L.F = F) (e3 : n.a = a) (e4 : n.k = k) (e5 : n.u = u) (hb : Below w.heap.size w w') :
    SnA a k u F S w (.returned (.agg #[.int .i64 n.a, .int .i64 n.k, .bool n.u, vd, .int .i64 n.e, vv, vt, va, .int .i64 n.r0, .int .i64 n.r1, .int .i64 n.r2])) w' := by
  subst e1 e2 e3 e4 e5
  have h1 := hS.p
  have h2 := hS.e1
  have h3 := hS.i
  have h4 := hS.u
  simp only [Ss.of] at h1 h2 h3 h4
  have hd := ((h.svd (by omega) (by omega) (by omega)).kept hg hq).wide hB hg.size
  obtain ⟨⟨ad, cd, rfl⟩, ⟨av, cv, rfl⟩, ⟨at2, ct, rfl⟩, ⟨aa, ca, rfl⟩⟩ := hd.svs.shapes
  exact ⟨ad, cd, av, cv, at2, ct, aa, ca, rfl, hd, hb⟩

theorem ServerNew_at (a k : Int) (vd : Value) (L : List Fl) (gd od : Nat) (w : World) (hd : RS 3 fcs w vd gd od L) (hs : SmallF L) (hT : Tab w) (hE : Eh w) (hTb : Tb w) :
    Calls Tryz.prog 10 #[.int .i64 a, .int .i64 k, .agg #[vd]] w (SnA a k true L (SR.runS a k (ltT L ⟨#[115, 104, 97, 114, 100]⟩)) w) := by
  refine (ServerNew_any a k vd L gd od w hd hs hT hE hTb (ltT_all L _)).mono ?_
  rintro e w' ⟨hb, n, vd', vv, vt, va, L', p, V, G, gd', B, wr, rfl, h, hB, hg, e1, e2, e3, e4, e5⟩
  exact SnA.of (okJ_all a k L _) (by have := ltT_len L ⟨#[115, 104, 97, 114, 100]⟩; omega) h (by omega) (by omega) hg e1 e2 e3 e4 e5 hb

end Go.Proofs.YthlgohplljcgfaaGreatDoor
