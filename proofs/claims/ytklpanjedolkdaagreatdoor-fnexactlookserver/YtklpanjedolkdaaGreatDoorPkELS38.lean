/-
  Texts laid together: Pz, Pbx, Jk.
-/
import Derived.Test.YtklpanjedolkdaaGreatDoorPkELS30
import Derived.Test.YtklpanjedolkdaaGreatDoorPkELS37
import Derived.Test.YtklpanjedolkdaaGreatDoorPkELS13
import Derived.Test.YtklpanjedolkdaaGreatDoorPkELS9
import Derived.Test.YtklpanjedolkdaaGreatDoorPkELS18
import Derived.Lib.SmallJoins
import Derived.ProofKit
import Derived.Test.YtklpanjedolkdaaGreatDoorPkELS34
/-
  What the laws' own helpers do with proofs: taken over, compared, weighed, marked.
-/
namespace Go.Proofs.YtklpanjedolkdaaGreatDoor
open Go.RowKit Go.BigFrame Go.Sort
set_option linter.unusedVariables false
set_option linter.unusedSimpArgs false

theorem run_rangeQ {w : World} {v1 v2 : Value} (t : TypeId) : (w.alloc (.cells #[v1, v2] t)).cell? ⟨w.heap.size, 0, none⟩ = some v1 ∧ (w.alloc (.cells #[v1, v2] t)).cell? ⟨w.heap.size, 1, none⟩ = some v2 := run_rangeP (p := 0) t

/-- a proof in a law's hands: what it is made of lies in blocks from B on, apart -/
def PfI (w : World) (B : Nat) (v : Value) (L : List Le) (S : List ByteArray) (g1 g2 : Nat) : Prop := ∃ a1 c1 a2 c2, v = .agg #[.slice a1 L.length c1, .slice a2 S.length c2] ∧ RW 2 lcs w (.slice a1 L.length c1) g1 L ∧ TS w (.slice a2 S.length c2) g2 S ∧ B ≤ g1 ∧ B ≤ g2 ∧ (0 < L.length → 0 < S.length → g1 ≠ g2)
theorem PfI.later {w w' : World} {B : Nat} {v : Value} {L : List Le} {S : List ByteArray} {g1 g2 : Nat} (h : PfI w B v L S g1 g2) (hb : Below w.heap.size w w') : PfI w' B v L S g1 g2 := by
  obtain ⟨a1, c1, a2, c2, hv, h1, h2, h3⟩ := h
  exact ⟨a1, c1, a2, c2, hv, h1.later hb, h2.later hb, h3⟩

set_option maxRecDepth 100000 in
set_option maxHeartbeats 1000000 in
theorem eqProof_yes (v1 v2 u1 u2 : Value) (g1 o1 g2 o2 p1 q1 p2 q2 : Nat) (L : List Le) (S : List ByteArray) (w : World) (h1 : RS 2 lcs w v1 g1 o1 L) (h2 : SS w v2 g2 o2 S) (k1 : RS 2 lcs w u1 p1 q1 L) (k2 : SS w u2 p2 q2 S) :
    Calls Tryz.prog 23 #[.agg #[v1, v2], .agg #[u1, u2]] w fun e w' => e = .returned (.bool true) ∧ Below w.heap.size w w' := by
  have H1 : Hid (∀ W, Below w.heap.size w W → Calls Tryz.prog 68 #[v1, u1] W fun e w' => e = .returned (.bool true) ∧ Below W.heap.size W w') := fun W hW => eqLeafS_yes v1 u1 g1 o1 p1 q1 L W (h1.later hW) (k1.later hW)
  have H2 : Hid (∀ W, Below w.heap.size w W → Calls Tryz.prog 69 #[v2, u2] W fun e w' => e = .returned (.bool true) ∧ ∃ q, w' = W.drewN q) := fun W hW => eqStringS_yes v2 u2 g2 o2 p2 q2 S W (h2.below hW h2.lt) (k2.below hW k2.lt)
  have hba : Below w.heap.size w ((w.alloc (.cells #[v1, v2] 55)).alloc (.cells #[u1, u2] 55)) := ((Below.refl _ _).alloc (Nat.le_refl _) _).alloc (by simp) _
  have HP : Hid (∀ W, Below ((w.alloc (.cells #[v1, v2] 55)).alloc (.cells #[u1, u2] 55)).heap.size ((w.alloc (.cells #[v1, v2] 55)).alloc (.cells #[u1, u2] 55)) W → W.cell? ⟨w.heap.size, 0, none⟩ = some v1 ∧ W.cell? ⟨w.heap.size, 1, none⟩ = some v2 ∧ W.cell? ⟨w.heap.size + 1, 0, none⟩ = some u1 ∧ W.cell? ⟨w.heap.size + 1, 1, none⟩ = some u2 ∧ Below w.heap.size w W) := fun W hW => by
    obtain ⟨a0, a1⟩ := run_rangeQ (w := w) (v1 := v1) (v2 := v2) 55
    obtain ⟨b0, b1⟩ := run_rangeQ (w := w.alloc (.cells #[v1, v2] 55)) (v1 := u1) (v2 := u2) 55
    have hq : Below (w.alloc (.cells #[v1, v2] 55)).heap.size (w.alloc (.cells #[v1, v2] 55)) ((w.alloc (.cells #[v1, v2] 55)).alloc (.cells #[u1, u2] 55)) := (Below.refl _ _).alloc (Nat.le_refl _) _
    have e : (w.alloc (.cells #[v1, v2] 55)).heap.size = w.heap.size + 1 := by simp
    rw [e] at b0 b1
    exact ⟨cell_up (cell_up a0 hq) hW, cell_up (cell_up a1 hq) hW, cell_up b0 hW, cell_up b1 hW, hba.trans (hW.mono hba.size)⟩
  obtain ⟨p0, p1', p2', p3, _⟩ := HP.out _ (Below.refl _ _)
  clear h1 h2 k1 k2
  go_enter Tryz.func23, Tryz.ntmps23
  go_wp2_with fail
  refine (H1.out _ hba).mono ?_
  rintro e w1 ⟨rfl, hb1⟩
  obtain ⟨k0, k1, k2, k3, b1⟩ := HP.out _ hb1
  clear p0 p1' p2' p3 HP H1 hba hb1
  go_wp2_with fail
  refine (H2.out _ b1).mono ?_
  rintro e w2 ⟨rfl, q, rfl⟩
  clear k0 k1 k2 k3 H2
  go_wp2
  go_ret
  exact ⟨rfl, below_drn b1 q⟩

theorem rowF_apart {g1 g2 n : Nat} (h : 0 < n → g2 ≠ g1) : some g1 ≠ rowF g2 n := rowF_ne (fun hp => (h hp).symm)

set_option maxRecDepth 100000 in
set_option maxHeartbeats 1000000 in
theorem markProof_any (v1 v2 : Value) (g1 g2 : Nat) (L : List Le) (S : List ByteArray) (w : World) (h1 : RW 2 lcs w v1 g1 L) (h2 : TS w v2 g2 S) (hd : 0 < L.length → 0 < S.length → g1 ≠ g2) :
    Calls Tryz.prog 24 #[.agg #[v1, v2], .int .i64 1] w fun e w' => e = .returned (.int .i64 (1 + 2 * L.length + S.length : Nat)) ∧ RW 2 lcs w' v1 g1 (lmarks 1 L.length) ∧ TS w' v2 g2 (marks (1 + 2 * L.length) S.length) ∧ ∃ wm, w.grownBy wm (rowF g1 L.length) ∧ wm.grownBy w' (rowOf g2 S) := by
  have l1 := h1.1.len
  have l2 := h2.len
  have hB : Below w.heap.size w (w.alloc (.cells #[v1, v2] 55)) := (Below.refl _ _).alloc (Nat.le_refl _) _
  have HT : Hid (RW 2 lcs (w.alloc (.cells #[v1, v2] 55)) v1 g1 L ∧ TS (w.alloc (.cells #[v1, v2] 55)) v2 g2 S ∧ PfM (w.alloc (.cells #[v1, v2] 55)) w.heap.size v1 v2) := ⟨h1.later hB, h2.later hB, PfM.new w v1 v2⟩
  have HN : Hid (0 < L.length → w.heap.size ≠ g1) := fun h => by have := h1.lt h; omega
  have HB : Hid (Below w.heap.size w (w.alloc (.cells #[v1, v2] 55))) := hB
  have p0 := HT.out.2.2.c0
  have p1 := HT.out.2.2.c1
  clear hB
  go_enter Tryz.func24, Tryz.ntmps24
  go_wp2_with fail
  refine (markLeafS_any _ g1 L _ 1 _ rfl HT.out.1 (by omega) (by omega)).mono ?_
  rintro e wa ⟨rfl, ha1, hga⟩
  have ha2 := HT.out.2.1.keptG hga (fun hp => rowF_ne (fun hp2 => (hd hp2 hp).symm))
  have hsa := HT.out.2.2.keep (hga.block _ HT.out.2.2.lt (rowF_ne fun hp => HN.out hp))
  have e1 := hsa.c1
  have e0 := hsa.c0
  have HG1 : Hid (w.grownBy wa (rowF g1 L.length)) := (grown_below HB.out).trans hga
  have HA : Hid (RW 2 lcs wa v1 g1 (lmarks 1 L.length) ∧ TS wa v2 g2 S) := ⟨ha1, ha2⟩
  clear ha1 ha2 hsa hga HT HB p0 p1
  go_wp2_with fail
  refine (markStringS_any _ g2 S _ (1 + 2 * L.length) _ rfl HA.out.2 (by omega) (by omega)).mono ?_
  rintro e wb ⟨rfl, hb2, hgb⟩
  have hb1 := HA.out.1.grown hgb (fun hp => rowOf_ne (fun hp2 => hd (by rw [lmarks_len] at hp; exact hp) hp2))
  have HF : Hid (RW 2 lcs wb v1 g1 (lmarks 1 L.length) ∧ TS wb v2 g2 (marks (1 + 2 * L.length) S.length) ∧ ∃ wm, w.grownBy wm (rowF g1 L.length) ∧ wm.grownBy wb (rowOf g2 S)) := ⟨hb1, hb2, wa, HG1.out, hgb⟩
  clear hb1 hb2 hgb HA HG1 e0 e1
  go_wp2
  go_ret
  exact ⟨rfl, HF.out⟩

set_option maxRecDepth 100000 in
set_option maxHeartbeats 1000000 in
theorem heldProof_any (v1 v2 : Value) (g1 g2 n1 n2 : Nat) (w : World) (h1 : RW 2 lcs w v1 g1 (lmarks 1 n1)) (h2 : TS w v2 g2 (marks (1 + 2 * n1) n2)) :
    Calls Tryz.prog 25 #[.agg #[v1, v2], .int .i64 1] w fun e w' => e = .returned (.int .i64 (1 + 2 * n1 + n2 : Nat)) ∧ Below w.heap.size w w' := by
  have l1 := h1.1.len
  have l2 := h2.len
  rw [lmarks_len] at l1
  rw [marks_len] at l2
  have hB : Below w.heap.size w (w.alloc (.cells #[v1, v2] 55)) := (Below.refl _ _).alloc (Nat.le_refl _) _
  have HT : Hid (∀ W, Below w.heap.size w W → RS 2 lcs W v1 g1 0 (lmarks 1 n1) ∧ TS W v2 g2 (marks (1 + 2 * n1) n2)) := fun W hW => ⟨h1.1.later hW, h2.later hW⟩
  have HP : Hid (PfM (w.alloc (.cells #[v1, v2] 55)) w.heap.size v1 v2) := PfM.new w v1 v2
  have p0 := HP.out.c0
  have p1 := HP.out.c1
  clear h1 h2
  go_enter Tryz.func25, Tryz.ntmps25
  go_wp2_with fail
  refine (heldLeafS_any _ g1 _ 1 n1 _ rfl (HT.out _ hB).1 (by omega) (by omega)).mono ?_
  rintro e wa ⟨rfl, hba⟩
  have ba := hB.trans (hba.mono hB.size)
  have e0 := (HP.out.later hba).c0
  have e1 := (HP.out.later hba).c1
  have q1 : ¬ (((1 + 2 * n1 : Nat) : Int) < 0) := by omega
  clear hba hB HP p0 p1
  go_wp2_with fail
  refine (heldStringS_any _ g2 _ (1 + 2 * n1) n2 _ rfl (HT.out _ ba).2 (by omega) (by omega)).mono ?_
  rintro e wb ⟨rfl, hbb⟩
  have bb := ba.trans (hbb.mono ba.size)
  have q2 : ¬ (((1 + 2 * n1 + n2 : Nat) : Int) < 0) := by omega
  clear hbb ba e0 e1 HT
  go_wp2
  go_ret
  exact ⟨rfl, bb⟩

end Go.Proofs.YtklpanjedolkdaaGreatDoor
/-
  A proof in a law's box, and what it is made of.
-/
namespace Go.Proofs.YtklpanjedolkdaaGreatDoor
open Go.RowKit Go.BigFrame Go.Sort
set_option linter.unusedVariables false
set_option linter.unusedSimpArgs false

/-- a proof in its box, and what it is made of -/
def PbX (W : World) (p : Nat) (v1 v2 : Value) (g1 g2 : Nat) (B : List Le) (S : List ByteArray) : Prop := PfM W p v1 v2 ∧ RW 2 lcs W v1 g1 B ∧ TS W v2 g2 S
theorem PbX.later {W W' : World} {p : Nat} {v1 v2 : Value} {g1 g2 : Nat} {B : List Le} {S : List ByteArray} (h : PbX W p v1 v2 g1 g2 B S) (hb : Below W.heap.size W W') : PbX W' p v1 v2 g1 g2 B S := ⟨h.1.later hb, h.2.1.later hb, h.2.2.later hb⟩
theorem PbX.new {w : World} {a1 a2 : Option Addr} {c1 c2 n1 n2 g1 g2 : Nat} {B : List Le} {S : List ByteArray} (h1 : RW 2 lcs w (.slice a1 n1 c1) g1 B) (h2 : TS w (.slice a2 n2 c2) g2 S) : PbX (w.alloc (.cells #[.slice a1 n1 c1, .slice a2 n2 c2] 55)) w.heap.size (.slice a1 n1 c1) (.slice a2 n2 c2) g1 g2 B S := by
  have hb : Below w.heap.size w (w.alloc (.cells #[.slice a1 n1 c1, .slice a2 n2 c2] 55)) := (Below.refl _ _).alloc (Nat.le_refl _) _
  exact ⟨PfM.new w _ _, h1.later hb, h2.later hb⟩
theorem PbX.grown {W W' : World} {p : Nat} {v1 v2 : Value} {g1 g2 : Nat} {B : List Le} {S : List ByteArray} {row : Option Nat} (h : PbX W p v1 v2 g1 g2 B S) (hg : W.grownBy W' row) (hp : some p ≠ row) (h1 : 0 < B.length → some g1 ≠ row) (h2 : 0 < S.length → some g2 ≠ row) : PbX W' p v1 v2 g1 g2 B S :=
  ⟨h.1.keep (hg.block _ h.1.lt hp), h.2.1.grown hg h1, h.2.2.keptG hg h2⟩
theorem PbX.eq {W : World} {p q : Nat} {v1 v2 u1 u2 : Value} {g1 g2 k1 k2 : Nat} {B : List Le} {S : List ByteArray} (h : PbX W p v1 v2 g1 g2 B S) (k : PbX W q u1 u2 k1 k2 B S) : Calls Tryz.prog 23 #[.agg #[v1, v2], .agg #[u1, u2]] W fun e w' => e = .returned (.bool true) ∧ Below W.heap.size W w' :=
  eqProof_yes v1 v2 u1 u2 g1 0 g2 0 k1 0 k2 0 B S W h.2.1.1 h.2.2.ss k.2.1.1 k.2.2.ss

end Go.Proofs.YtklpanjedolkdaaGreatDoor
/-
  The walk of the law FnExactLookServer: it answers true of every server, every epoch and every name.
-/
namespace Go.Proofs.YtklpanjedolkdaaGreatDoor
open Go.RowKit Go.BigFrame Go.Sort
set_option linter.unusedVariables false
set_option linter.unusedSimpArgs false

theorem Box.inG {T lo hi : Nat} {W W' : World} {g : Nat} {cs : List Value} (h : Box T W g cs) (hb : InG lo hi W W') (hne : g < lo ∨ hi ≤ g) : Box T W' g cs := h.keep (hb.2.2.2.2 g h.lt hne)
theorem TS.inG {lo hi : Nat} {w w' : World} {v : Value} {g : Nat} {l : List ByteArray} (h : TS w v g l) (hb : InG lo hi w w') (hne : 0 < l.length → g < lo ∨ hi ≤ g) : TS w' v g l := by
  have hlt := h.lt
  obtain ⟨a, cap, rfl, hl, h2⟩ := h
  refine ⟨a, cap, rfl, hl, fun h0 => ⟨(h2 h0).1, ?_⟩⟩
  obtain ⟨cur, h3, h4⟩ := (h2 h0).2
  exact ⟨cur, by rw [hb.2.2.2.2 g (hlt h0) (hne h0)]; exact h3, h4⟩
theorem PbX.inG {lo hi : Nat} {W W' : World} {p : Nat} {v1 v2 : Value} {g1 g2 : Nat} {B : List Le} {S : List ByteArray} (h : PbX W p v1 v2 g1 g2 B S) (hb : InG lo hi W W') (n0 : p < lo ∨ hi ≤ p) (n1 : 0 < B.length → g1 < lo ∨ hi ≤ g1) (n2 : 0 < S.length → g2 < lo ∨ hi ≤ g2) : PbX W' p v1 v2 g1 g2 B S :=
  ⟨h.1.keep (hb.2.2.2.2 p h.1.lt n0), h.2.1.inG hb n1, h.2.2.inG hb n2⟩
/-- what the law has in hand of its argument -/
def LkS (w w1 W : World) (x : Nat) (src xs : List Value) (lo hi : Nat) (vd vv vt va : Value) (L : Sr) : Prop :=
  Below w.heap.size w W ∧ Below w1.heap.size w1 W ∧ Box 31 W w.heap.size src ∧ Box 41 W x xs ∧ SvD lo hi W vd vv vt va L
theorem LkS.later {w w1 W W' : World} {x : Nat} {src xs : List Value} {lo hi : Nat} {vd vv vt va : Value} {L : Sr} (h : LkS w w1 W x src xs lo hi vd vv vt va L) (hb : Below W.heap.size W W') : LkS w w1 W' x src xs lo hi vd vv vt va L :=
  ⟨h.1.trans (hb.mono h.1.size), h.2.1.trans (hb.mono h.2.1.size), h.2.2.1.later hb, h.2.2.2.1.later hb, h.2.2.2.2.later hb⟩
/-- .. when its copy is marked -/
def LkM (w w1 W : World) (src : List Value) : Prop := Below w.heap.size w W ∧ Below w1.heap.size w1 W ∧ Box 31 W w.heap.size src
theorem LkM.later {w w1 W W' : World} {src : List Value} (h : LkM w w1 W src) (hb : Below W.heap.size W W') : LkM w w1 W' src :=
  ⟨h.1.trans (hb.mono h.1.size), h.2.1.trans (hb.mono h.2.1.size), h.2.2.later hb⟩

set_option maxRecDepth 100000 in
set_option maxHeartbeats 4000000 in
theorem lookLaw_any (n : Sn) (vd vv vt va : Value) (L : Sr) (ep : Int) (nm : ByteArray) (hnm : nm.size ≤ maxLen) (w : World) (hT : Tb w) (hZ : IsSv w vd vv vt va L) :
    Calls Tryz.prog 5 #[.agg #[.int .i64 n.a, .int .i64 n.k, .bool n.u, vd, .int .i64 n.e, vv, vt, va, .int .i64 n.r0, .int .i64 n.r1, .int .i64 n.r2], .int .i64 ep, .string nm] w fun e w' => e = .returned (.bool true) ∧ Below w.heap.size w w' := by
  unfold maxLen at hnm
  have hsz := szServer_row n vd vv vt va L 1048576 (w.alloc (.cells #[.int .i64 n.a, .int .i64 n.k, .bool n.u, vd, .int .i64 n.e, vv, vt, va, .int .i64 n.r0, .int .i64 n.r1, .int .i64 n.r2] 31)) (hZ.later (below_alloc _ _)) (by omega) (by omega)
  have HTO : Hid (∀ w1, SvS w1 vd vv vt va L → ∀ W, Below w1.heap.size w1 W → Calls Tryz.prog 10 #[.agg #[.int .i64 n.a, .int .i64 n.k, .bool n.u, vd, .int .i64 n.e, vv, vt, va, .int .i64 n.r0, .int .i64 n.r1, .int .i64 n.r2]] W (ToSv n L W)) := fun w1 h W hW => toServer_any n vd vv vt va L W (h.later hW)
  have HCS : Hid (L.sm → nm.size ≤ 1048576 → ∀ W gd gv b3 e3 ga, SvS W (.slice (some ⟨gd, 0, none⟩) L.F.length L.F.length) (.slice (some ⟨gv, 0, none⟩) L.P.length L.P.length) (.slice b3 L.I.length e3) (.slice (some ⟨ga, 0, none⟩) L.U.length L.U.length) L → Calls Tryz.prog 21 #[.agg #[.int .i64 n.a, .int .i64 n.k, .bool n.u, .slice (some ⟨gd, 0, none⟩) L.F.length L.F.length, .int .i64 n.e, .slice (some ⟨gv, 0, none⟩) L.P.length L.P.length, .slice b3 L.I.length e3, .slice (some ⟨ga, 0, none⟩) L.U.length L.U.length, .int .i64 n.r0, .int .i64 n.r1, .int .i64 n.r2], .int .i64 ep, .string nm] W (PvP (lkL n L.P ep nm) (lkT n L.P ep nm) (lkO n L.P ep nm) W)) := fun hs hn W gd gv b3 e3 ga h => by
    obtain ⟨_, ⟨g, o, hu⟩, _⟩ := h
    obtain ⟨a, k, u, e, r0, r1, r2⟩ := n
    exact sLookServer_at a k e r0 r1 r2 ep u _ _ _ gv 0 _ _ L.P nm W ⟨rfl, rfl, rfl⟩ hu.self rfl hs.2.1.1 hn
  have HCI : Hid (L.sm → nm.size ≤ 1048576 → ∀ W gd gv b3 e3 ga, Below w.heap.size w W → SvS W (.slice (some ⟨gd, 0, none⟩) L.F.length L.F.length) (.slice (some ⟨gv, 0, none⟩) L.P.length L.P.length) (.slice b3 L.I.length e3) (.slice (some ⟨ga, 0, none⟩) L.U.length L.U.length) L → Calls Tryz.prog 22 #[.agg #[.int .i64 n.a, .int .i64 n.k, .bool n.u, .slice (some ⟨gd, 0, none⟩) L.F.length L.F.length, .int .i64 n.e, .slice (some ⟨gv, 0, none⟩) L.P.length L.P.length, .slice b3 L.I.length e3, .slice (some ⟨ga, 0, none⟩) L.U.length L.U.length, .int .i64 n.r0, .int .i64 n.r1, .int .i64 n.r2], .int .i64 ep, .string nm] W (PvP (lkL n L.P ep nm) (lkT n L.P ep nm) (lkO n L.P ep nm) W)) := fun hs hn W gd gv b3 e3 ga hW h => by
    obtain ⟨_, ⟨g, o, hu⟩, _⟩ := h
    obtain ⟨a, k, u, e, r0, r1, r2⟩ := n
    exact LookServer_at a k e r0 r1 r2 ep u _ _ _ gv 0 _ _ L.P nm W ⟨rfl, rfl, rfl⟩ hu.self rfl hs.2.1.1 hn (hT.later hW)
  have HEQ : Hid (∀ W gd gv b3 e3 ga ud uv ut ua, SvS W (.slice (some ⟨gd, 0, none⟩) L.F.length L.F.length) (.slice (some ⟨gv, 0, none⟩) L.P.length L.P.length) (.slice b3 L.I.length e3) (.slice (some ⟨ga, 0, none⟩) L.U.length L.U.length) L → SvS W ud uv ut ua L → Calls Tryz.prog 12 #[.agg #[.int .i64 n.a, .int .i64 n.k, .bool n.u, .slice (some ⟨gd, 0, none⟩) L.F.length L.F.length, .int .i64 n.e, .slice (some ⟨gv, 0, none⟩) L.P.length L.P.length, .slice b3 L.I.length e3, .slice (some ⟨ga, 0, none⟩) L.U.length L.U.length, .int .i64 n.r0, .int .i64 n.r1, .int .i64 n.r2], .agg #[.int .i64 n.a, .int .i64 n.k, .bool n.u, ud, .int .i64 n.e, uv, ut, ua, .int .i64 n.r0, .int .i64 n.r1, .int .i64 n.r2]] W fun e w' => e = .returned (.bool true) ∧ Below W.heap.size W w') := fun W gd gv b3 e3 ga ud uv ut ua h k => eqServer_yes n _ _ _ _ ud uv ut ua L W h k
  have HMK : Hid (L.sm → ∀ lo hi W gd gv b3 e3 ga, SvD lo hi W (.slice (some ⟨gd, 0, none⟩) L.F.length L.F.length) (.slice (some ⟨gv, 0, none⟩) L.P.length L.P.length) (.slice b3 L.I.length e3) (.slice (some ⟨ga, 0, none⟩) L.U.length L.U.length) L → hi ≤ W.heap.size → Calls Tryz.prog 19 #[.agg #[.int .i64 n.a, .int .i64 n.k, .bool n.u, .slice (some ⟨gd, 0, none⟩) L.F.length L.F.length, .int .i64 n.e, .slice (some ⟨gv, 0, none⟩) L.P.length L.P.length, .slice b3 L.I.length e3, .slice (some ⟨ga, 0, none⟩) L.U.length L.U.length, .int .i64 n.r0, .int .i64 n.r1, .int .i64 n.r2], .int .i64 1] W fun e w' => ∃ K : Int, e = .returned (.int .i64 K) ∧ 0 ≤ K ∧ InG lo hi W w') := fun hs lo hi W gd gv b3 e3 ga h hh => markServer_arg n _ _ _ _ L lo hi W h hs hh
  obtain ⟨⟨_, _, ad, nd, cd, e1, _⟩, ⟨_, _, _, ⟨av, nv, cv, e2, _⟩, _⟩, ⟨_, _, at2, nt, ct, e3, _⟩, ⟨_, _, aa, na, ca, e4, _⟩⟩ := hZ
  subst e1
  subst e2
  subst e3
  subst e4
  unfold ToSv at HTO
  unfold PvP at HCS HCI
  generalize lkL n L.P ep nm = B at *
  generalize lkT n L.P ep nm = S at *
  generalize lkO n L.P ep nm = R at *
  obtain ⟨a, k, u, e, r0, r1, r2⟩ := n
  simp only at hsz HTO HCS HCI HEQ HMK ⊢
  generalize L.F.length = md at *
  generalize L.P.length = mv at *
  generalize L.I.length = mt at *
  generalize L.U.length = ma at *
  have HX : Hid (Below w.heap.size w (w.alloc (.cells #[.int .i64 a, .int .i64 k, .bool u, .slice ad nd cd, .int .i64 e, .slice av nv cv, .slice at2 nt ct, .slice aa na ca, .int .i64 r0, .int .i64 r1, .int .i64 r2] 31)) ∧ Box 31 (w.alloc (.cells #[.int .i64 a, .int .i64 k, .bool u, .slice ad nd cd, .int .i64 e, .slice av nv cv, .slice at2 nt ct, .slice aa na ca, .int .i64 r0, .int .i64 r1, .int .i64 r2] 31)) w.heap.size [.int .i64 a, .int .i64 k, .bool u, .slice ad nd cd, .int .i64 e, .slice av nv cv, .slice at2 nt ct, .slice aa na ca, .int .i64 r0, .int .i64 r1, .int .i64 r2]) := ⟨below_alloc _ _, Box.new _ _ _⟩
  by_cases hbig : 1048576 < nm.size
  · clear hsz HTO HCS HCI HEQ HMK hT
    go_enter Tryz.func5, Tryz.ntmps5
    go_wp2
    go_ret
    exact ⟨rfl, HX.out.1⟩
  have HN : Hid (nm.size ≤ 1048576) := by
    have : nm.size ≤ 1048576 := by omega
    exact this
  clear hT
  go_enter Tryz.func5, Tryz.ntmps5
  go_wp2_with fail
  refine hsz.mono ?_
  rintro e_ w1 ⟨Z, rfl, hb1, _, hB⟩
  have HX1 : Hid (Below w.heap.size w w1 ∧ Box 31 w1 w.heap.size [.int .i64 a, .int .i64 k, .bool u, .slice ad nd cd, .int .i64 e, .slice av nv cv, .slice at2 nt ct, .slice aa na ca, .int .i64 r0, .int .i64 r1, .int .i64 r2]) := ⟨HX.out.1.trans (hb1.mono HX.out.1.size), HX.out.2.later hb1⟩
  clear hsz HX hb1
  by_cases hneg : Z < 0
  · clear hB HCS HCI HEQ HMK HTO
    go_wp2
    go_ret
    exact ⟨rfl, HX1.out.1⟩
  obtain ⟨hS, hsm⟩ := hB (by omega)
  have HT : Hid (∀ W, Below w1.heap.size w1 W → Calls Tryz.prog 10 #[.agg #[.int .i64 a, .int .i64 k, .bool u, .slice ad nd cd, .int .i64 e, .slice av nv cv, .slice at2 nt ct, .slice aa na ca, .int .i64 r0, .int .i64 r1, .int .i64 r2]] W fun e_ w' => ∃ gd gv b3 e3 ga, e_ = .returned (.agg #[.int .i64 a, .int .i64 k, .bool u, .slice (some ⟨gd, 0, none⟩) md md, .int .i64 e, .slice (some ⟨gv, 0, none⟩) mv mv, .slice b3 mt e3, .slice (some ⟨ga, 0, none⟩) ma ma, .int .i64 r0, .int .i64 r1, .int .i64 r2]) ∧ SvD W.heap.size w'.heap.size w' (.slice (some ⟨gd, 0, none⟩) md md) (.slice (some ⟨gv, 0, none⟩) mv mv) (.slice b3 mt e3) (.slice (some ⟨ga, 0, none⟩) ma ma) L ∧ Below W.heap.size W w') := HTO.out w1 hS
  have HS' := hide (HCS.out hsm HN.out)
  have HI' := hide (HCI.out hsm HN.out)
  have HM' := hide (HMK.out hsm)
  clear hB hS hsm HTO HCS HCI HMK
  obtain ⟨z0, z1, z2, z3, z4, z5, z6, z7, z8, z9, z10⟩ := HX1.out.2.all11
  go_wp2_with fail
  refine (HT.out _ (Below.refl _ _)).mono ?_
  rintro e_ w2 ⟨gd2, gv2, b32, e32, ga2, rfl, hm2, hb2⟩
  go_wp2_with fail
  refine (HS'.out _ _ _ _ _ _ hm2.svs).mono ?_
  rintro e_ w3 ⟨ab3, cb3, aS3, cS3, gb3, gs3, rfl, rb3, ts3, hgb, hgs, _, hb3⟩
  have HX3 : Hid (LkM w w1 (w3.alloc (.cells #[.slice ab3 B.length cb3, .slice aS3 S.length cS3] 55)) [.int .i64 a, .int .i64 k, .bool u, .slice ad nd cd, .int .i64 e, .slice av nv cv, .slice at2 nt ct, .slice aa na ca, .int .i64 r0, .int .i64 r1, .int .i64 r2] ∧ PbX (w3.alloc (.cells #[.slice ab3 B.length cb3, .slice aS3 S.length cS3] 55)) w3.heap.size (.slice ab3 B.length cb3) (.slice aS3 S.length cS3) gb3 gs3 B S ∧ (0 < B.length → gb3 < w3.heap.size) ∧ (0 < S.length → gs3 < w3.heap.size) ∧ (w3.alloc (.cells #[.slice ab3 B.length cb3, .slice aS3 S.length cS3] 55)).heap.size = w3.heap.size + 1 ∧ w.heap.size < w3.heap.size ∧ w1.heap.size ≤ w3.heap.size) := by
    have hb13 := hb2.trans (hb3.mono hb2.size)
    have j1 := HX1.out.1.trans (hb13.mono HX1.out.1.size)
    have k2 := HX1.out.2.later hb13
    exact ⟨⟨j1.alloc j1.size _, hb13.alloc hb13.size _, k2.later (below_alloc _ _)⟩, PbX.new rb3 ts3, rb3.lt, ts3.lt, by simp, k2.lt, hb13.size⟩
  clear hm2 hb2 rb3 ts3 hgb hgs hb3 HS' HX1 z0 z1 z2 z3 z4 z5 z6 z7 z8 z9 z10
  obtain ⟨z0, z1, z2, z3, z4, z5, z6, z7, z8, z9, z10⟩ := HX3.out.1.2.2.all11
  go_wp2_with fail
  refine (HT.out _ HX3.out.1.2.1).mono ?_
  rintro e_ w4 ⟨gd4, gv4, b34, e34, ga4, rfl, hm4, hb4⟩
  have HX4 : Hid (LkS w w1 (w4.alloc (.cells #[.int .i64 a, .int .i64 k, .bool u, .slice (some ⟨gd4, 0, none⟩) md md, .int .i64 e, .slice (some ⟨gv4, 0, none⟩) mv mv, .slice b34 mt e34, .slice (some ⟨ga4, 0, none⟩) ma ma, .int .i64 r0, .int .i64 r1, .int .i64 r2] 41)) w4.heap.size [.int .i64 a, .int .i64 k, .bool u, .slice ad nd cd, .int .i64 e, .slice av nv cv, .slice at2 nt ct, .slice aa na ca, .int .i64 r0, .int .i64 r1, .int .i64 r2] [.int .i64 a, .int .i64 k, .bool u, .slice (some ⟨gd4, 0, none⟩) md md, .int .i64 e, .slice (some ⟨gv4, 0, none⟩) mv mv, .slice b34 mt e34, .slice (some ⟨ga4, 0, none⟩) ma ma, .int .i64 r0, .int .i64 r1, .int .i64 r2] (w3.alloc (.cells #[.slice ab3 B.length cb3, .slice aS3 S.length cS3] 55)).heap.size w4.heap.size (.slice (some ⟨gd4, 0, none⟩) md md) (.slice (some ⟨gv4, 0, none⟩) mv mv) (.slice b34 mt e34) (.slice (some ⟨ga4, 0, none⟩) ma ma) L ∧ PbX (w4.alloc (.cells #[.int .i64 a, .int .i64 k, .bool u, .slice (some ⟨gd4, 0, none⟩) md md, .int .i64 e, .slice (some ⟨gv4, 0, none⟩) mv mv, .slice b34 mt e34, .slice (some ⟨ga4, 0, none⟩) ma ma, .int .i64 r0, .int .i64 r1, .int .i64 r2] 41)) w3.heap.size (.slice ab3 B.length cb3) (.slice aS3 S.length cS3) gb3 gs3 B S) := by
    obtain ⟨⟨k1, k2, k3⟩, k4, _⟩ := HX3.out
    have j1 := k1.trans (hb4.mono k1.size)
    have j3 := k2.trans (hb4.mono k2.size)
    exact ⟨⟨j1.alloc j1.size _, j3.alloc j3.size _, (k3.later hb4).later (below_alloc _ _), Box.new _ _ _, hm4.later (below_alloc _ _)⟩, (k4.later hb4).later (below_alloc _ _)⟩
  have HJ : Hid ((0 < B.length → gb3 < w3.heap.size) ∧ (0 < S.length → gs3 < w3.heap.size) ∧ (w3.alloc (.cells #[.slice ab3 B.length cb3, .slice aS3 S.length cS3] 55)).heap.size = w3.heap.size + 1 ∧ w.heap.size < w3.heap.size ∧ w1.heap.size ≤ w3.heap.size ∧ w3.heap.size + 1 ≤ w4.heap.size ∧ (w4.alloc (.cells #[.int .i64 a, .int .i64 k, .bool u, .slice (some ⟨gd4, 0, none⟩) md md, .int .i64 e, .slice (some ⟨gv4, 0, none⟩) mv mv, .slice b34 mt e34, .slice (some ⟨ga4, 0, none⟩) ma ma, .int .i64 r0, .int .i64 r1, .int .i64 r2] 41)).heap.size = w4.heap.size + 1) := by
    obtain ⟨_, _, j1, j2, j3, j4, j5⟩ := HX3.out
    exact ⟨j1, j2, j3, j4, j5, by have := hb4.size; omega, by simp⟩
  clear hm4 hb4 HX3 z0 z1 z2 z3 z4 z5 z6 z7 z8 z9 z10
  obtain ⟨y0, y1, y2, y3, y4, y5, y6, y7, y8, y9, y10⟩ := HX4.out.1.2.2.2.1.all11
  go_wp2_with fail
  refine (HI'.out _ _ _ _ _ _ HX4.out.1.1 HX4.out.1.2.2.2.2.svs).mono ?_
  rintro e_ w5 ⟨ab5, cb5, aS5, cS5, gb5, gs5, rfl, rb5, ts5, hgb, hgs, hd5, hb5⟩
  have hba5 : Below w5.heap.size w5 (w5.alloc (.cells #[.slice ab5 B.length cb5, .slice aS5 S.length cS5] 55)) := below_alloc _ _
  have HX5 : Hid (LkS w w1 (w5.alloc (.cells #[.slice ab5 B.length cb5, .slice aS5 S.length cS5] 55)) w4.heap.size [.int .i64 a, .int .i64 k, .bool u, .slice ad nd cd, .int .i64 e, .slice av nv cv, .slice at2 nt ct, .slice aa na ca, .int .i64 r0, .int .i64 r1, .int .i64 r2] [.int .i64 a, .int .i64 k, .bool u, .slice (some ⟨gd4, 0, none⟩) md md, .int .i64 e, .slice (some ⟨gv4, 0, none⟩) mv mv, .slice b34 mt e34, .slice (some ⟨ga4, 0, none⟩) ma ma, .int .i64 r0, .int .i64 r1, .int .i64 r2] (w3.alloc (.cells #[.slice ab3 B.length cb3, .slice aS3 S.length cS3] 55)).heap.size w4.heap.size (.slice (some ⟨gd4, 0, none⟩) md md) (.slice (some ⟨gv4, 0, none⟩) mv mv) (.slice b34 mt e34) (.slice (some ⟨ga4, 0, none⟩) ma ma) L ∧ PbX (w5.alloc (.cells #[.slice ab5 B.length cb5, .slice aS5 S.length cS5] 55)) w3.heap.size (.slice ab3 B.length cb3) (.slice aS3 S.length cS3) gb3 gs3 B S ∧ PbX (w5.alloc (.cells #[.slice ab5 B.length cb5, .slice aS5 S.length cS5] 55)) w5.heap.size (.slice ab5 B.length cb5) (.slice aS5 S.length cS5) gb5 gs5 B S) := by
    obtain ⟨k1, k2⟩ := HX4.out
    exact ⟨(k1.later hb5).later hba5, (k2.later hb5).later hba5, PbX.new rb5 ts5⟩
  have HJ5 : Hid (w4.heap.size < gb5 ∧ w4.heap.size < gs5 ∧ (0 < B.length → 0 < S.length → gb5 ≠ gs5) ∧ (0 < B.length → gb5 < w5.heap.size) ∧ (0 < S.length → gs5 < w5.heap.size) ∧ w4.heap.size < w5.heap.size ∧ (w5.alloc (.cells #[.slice ab5 B.length cb5, .slice aS5 S.length cS5] 55)).heap.size = w5.heap.size + 1) := by
    obtain ⟨_, _, _, _, _, _, j7⟩ := HJ.out
    have h2 := hb5.size
    exact ⟨by omega, by omega, hd5.1, rb5.lt, ts5.lt, by omega, by simp⟩
  clear rb5 ts5 hgb hgs hd5 hb5 hba5 HX4 y0 y1 y2 y3 y4 y5 y6 y7 y8 y9 y10
  have q0 := HX5.out.2.1.1.c0
  have q1 := HX5.out.2.1.1.c1
  have q2' := HX5.out.2.2.1.c0
  have q3 := HX5.out.2.2.1.c1
  go_wp2_with fail
  refine (HX5.out.2.2.eq HX5.out.2.1).mono ?_
  rintro e_ w6 ⟨rfl, hb6⟩
  have HX6 : Hid (LkS w w1 w6 w4.heap.size [.int .i64 a, .int .i64 k, .bool u, .slice ad nd cd, .int .i64 e, .slice av nv cv, .slice at2 nt ct, .slice aa na ca, .int .i64 r0, .int .i64 r1, .int .i64 r2] [.int .i64 a, .int .i64 k, .bool u, .slice (some ⟨gd4, 0, none⟩) md md, .int .i64 e, .slice (some ⟨gv4, 0, none⟩) mv mv, .slice b34 mt e34, .slice (some ⟨ga4, 0, none⟩) ma ma, .int .i64 r0, .int .i64 r1, .int .i64 r2] (w3.alloc (.cells #[.slice ab3 B.length cb3, .slice aS3 S.length cS3] 55)).heap.size w4.heap.size (.slice (some ⟨gd4, 0, none⟩) md md) (.slice (some ⟨gv4, 0, none⟩) mv mv) (.slice b34 mt e34) (.slice (some ⟨ga4, 0, none⟩) ma ma) L ∧ PbX w6 w3.heap.size (.slice ab3 B.length cb3) (.slice aS3 S.length cS3) gb3 gs3 B S ∧ PbX w6 w5.heap.size (.slice ab5 B.length cb5) (.slice aS5 S.length cS5) gb5 gs5 B S ∧ w5.heap.size < w6.heap.size) := by
    obtain ⟨k1, k2, k3⟩ := HX5.out
    have := HJ5.out.2.2.2.2.2.2
    exact ⟨k1.later hb6, k2.later hb6, k3.later hb6, by have := hb6.size; omega⟩
  clear hb6 HX5 q0 q1 q2' q3
  have HC : Hid (∀ W, Below w6.heap.size w6 W → (W.cell? ⟨w4.heap.size, 0, none⟩ = some (.int .i64 a) ∧ W.cell? ⟨w4.heap.size, 1, none⟩ = some (.int .i64 k) ∧ W.cell? ⟨w4.heap.size, 2, none⟩ = some (.bool u) ∧ W.cell? ⟨w4.heap.size, 3, none⟩ = some (.slice (some ⟨gd4, 0, none⟩) md md) ∧ W.cell? ⟨w4.heap.size, 4, none⟩ = some (.int .i64 e) ∧ W.cell? ⟨w4.heap.size, 5, none⟩ = some (.slice (some ⟨gv4, 0, none⟩) mv mv) ∧ W.cell? ⟨w4.heap.size, 6, none⟩ = some (.slice b34 mt e34) ∧ W.cell? ⟨w4.heap.size, 7, none⟩ = some (.slice (some ⟨ga4, 0, none⟩) ma ma) ∧ W.cell? ⟨w4.heap.size, 8, none⟩ = some (.int .i64 r0) ∧ W.cell? ⟨w4.heap.size, 9, none⟩ = some (.int .i64 r1) ∧ W.cell? ⟨w4.heap.size, 10, none⟩ = some (.int .i64 r2)) ∧ W.cell? ⟨w.heap.size, 0, none⟩ = some (.int .i64 a) ∧ W.cell? ⟨w.heap.size, 1, none⟩ = some (.int .i64 k) ∧ W.cell? ⟨w.heap.size, 2, none⟩ = some (.bool u) ∧ W.cell? ⟨w.heap.size, 3, none⟩ = some (.slice ad nd cd) ∧ W.cell? ⟨w.heap.size, 4, none⟩ = some (.int .i64 e) ∧ W.cell? ⟨w.heap.size, 5, none⟩ = some (.slice av nv cv) ∧ W.cell? ⟨w.heap.size, 6, none⟩ = some (.slice at2 nt ct) ∧ W.cell? ⟨w.heap.size, 7, none⟩ = some (.slice aa na ca) ∧ W.cell? ⟨w.heap.size, 8, none⟩ = some (.int .i64 r0) ∧ W.cell? ⟨w.heap.size, 9, none⟩ = some (.int .i64 r1) ∧ W.cell? ⟨w.heap.size, 10, none⟩ = some (.int .i64 r2)) := fun W hW => ⟨(HX6.out.1.2.2.2.1.later hW).all11, (HX6.out.1.2.2.1.later hW).all11⟩
  have HT6 : Hid (∀ W, Below w6.heap.size w6 W → Calls Tryz.prog 10 #[.agg #[.int .i64 a, .int .i64 k, .bool u, .slice ad nd cd, .int .i64 e, .slice av nv cv, .slice at2 nt ct, .slice aa na ca, .int .i64 r0, .int .i64 r1, .int .i64 r2]] W fun e_ w' => ∃ gd gv b3 e3 ga, e_ = .returned (.agg #[.int .i64 a, .int .i64 k, .bool u, .slice (some ⟨gd, 0, none⟩) md md, .int .i64 e, .slice (some ⟨gv, 0, none⟩) mv mv, .slice b3 mt e3, .slice (some ⟨ga, 0, none⟩) ma ma, .int .i64 r0, .int .i64 r1, .int .i64 r2]) ∧ SvD W.heap.size w'.heap.size w' (.slice (some ⟨gd, 0, none⟩) md md) (.slice (some ⟨gv, 0, none⟩) mv mv) (.slice b3 mt e3) (.slice (some ⟨ga, 0, none⟩) ma ma) L ∧ Below W.heap.size W w') := fun W hW => HT.out W (HX6.out.1.2.1.trans (hW.mono HX6.out.1.2.1.size))
  have HE6 : Hid (∀ W ud uv ut ua, Below w6.heap.size w6 W → SvS W ud uv ut ua L → Calls Tryz.prog 12 #[.agg #[.int .i64 a, .int .i64 k, .bool u, .slice (some ⟨gd4, 0, none⟩) md md, .int .i64 e, .slice (some ⟨gv4, 0, none⟩) mv mv, .slice b34 mt e34, .slice (some ⟨ga4, 0, none⟩) ma ma, .int .i64 r0, .int .i64 r1, .int .i64 r2], .agg #[.int .i64 a, .int .i64 k, .bool u, ud, .int .i64 e, uv, ut, ua, .int .i64 r0, .int .i64 r1, .int .i64 r2]] W fun e w' => e = .returned (.bool true) ∧ Below W.heap.size W w') := fun W ud uv ut ua hW hu => HEQ.out W _ _ _ _ _ ud uv ut ua (HX6.out.1.2.2.2.2.later hW).svs hu
  have hb0 : Below w6.heap.size w6 w6.drew := (Below.refl _ _).drew
  clear HEQ
  go_wp2
  go_region_held3 (fun W => (W.cell? ⟨w4.heap.size, 0, none⟩ = some (.int .i64 a) ∧ W.cell? ⟨w4.heap.size, 1, none⟩ = some (.int .i64 k) ∧ W.cell? ⟨w4.heap.size, 2, none⟩ = some (.bool u) ∧ W.cell? ⟨w4.heap.size, 3, none⟩ = some (.slice (some ⟨gd4, 0, none⟩) md md) ∧ W.cell? ⟨w4.heap.size, 4, none⟩ = some (.int .i64 e) ∧ W.cell? ⟨w4.heap.size, 5, none⟩ = some (.slice (some ⟨gv4, 0, none⟩) mv mv) ∧ W.cell? ⟨w4.heap.size, 6, none⟩ = some (.slice b34 mt e34) ∧ W.cell? ⟨w4.heap.size, 7, none⟩ = some (.slice (some ⟨ga4, 0, none⟩) ma ma) ∧ W.cell? ⟨w4.heap.size, 8, none⟩ = some (.int .i64 r0) ∧ W.cell? ⟨w4.heap.size, 9, none⟩ = some (.int .i64 r1) ∧ W.cell? ⟨w4.heap.size, 10, none⟩ = some (.int .i64 r2)) ∧ W.cell? ⟨w.heap.size, 0, none⟩ = some (.int .i64 a) ∧ W.cell? ⟨w.heap.size, 1, none⟩ = some (.int .i64 k) ∧ W.cell? ⟨w.heap.size, 2, none⟩ = some (.bool u) ∧ W.cell? ⟨w.heap.size, 3, none⟩ = some (.slice ad nd cd) ∧ W.cell? ⟨w.heap.size, 4, none⟩ = some (.int .i64 e) ∧ W.cell? ⟨w.heap.size, 5, none⟩ = some (.slice av nv cv) ∧ W.cell? ⟨w.heap.size, 6, none⟩ = some (.slice at2 nt ct) ∧ W.cell? ⟨w.heap.size, 7, none⟩ = some (.slice aa na ca) ∧ W.cell? ⟨w.heap.size, 8, none⟩ = some (.int .i64 r0) ∧ W.cell? ⟨w.heap.size, 9, none⟩ = some (.int .i64 r1) ∧ W.cell? ⟨w.heap.size, 10, none⟩ = some (.int .i64 r2)) (first | (go_keep; done) | exact HC.out _ hb0) (first | (go_at_call 10; refine (HT6.out _ hb0).mono ?_; rintro e_ w7 ⟨gd7, gv7, b37, e37, ga7, rfl, hm7, hb7⟩; have hb0 := hb0.trans (hb7.mono hb0.size)) | (go_at_call 12; refine (HE6.out _ _ _ _ _ hb0 hm7.svs).mono ?_; rintro e_ w8 ⟨rfl, hb8⟩; have hb0 := hb0.trans (hb8.mono hb0.size)) | fail)
  try rename_i hHeld
  try clear hHeld
  have HX8 : Hid (LkS w w1 w8 w4.heap.size [.int .i64 a, .int .i64 k, .bool u, .slice ad nd cd, .int .i64 e, .slice av nv cv, .slice at2 nt ct, .slice aa na ca, .int .i64 r0, .int .i64 r1, .int .i64 r2] [.int .i64 a, .int .i64 k, .bool u, .slice (some ⟨gd4, 0, none⟩) md md, .int .i64 e, .slice (some ⟨gv4, 0, none⟩) mv mv, .slice b34 mt e34, .slice (some ⟨ga4, 0, none⟩) ma ma, .int .i64 r0, .int .i64 r1, .int .i64 r2] (w3.alloc (.cells #[.slice ab3 B.length cb3, .slice aS3 S.length cS3] 55)).heap.size w4.heap.size (.slice (some ⟨gd4, 0, none⟩) md md) (.slice (some ⟨gv4, 0, none⟩) mv mv) (.slice b34 mt e34) (.slice (some ⟨ga4, 0, none⟩) ma ma) L ∧ PbX w8 w3.heap.size (.slice ab3 B.length cb3) (.slice aS3 S.length cS3) gb3 gs3 B S ∧ PbX w8 w5.heap.size (.slice ab5 B.length cb5) (.slice aS5 S.length cS5) gb5 gs5 B S ∧ w5.heap.size < w8.heap.size) := by
    obtain ⟨k1, k2, k3, k4⟩ := HX6.out
    exact ⟨k1.later hb0, k2.later hb0, k3.later hb0, by have := hb0.size; omega⟩
  clear hm7 hb7 hb8 hb0 HX6 HC HT6 HE6
  obtain ⟨y0, y1, y2, y3, y4, y5, y6, y7, y8, y9, y10⟩ := HX8.out.1.2.2.2.1.all11
  go_wp2_with fail
  refine (HM'.out _ _ _ _ _ _ _ _ HX8.out.1.2.2.2.2 (by have := HX8.out.2.2.2; have := HJ5.out.2.2.2.2.2.1; omega)).mono ?_
  rintro e_ w9 ⟨KK, rfl, hK0, hi9⟩
  have hK1 : ¬ KK < 0 := by omega
  have HX9 : Hid (LkM w w1 w9 [.int .i64 a, .int .i64 k, .bool u, .slice ad nd cd, .int .i64 e, .slice av nv cv, .slice at2 nt ct, .slice aa na ca, .int .i64 r0, .int .i64 r1, .int .i64 r2] ∧ PbX w9 w3.heap.size (.slice ab3 B.length cb3) (.slice aS3 S.length cS3) gb3 gs3 B S ∧ PbX w9 w5.heap.size (.slice ab5 B.length cb5) (.slice aS5 S.length cS5) gb5 gs5 B S) := by
    obtain ⟨⟨k1, k2, k3, k4, k5⟩, k6, k7, _⟩ := HX8.out
    obtain ⟨j1, j2, j3, j4, j5, j6, j7⟩ := HJ.out
    obtain ⟨i1, i2, i3, i4, i5, i6, i7⟩ := HJ5.out
    exact ⟨⟨hi9.below k1 k1.size (by omega), hi9.below k2 k2.size (by omega), k3.inG hi9 (.inl (by omega))⟩, k6.inG hi9 (.inl (by omega)) (fun h => .inl (by have := j1 h; omega)) (fun h => .inl (by have := j2 h; omega)), k7.inG hi9 (.inr (by omega)) (fun _ => .inr (by omega)) (fun _ => .inr (by omega))⟩
  clear hi9 HX8 HM' y0 y1 y2 y3 y4 y5 y6 y7 y8 y9 y10
  have q0 := HX9.out.2.1.1.c0
  have q1 := HX9.out.2.1.1.c1
  have q2' := HX9.out.2.2.1.c0
  have q3 := HX9.out.2.2.1.c1
  go_wp2_with fail
  refine (HX9.out.2.2.eq HX9.out.2.1).mono ?_
  rintro e_ w10 ⟨rfl, hb10⟩
  have HX10 : Hid (LkM w w1 w10 [.int .i64 a, .int .i64 k, .bool u, .slice ad nd cd, .int .i64 e, .slice av nv cv, .slice at2 nt ct, .slice aa na ca, .int .i64 r0, .int .i64 r1, .int .i64 r2] ∧ PbX w10 w3.heap.size (.slice ab3 B.length cb3) (.slice aS3 S.length cS3) gb3 gs3 B S ∧ PbX w10 w5.heap.size (.slice ab5 B.length cb5) (.slice aS5 S.length cS5) gb5 gs5 B S) := ⟨HX9.out.1.later hb10, HX9.out.2.1.later hb10, HX9.out.2.2.later hb10⟩
  clear hb10 HX9 q0 q1 q2' q3
  have q2' := HX10.out.2.2.1.c0
  have q3 := HX10.out.2.2.1.c1
  have hmk := markProof_any _ _ gb5 gs5 B S w10 HX10.out.2.2.2.1 HX10.out.2.2.2.2 HJ5.out.2.2.1
  obtain ⟨A9, hA9⟩ : ∃ A9 : Int, ((1 + 2 * B.length + S.length : Nat) : Int) = A9 := ⟨_, rfl⟩
  have hA90 : ¬ A9 < 0 := by omega
  rw [hA9] at hmk
  have HHD : Hid (∀ W, RW 2 lcs W (.slice ab5 B.length cb5) gb5 (lmarks 1 B.length) → TS W (.slice aS5 S.length cS5) gs5 (marks (1 + 2 * B.length) S.length) → Calls Tryz.prog 25 #[.agg #[.slice ab5 B.length cb5, .slice aS5 S.length cS5], .int .i64 1] W fun e w' => e = .returned (.int .i64 A9) ∧ Below W.heap.size W w') := fun W h1 h2 => by rw [← hA9]; exact heldProof_any _ _ gb5 gs5 _ _ W h1 h2
  clear hA9
  go_wp2_with fail
  refine hmk.mono ?_
  rintro e_ w11 ⟨rfl, hr11, ht11, wm, hgm1, hgm2⟩
  have HX11 : Hid (LkM w w1 w11 [.int .i64 a, .int .i64 k, .bool u, .slice ad nd cd, .int .i64 e, .slice av nv cv, .slice at2 nt ct, .slice aa na ca, .int .i64 r0, .int .i64 r1, .int .i64 r2] ∧ PbX w11 w3.heap.size (.slice ab3 B.length cb3) (.slice aS3 S.length cS3) gb3 gs3 B S ∧ PbX w11 w5.heap.size (.slice ab5 B.length cb5) (.slice aS5 S.length cS5) gb5 gs5 (lmarks 1 B.length) (marks (1 + 2 * B.length) S.length)) := by
    obtain ⟨⟨k1, k2, k3⟩, k6, k7⟩ := HX10.out
    obtain ⟨j1, j2, j3, j4, j5, j6, j7⟩ := HJ.out
    obtain ⟨i1, i2, i3, i4, i5, i6, i7⟩ := HJ5.out
    have z1 := k6.grown hgm1 (rowF_ne fun _ => by omega) (fun hp => rowF_ne fun _ => by have := j1 hp; omega) (fun hp => rowF_ne fun _ => by have := j2 hp; omega)
    have b1 := k1.grown hgm1 k1.size (rowF_le (by omega))
    have b2 := k2.grown hgm1 k2.size (rowF_le (by omega))
    have b3 := k3.grown hgm1 (rowF_ne fun _ => by omega)
    have pm := k7.1.keep (hgm1.block _ k7.1.lt (rowF_ne fun hp => by have := i4 hp; omega))
    exact ⟨⟨b1.grown hgm2 b1.size (rowOf_leT (by omega)), b2.grown hgm2 b2.size (rowOf_leT (by omega)), b3.grown hgm2 (rowOf_ne fun _ => by omega)⟩, z1.grown hgm2 (rowOf_ne fun _ => by omega) (fun hp => rowOf_ne fun _ => by have := j1 hp; omega) (fun hp => rowOf_ne fun _ => by have := j2 hp; omega), ⟨pm.keep (hgm2.block _ pm.lt (rowOf_ne fun hp => by have := i5 hp; omega)), hr11, ht11⟩⟩
  clear hmk hr11 ht11 hgm1 hgm2 HX10 q2' q3 HJ HJ5
  have q2' := HX11.out.2.2.1.c0
  have q3 := HX11.out.2.2.1.c1
  go_wp2_with fail
  refine (HHD.out _ HX11.out.2.2.2.1 HX11.out.2.2.2.2).mono ?_
  rintro e_ w12 ⟨rfl, hb12⟩
  have HX12 : Hid (LkM w w1 w12 [.int .i64 a, .int .i64 k, .bool u, .slice ad nd cd, .int .i64 e, .slice av nv cv, .slice at2 nt ct, .slice aa na ca, .int .i64 r0, .int .i64 r1, .int .i64 r2] ∧ PbX w12 w3.heap.size (.slice ab3 B.length cb3) (.slice aS3 S.length cS3) gb3 gs3 B S ∧ PbX w12 w5.heap.size (.slice ab5 B.length cb5) (.slice aS5 S.length cS5) gb5 gs5 (lmarks 1 B.length) (marks (1 + 2 * B.length) S.length)) := ⟨HX11.out.1.later hb12, HX11.out.2.1.later hb12, HX11.out.2.2.later hb12⟩
  clear hb12 HX11 q2' q3
  obtain ⟨z0, z1, z2, z3, z4, z5, z6, z7, z8, z9, z10⟩ := HX12.out.1.2.2.all11
  go_wp2_with fail
  refine (HT.out _ HX12.out.1.2.1).mono ?_
  rintro e_ w13 ⟨gd13, gv13, b313, e313, ga13, rfl, hm13, hb13⟩
  have HX13 : Hid (LkM w w1 w13 [.int .i64 a, .int .i64 k, .bool u, .slice ad nd cd, .int .i64 e, .slice av nv cv, .slice at2 nt ct, .slice aa na ca, .int .i64 r0, .int .i64 r1, .int .i64 r2] ∧ PbX w13 w3.heap.size (.slice ab3 B.length cb3) (.slice aS3 S.length cS3) gb3 gs3 B S ∧ PbX w13 w5.heap.size (.slice ab5 B.length cb5) (.slice aS5 S.length cS5) gb5 gs5 (lmarks 1 B.length) (marks (1 + 2 * B.length) S.length)) := ⟨HX12.out.1.later hb13, HX12.out.2.1.later hb13, HX12.out.2.2.later hb13⟩
  clear hb13 HX12 z0 z1 z2 z3 z4 z5 z6 z7 z8 z9 z10
  go_wp2_with fail
  refine (HI'.out _ _ _ _ _ _ HX13.out.1.1 hm13.svs).mono ?_
  rintro e_ w14 ⟨ab14, cb14, aS14, cS14, gb14, gs14, rfl, rb14, ts14, _, _, _, hb14⟩
  have hba14 : Below w14.heap.size w14 (w14.alloc (.cells #[.slice ab14 B.length cb14, .slice aS14 S.length cS14] 55)) := below_alloc _ _
  have HX14 : Hid (LkM w w1 (w14.alloc (.cells #[.slice ab14 B.length cb14, .slice aS14 S.length cS14] 55)) [.int .i64 a, .int .i64 k, .bool u, .slice ad nd cd, .int .i64 e, .slice av nv cv, .slice at2 nt ct, .slice aa na ca, .int .i64 r0, .int .i64 r1, .int .i64 r2] ∧ PbX (w14.alloc (.cells #[.slice ab14 B.length cb14, .slice aS14 S.length cS14] 55)) w3.heap.size (.slice ab3 B.length cb3) (.slice aS3 S.length cS3) gb3 gs3 B S ∧ PbX (w14.alloc (.cells #[.slice ab14 B.length cb14, .slice aS14 S.length cS14] 55)) w5.heap.size (.slice ab5 B.length cb5) (.slice aS5 S.length cS5) gb5 gs5 (lmarks 1 B.length) (marks (1 + 2 * B.length) S.length) ∧ PbX (w14.alloc (.cells #[.slice ab14 B.length cb14, .slice aS14 S.length cS14] 55)) w14.heap.size (.slice ab14 B.length cb14) (.slice aS14 S.length cS14) gb14 gs14 B S) := ⟨(HX13.out.1.later hb14).later hba14, (HX13.out.2.1.later hb14).later hba14, (HX13.out.2.2.later hb14).later hba14, PbX.new rb14 ts14⟩
  clear hm13 hb14 hba14 rb14 ts14 HX13 HI' HT
  have q0 := HX14.out.2.1.1.c0
  have q1 := HX14.out.2.1.1.c1
  have q2' := HX14.out.2.2.2.1.c0
  have q3 := HX14.out.2.2.2.1.c1
  go_wp2_with fail
  refine (HX14.out.2.2.2.eq HX14.out.2.1).mono ?_
  rintro e_ w15 ⟨rfl, hb15⟩
  have HX15 : Hid (PbX w15 w5.heap.size (.slice ab5 B.length cb5) (.slice aS5 S.length cS5) gb5 gs5 (lmarks 1 B.length) (marks (1 + 2 * B.length) S.length) ∧ Below w.heap.size w w15) := ⟨HX14.out.2.2.1.later hb15, (HX14.out.1.later hb15).1⟩
  clear hb15 HX14 q0 q1 q2' q3
  have q2' := HX15.out.1.1.c0
  have q3 := HX15.out.1.1.c1
  go_wp2_with fail
  refine (HHD.out _ HX15.out.1.2.1 HX15.out.1.2.2).mono ?_
  rintro e_ w16 ⟨rfl, hb16⟩
  have b16 := HX15.out.2.trans (hb16.mono HX15.out.2.size)
  clear hb16 HX15 HHD q2' q3
  go_wp2
  go_ret
  exact ⟨rfl, b16⟩

end Go.Proofs.YtklpanjedolkdaaGreatDoor
