/-
  Texts laid together: Sm, Sqt, Sq, Lq, Nb.
-/
import Derived.Test.YtfiapodjiifmaaaGreatDoorPkP5
import Derived.Lib.QuietBelow
import Derived.Laws.StructEq
import Derived.Test.YtfiapodjiifmaaaGreatDoorPkP4
import Derived.Test.YtfiapodjiifmaaaGreatDoorPkP7
import Derived.Test.YtfiapodjiifmaaaGreatDoorPkP11
/-
  Two lists of leaves held against one another by the laws.
-/
namespace Go.Proofs.YtfiapodjiifmaaaGreatDoor
open Go.RowKit Go.BigFrame Go.Sort
set_option linter.unusedVariables false
set_option linter.unusedSimpArgs false

/-- two leaves compared as values -/
theorem neqL (a b : ByteArray) (w : World) : (binOp .neq 53 (.agg #[.string a, .string b]) (.agg #[.string a, .string b])).run Tryz.prog w = .ok (.bool false) w := by
  have u9 := Tryz.underlying9
  have a9 := Tryz.isAgg9
  have z9 := Tryz.sizeOf9
  have hS : Tryz.prog.underlying 53 = some (.struct (Tryz.prog.fieldsOf 53)) := by kernel_rfl
  have hp : Tryz.prog.stoodInHeld 53 = false := by kernel_rfl
  rw [run_neq_struct, show (10000 : Nat) = 9999 + 1 from rfl, run_equalIn_agg w 9999 53 _ _ hS hp]
  simp only [Program.fieldsOf, Tryz.underlying53]
  go_simp
theorem guardL : Tryz.prog.eqGuardType Tryz.prog.depth 53 = false := by kernel_rfl

set_option maxRecDepth 100000 in
set_option maxHeartbeats 400000 in
theorem sameLeaves_yes (u v : Value) (ga oa gb ob : Nat) (l : List Le) (w : World) (hu : RS 2 lcs w u ga oa l) (hv : RS 2 lcs w v gb ob l) :
    Calls Tryz.prog 43 #[u, v] w fun e w' => e = .returned (.bool true) ∧ Below w.heap.size w w' := by
  have HU : Hid (RS 2 lcs w u ga oa l) := hu
  have HV : Hid (RS 2 lcs w v gb ob l) := hv
  obtain ⟨a, cap, rfl, hl, hA, _⟩ := hu
  obtain ⟨b, cap2, rfl, _, hB, _⟩ := hv
  obtain ⟨n, hn⟩ : ∃ n, l.length = n := ⟨_, rfl⟩
  have HA : Hid (0 < n → a = some ⟨ga, oa, none⟩ ∧ b = some ⟨gb, ob, none⟩) := by rw [← hn]; exact fun h => ⟨(hA h).1, (hB h).1⟩
  rw [hn] at hl ⊢
  clear hA hB
  have hgd := guardL
  go_enter Tryz.func43, Tryz.ntmps43
  go_wp2
  go_loopw [5] (fun i wr => ElR n w i wr) (fun i _ => n - (intOf i).toNat)
  case atStart => exact ⟨0, by omega, rfl, Below.refl _ _⟩
  case round =>
    obtain ⟨m, hm, rfl, hbel⟩ := hrel
    by_cases hlt : m < n
    · obtain ⟨ea, eb⟩ := HA.out (by omega)
      subst ea
      subst eb
      obtain ⟨c0, c1⟩ := (HU.out.later hbel).leaf m (by omega)
      obtain ⟨e0, e1⟩ := (HV.out.later hbel).leaf m (by omega)
      generalize l[m]'(by omega) = X at *
      have i1 : (m : Int) < (n : Int) := by omega
      have i2 : (0 : Int) ≤ (m : Int) := by omega
      have hneq := neqL X.n X.v
      clear HU HV HA
      go_wp2
      have kq0 := cell_regrown (w := wr) c0
      have kq1 := cell_regrown (w := wr) c1
      have kq3 := cell_regrown (w := wr) e0
      have kq4 := cell_regrown (w := wr) e1
      refine wp_region_quiet_below (by kernel_rfl) (by kernel_rfl) ?_
      repeat (go_big_quiet_step (fail))
      refine wpQuiet_nil ?_
      rintro _ ⟨⟨dq, osq⟩, rfl⟩
      have hb6 := below_regrown (wr) dq osq
      generalize grow (redrawn (wr) dq) osq = w6 at *
      clear kq0 kq1 kq3 kq4
      go_wp2
      go_roundw
      case rel => exact ⟨m + 1, by omega, by go_num, hbel.trans (hb6.mono hbel.size)⟩
      case measure => simp [intOf]; omega
    · have hme : m = n := by omega
      subst hme
      clear HU HV HA
      go_wp2
      go_ret
      exact ⟨rfl, hbel⟩

end Go.Proofs.YtfiapodjiifmaaaGreatDoor
/-
  Two rows of texts held against one another by the laws.
-/
namespace Go.Proofs.YtfiapodjiifmaaaGreatDoor
open Go.RowKit Go.BigFrame Go.Sort
set_option linter.unusedVariables false
set_option linter.unusedSimpArgs false

set_option maxRecDepth 100000 in
set_option maxHeartbeats 400000 in
theorem sameTexts_yes (va vb : Value) (ga oa gb ob : Nat) (l : List ByteArray) (w : World) (ha : SS w va ga oa l) (hb : SS w vb gb ob l) :
    Calls Tryz.prog 44 #[va, vb] w fun e w' => e = .returned (.bool true) ∧ ∃ q, w' = w.drewN q := by
  obtain ⟨a, ca, rfl, hl, hA, hcA⟩ := ha
  obtain ⟨b, cb, rfl, _, hB, hcB⟩ := hb
  obtain ⟨n, hn⟩ : ∃ n, l.length = n := ⟨_, rfl⟩
  rw [hn] at hl ⊢
  have HA : Hid (0 < n → a = some ⟨ga, oa, none⟩) := by rw [← hn]; exact hA
  have HB : Hid (0 < n → b = some ⟨gb, ob, none⟩) := by rw [← hn]; exact hB
  clear hA hB
  go_enter Tryz.func44, Tryz.ntmps44
  go_wp2
  go_loopw [5] (fun i wr => EqS n w i wr) (fun i _ => n - (intOf i).toNat)
  case atStart => exact ⟨0, 0, by omega, rfl, rfl⟩
  case round =>
    obtain ⟨m, q, hm, rfl, rfl⟩ := hrel
    by_cases hlt : m < n
    · have ea := HA.out (by omega)
      have eb := HB.out (by omega)
      subst ea
      subst eb
      have c1 := hcA m (by omega)
      have c2 := hcB m (by omega)
      generalize l[m]'(by omega) = X at *
      have i1 : (m : Int) < (n : Int) := by omega
      have i2 : (0 : Int) ≤ (m : Int) := by omega
      clear hcA hcB HA HB
      go_wp2
      go_quiet (fail)
      go_wp2
      go_roundw
      case rel => exact ⟨m + 1, _, by omega, by go_num, rfl⟩
      case measure => simp [intOf]; omega
    · have hme : m = n := by omega
      subst hme
      clear hcA hcB HA HB
      go_wp2
      go_ret
      exact ⟨rfl, q, rfl⟩

end Go.Proofs.YtfiapodjiifmaaaGreatDoor
/-
  Two proofs held against one another by the laws.
-/
namespace Go.Proofs.YtfiapodjiifmaaaGreatDoor
open Go.RowKit Go.BigFrame Go.Sort
set_option linter.unusedVariables false
set_option linter.unusedSimpArgs false

set_option maxRecDepth 100000 in
set_option maxHeartbeats 1000000 in
theorem sameProof_yes (v1 v2 u1 u2 : Value) (g1 o1 g2 o2 p1 q1 p2 q2 : Nat) (B : List Le) (S : List ByteArray) (w : World) (h1 : RS 2 lcs w v1 g1 o1 B) (h2 : SS w v2 g2 o2 S) (k1 : RS 2 lcs w u1 p1 q1 B) (k2 : SS w u2 p2 q2 S) :
    Calls Tryz.prog 16 #[.agg #[v1, v2], .agg #[u1, u2]] w fun e w' => e = .returned (.bool true) ∧ Below w.heap.size w w' := by
  have H1 : Hid (∀ W, Below w.heap.size w W → Calls Tryz.prog 43 #[v1, u1] W fun e w' => e = .returned (.bool true) ∧ Below W.heap.size W w') := fun W hW => sameLeaves_yes v1 u1 g1 o1 p1 q1 B W (h1.later hW) (k1.later hW)
  have H2 : Hid (∀ W, Below w.heap.size w W → Calls Tryz.prog 44 #[v2, u2] W fun e w' => e = .returned (.bool true) ∧ ∃ q, w' = W.drewN q) := fun W hW => sameTexts_yes v2 u2 g2 o2 p2 q2 S W (h2.below hW h2.lt) (k2.below hW k2.lt)
  have HB : Hid (∀ x y : Obj, Below w.heap.size w ((w.alloc x).alloc y)) := fun x y => ((Below.refl _ _).alloc (Nat.le_refl _) _).alloc (by simp) _
  obtain ⟨a1, d1, rfl⟩ := h1.shape
  obtain ⟨a2, d2, rfl⟩ := k1.shape
  obtain ⟨a3, d3, rfl, x2, y2⟩ := h2
  obtain ⟨a4, d4, rfl, x4, y4⟩ := k2
  clear x2 x4 y2 y4 h1 k1
  generalize B.length = n1 at *
  generalize S.length = n2 at *
  go_enter Tryz.func16, Tryz.ntmps16
  go_wp2_with fail
  refine (H1.out _ (HB.out _ _)).mono ?_
  rintro e w1 ⟨rfl, hb1⟩
  have c00 : (w.alloc (.cells #[.slice a1 n1 d1, .slice a3 n2 d3] 29)).cell? ⟨w.heap.size, 1, none⟩ = some (.slice a3 n2 d3) := World.cell?_alloc_at _ _ _ _ rfl
  have c0 : w1.cell? ⟨w.heap.size, 1, none⟩ = some (.slice a3 n2 d3) := cell_up (cell_up c00 ((Below.refl _ _).alloc (Nat.le_refl _) (.cells #[.slice a2 n1 d2, .slice a4 n2 d4] 29))) hb1
  have c1 : w1.cell? ⟨w.heap.size + 1, 1, none⟩ = some (.slice a4 n2 d4) := cell_up (by rw [World.cell?_alloc_at _ _ _ _ (by simp)]; rfl) hb1
  clear c00
  have b1 := (HB.out _ _).trans (hb1.mono (HB.out _ _).size)
  go_wp2_with fail
  refine (H2.out _ b1).mono ?_
  rintro e w' ⟨rfl, q2, rfl⟩
  go_wp2
  go_ret
  exact ⟨rfl, below_drn b1 _⟩

end Go.Proofs.YtfiapodjiifmaaaGreatDoor
/-
  What putting and dropping a leaf answers: the list that is left, and whether it was done.
-/
namespace Go.Proofs.YtfiapodjiifmaaaGreatDoor
open Go.RowKit Go.BigFrame Go.Sort
set_option linter.unusedVariables false

/-- a list answered, and whether -/
def LqP (M : List Le) (R : Bool) (w : World) (e : Ending) (w' : World) : Prop := ∃ a cap g, e = .returned (.tuple #[.slice a M.length cap, .bool R]) ∧ RW 2 lcs w' (.slice a M.length cap) g M ∧ w.heap.size ≤ g ∧ Below w.heap.size w w'
/-- a list answered, and whether; where it is nil it has no room -/
def LqN (M : List Le) (R : Bool) (w : World) (e : Ending) (w' : World) : Prop := ∃ a cap g, e = .returned (.tuple #[.slice a M.length cap, .bool R]) ∧ RW 2 lcs w' (.slice a M.length cap) g M ∧ w.heap.size ≤ g ∧ Below w.heap.size w w' ∧ (a = none → cap = 0)
theorem LqN.plain {M : List Le} {R : Bool} {w w' : World} {e : Ending} (h : LqN M R w e w') : LqP M R w e w' := by
  obtain ⟨a, cap, g, h1, h2, h3, h4, _⟩ := h
  exact ⟨a, cap, g, h1, h2, h3, h4⟩
theorem OL.nil0 {B : Nat} {w0 w : World} {a : Option Addr} {n cap : Nat} {l : List Le} (h : OL B w0 w (.slice a n cap) l) : a = none → cap = 0 := by
  obtain ⟨⟨_, h1⟩, _, _⟩ := h
  rcases h1 with ⟨h1, _⟩ | ⟨g, c, cur, h1, _⟩
  · simp at h1; exact fun _ => h1.2.2
  · simp at h1; exact fun e => by rw [e] at h1; simp at h1
theorem putR_no {L : List Le} {f : Le} (h : LV.putB L f = false) : LV.putR L f = L := by unfold LV.putR; rw [h]; rfl
theorem putR_yes {L : List Le} {f : Le} (h : LV.putB L f = true) : LV.putR L f = LV.put L f := by unfold LV.putR; rw [h]; rfl
theorem dropR_no {L : List Le} {x : ByteArray} (h : LV.dropB L x = false) : LV.dropR L x = L := by unfold LV.dropR; rw [h]; rfl
theorem dropR_yes {L : List Le} {x : ByteArray} (h : LV.dropB L x = true) : LV.dropR L x = LV.wout L x := by unfold LV.dropR; rw [h]; rfl

end Go.Proofs.YtfiapodjiifmaaaGreatDoor
/-
  A leaf put into a list: the specification's answer.
-/
namespace Go.Proofs.YtfiapodjiifmaaaGreatDoor
open Go.RowKit Go.BigFrame Go.Sort
set_option linter.unusedVariables false
set_option linter.unusedSimpArgs false

theorem put_wout (L : List Le) (f : Le) : (LV.wout L f.n).filter (fun g => F.ltN g.n f.n) ++ [f] ++ (LV.wout L f.n).filter (fun g => F.ltN f.n g.n) = LV.put L f := by
  unfold LV.put LV.wout
  rw [List.filter_filter, List.filter_filter, List.append_assoc]
  have e1 : (fun a : Le => F.ltN a.n f.n && !decide (a.n = f.n)) = fun a => F.ltN a.n f.n := by
    funext a
    cases h : F.ltN a.n f.n
    · rfl
    · rw [decide_eq_false (F.ltN_ne h)]; rfl
  have e2 : (fun a : Le => F.ltN f.n a.n && !decide (a.n = f.n)) = fun a => F.ltN f.n a.n := by
    funext a
    cases h : F.ltN f.n a.n
    · rfl
    · rw [decide_eq_false (fun e => F.ltN_ne h e.symm)]; rfl
  rw [e1, e2]
  rfl
theorem small_put {L : List Le} {f : Le} (h : SmallL L) (hn : f.n.size ≤ 1048576) (hv : f.v.size ≤ 1048576) : SmallL (LV.put L f) := fun g hg => by
  rcases LV.mem_put.1 hg with rfl | ⟨h1, _⟩
  · exact ⟨hn, hv⟩
  · exact h g h1

/-- what grows, and the row that it is taken of -/
def NbS (w wr : World) (u : Value) (l : List Le) (v : Value) (g : Nat) (K : List Le) : Prop := OL w.heap.size w wr u l ∧ RS 2 lcs wr v g 0 K ∧ (0 < K.length → u.ownBlock ≠ some g ∧ g < wr.heap.size)
theorem NbS.later {w wr W : World} {u v : Value} {l K : List Le} {g : Nat} (h : NbS w wr u l v g K) (hb : Below wr.heap.size wr W) : NbS w W u l v g K := ⟨h.1.later hb, h.2.1.later hb, fun hp => ⟨(h.2.2 hp).1, Nat.lt_of_lt_of_le (h.2.2 hp).2 hb.size⟩⟩
theorem NbS.app {w wr W : World} {u v : Value} {l l' K : List Le} {g g5 n5 cap5 : Nat} (h : NbS w wr u l v g K) (ho : OL w.heap.size w W (.slice (some ⟨g5, 0, none⟩) n5 cap5) l') (hg : wr.grownBy W u.ownBlock) (hl : u.ownBlock = some g5 ∨ g5 = wr.heap.size) : NbS w W (.slice (some ⟨g5, 0, none⟩) n5 cap5) l' v g K := by
  refine ⟨ho, h.2.1.grown hg (fun hp => fun e => (h.2.2 hp).1 e.symm), fun hp => ⟨?_, Nat.lt_of_lt_of_le (h.2.2 hp).2 hg.size⟩⟩
  intro e
  have e5 : g5 = g := by simpa [Value.ownBlock] using e
  rcases hl with h1 | h1
  · exact (h.2.2 hp).1 (by rw [h1, e5])
  · have := (h.2.2 hp).2
    omega

theorem le_of_notL {a b : ByteArray} (h : F.ltN b a = false) : (Op.bytesLess a.toList b.toList || a.toList == b.toList) = true := by
  rcases F.ltN_tri a b with h1 | h1 | h1
  · have : Op.bytesLess a.toList b.toList = true := h1
    rw [this]; rfl
  · subst h1; simp
  · rw [h] at h1; cases h1
theorem gt_ofL {a b : ByteArray} (h : F.ltN b a = true) : (Op.bytesLess a.toList b.toList || a.toList == b.toList) = false := by
  have h1 : Op.bytesLess a.toList b.toList = false := F.ltN_asymm h
  rw [h1, LV.bytes_ne (F.ltN_ne h).symm]
  rfl
def ltP (x : ByteArray) (g : Le) : Bool := F.ltN g.n x
def gtP (x : ByteArray) (g : Le) : Bool := F.ltN x g.n
/-- the first m leaves that P wants, behind those of l0 -/
def flL (l0 : List Le) (P : Le → Bool) (K : List Le) (m : Nat) : List Le := l0 ++ (K.take m).filter P
theorem flL_step (l0 : List Le) (P : Le → Bool) (K : List Le) (m : Nat) (h : m < K.length) : flL l0 P K (m + 1) = if P K[m] = true then flL l0 P K m ++ [K[m]] else flL l0 P K m := by
  unfold flL
  rw [LV.filt_step P h]
  split <;> simp
theorem flL_len (l0 : List Le) (P : Le → Bool) (K : List Le) (m : Nat) : (flL l0 P K m).length ≤ l0.length + K.length := by
  have := LV.filt_len K m P
  simp only [flL, List.length_append]
  omega
theorem flL_all (l0 : List Le) (P : Le → Bool) (K : List Le) : flL l0 P K K.length = l0 ++ K.filter P := by simp [flL]
theorem flL_zero (l0 : List Le) (P : Le → Bool) (K : List Le) : flL l0 P K 0 = l0 := by simp [flL]

def NbR (w : World) (l0 : List Le) (P : Le → Bool) (v : Value) (g : Nat) (K : List Le) (u i : Value) (wr : World) : Prop := ∃ (m : Nat) (au : Option Addr) (cu : Nat), m ≤ K.length ∧ i = .int .i64 m ∧ u = .slice au (flL l0 P K m).length cu ∧ Hid (NbS w wr u (flL l0 P K m) v g K)

set_option maxRecDepth 100000 in
set_option maxHeartbeats 4000000 in
theorem sLeafPutN_any (p : Option Addr) (cap : Nat) (ga oa : Nat) (L : List Le) (x y : ByteArray) (w : World) (hv : RS 2 lcs w (.slice p L.length cap) ga oa L) (hnil : p = none → cap = 0) (hsm : SmallL L) (hL : L.length ≤ 1048576) (hn : x.size ≤ 1048576) (hvs : y.size ≤ 1048576) :
    Calls Tryz.prog 46 #[.slice p L.length cap, .string x, .string y] w (LqN (LV.putR L ⟨x, y⟩) (LV.putB L ⟨x, y⟩) w) := by
  have HV : Hid (RS 2 lcs w (.slice p L.length cap) ga oa L ∧ SmallL L ∧ SmallL (LV.put L ⟨x, y⟩)) := ⟨hv, hsm, small_put hsm hn hvs⟩
  have hb1 : Below w.heap.size w (w.alloc (.cells #[] 53)) := (Below.refl _ _).alloc (Nat.le_refl _) _
  have hW := l09Without_any _ ga oa L x _ (hv.later hb1)
  have ho1 : OL w.heap.size w (w.alloc (.cells #[] 53)) (.slice (some ⟨w.heap.size, 0, none⟩) 0 0) [] := OL.made _ w w (Below.refl _ _) (Nat.le_refl _)
  have HO1 : Hid (OL w.heap.size w (w.alloc (.cells #[] 53)) (.slice (some ⟨w.heap.size, 0, none⟩) 0 0) []) := ho1
  have hKl : (LV.wout L x).length ≤ L.length := LV.len_wout_le L x
  have hPl : (LV.put L ⟨x, y⟩).length ≤ 1100000 := by rw [LV.len_put]; show (LV.wout L x).length + 1 ≤ 1100000; omega
  have HPW : Hid ((LV.wout L x).filter (ltP x) ++ [⟨x, y⟩] ++ (LV.wout L x).filter (gtP x) = LV.put L ⟨x, y⟩) := put_wout L ⟨x, y⟩
  clear hv hsm hb1 ho1
  go_enter Tryz.func46, Tryz.ntmps46
  go_wp2_with fail
  refine hW.mono ?_
  rintro e w2 ⟨u2, rfl, ho2⟩
  obtain ⟨g2, hr2, hg2, _⟩ := ho2.rw (by omega)
  obtain ⟨a2, c2, rfl⟩ := ho2.shape
  generalize LV.wout L x = K at *
  have HST : Hid (NbR w [] (ltP x) (.slice a2 K.length c2) g2 K (.slice (some ⟨w.heap.size, 0, none⟩) 0 0) (.int .i64 0) w2) := by
    refine ⟨0, some ⟨w.heap.size, 0, none⟩, 0, by omega, rfl, by simp [flL], ?_⟩
    rw [flL_zero]
    refine ⟨HO1.out.later ho2.2.1, hr2.1, fun hp => ⟨?_, hr2.lt hp⟩⟩
    intro e
    have e5 : w.heap.size = g2 := by simpa [Value.ownBlock] using e
    simp at hg2
    omega
  have HA2 : Hid (0 < K.length → a2 = some ⟨g2, 0, none⟩) := fun hp => by
    obtain ⟨⟨a', c', ev, _, h1, _⟩, _⟩ := hr2
    simp at ev
    rw [ev.1]
    exact (h1 hp).1
  clear hW ho2 hr2 hg2 HO1
  go_wp2
  go_loopw [8, 10] (fun u i wr => NbR w [] (ltP x) (.slice a2 K.length c2) g2 K u i wr) (fun _ i _ => K.length - (intOf i).toNat)
  case atStart => exact HST.out
  case round =>
    obtain ⟨m, au, cu, hm, rfl, rfl, HI⟩ := hrel
    clear HST
    by_cases hlt : m < K.length
    · have ea := HA2.out (by omega)
      subst ea
      obtain ⟨c0, c1⟩ := HI.out.2.1.leaf m hlt
      obtain ⟨X, hX⟩ : ∃ X, K[m]'hlt = X := ⟨_, rfl⟩
      rw [hX, Nat.zero_add] at c0 c1
      have hst := flL_step [] (ltP x) K m hlt
      rw [hX] at hst
      have hle : (flL [] (ltP x) K m).length ≤ K.length := by simpa using flL_len [] (ltP x) K m
      have i1 : (m : Int) < (K.length : Int) := by omega
      have i2 : (0 : Int) ≤ (m : Int) := by omega
      clear hX
      cases hk : ltP x X
      · have q : Op.bytesLess X.n.toList x.toList = false := hk
        rw [hk] at hst
        have HJ : Hid (NbS w wr (.slice au (flL [] (ltP x) K m).length cu) (flL [] (ltP x) K (m + 1)) (.slice (some ⟨g2, 0, none⟩) K.length c2) g2 K ∧ (flL [] (ltP x) K m).length = (flL [] (ltP x) K (m + 1)).length) := by rw [hst]; exact ⟨HI.out, rfl⟩
        generalize hl : flL [] (ltP x) K m = l at *
        clear HI hst hk hl
        go_wp2
        go_roundw
        case rel => exact ⟨m + 1, au, cu, by omega, by go_num, by rw [← HJ.out.2], HJ.out.1⟩
        case measure => simp [intOf]; omega
      · have q : Op.bytesLess X.n.toList x.toList = true := hk
        rw [hk] at hst
        have HJ : Hid (flL [] (ltP x) K (m + 1) = flL [] (ltP x) K m ++ [X]) := hst
        generalize hl : flL [] (ltP x) K m = l at *
        have hba : Below wr.heap.size wr (wr.alloc (.cells #[.string X.n, .string X.v] 53)) := (Below.refl _ _).alloc (Nat.le_refl _) _
        have HSA : Hid (NbS w (wr.alloc (.cells #[.string X.n, .string X.v] 53)) (.slice au l.length cu) l (.slice (some ⟨g2, 0, none⟩) K.length c2) g2 K) := HI.out.later hba
        have HRN : Hid ((wr.alloc (.cells #[.string X.n, .string X.v] 53)).rangeAt wr.heap.size 0 (lcs X)) := range_new _ [.string X.n, .string X.v] 53
        clear hba HI hst hk hl
        go_wp2_with (at_builtin; refine wp_leafL rfl _ _ rfl w.heap.size w (.slice au l.length cu) l X rfl HSA.out.1 _ rfl HRN.out (by omega) ?_)
        intro g5 cap5 w5 ho5 hg5 hl5
        have HK : Hid (NbS w w5 (.slice (some ⟨g5, 0, none⟩) (l.length + 1) cap5) (flL [] (ltP x) K (m + 1)) (.slice (some ⟨g2, 0, none⟩) K.length c2) g2 K ∧ l.length + 1 = (flL [] (ltP x) K (m + 1)).length) := ⟨HSA.out.app (by rw [HJ.out]; exact ho5) hg5 (by simpa using hl5), by rw [HJ.out]; simp⟩
        clear ho5 hg5 hl5 HSA HRN HJ c0 c1
        go_wp2
        go_roundw
        case rel => exact ⟨m + 1, _, _, by omega, by go_num, by rw [← HK.out.2], HK.out.1⟩
        case measure => simp [intOf]; omega
    · have hme : m = K.length := by omega
      subst hme
      have hfl := flL_all [] (ltP x) K
      have hle := flL_len [] (ltP x) K K.length
      have HPW2 : Hid ((flL [] (ltP x) K K.length ++ [⟨x, y⟩]) ++ K.filter (gtP x) = LV.put L ⟨x, y⟩) := by rw [hfl, List.nil_append]; exact HPW.out
      generalize flL [] (ltP x) K K.length = l at *
      have hba : Below wr.heap.size wr (wr.alloc (.cells #[.string x, .string y] 53)) := (Below.refl _ _).alloc (Nat.le_refl _) _
      have HSA : Hid (NbS w (wr.alloc (.cells #[.string x, .string y] 53)) (.slice au l.length cu) l (.slice a2 K.length c2) g2 K) := HI.out.later hba
      have HRN : Hid ((wr.alloc (.cells #[.string x, .string y] 53)).rangeAt wr.heap.size 0 (lcs ⟨x, y⟩)) := range_new _ [.string x, .string y] 53
      clear hba HI hfl HPW
      go_wp2_with (at_builtin; refine wp_leafL rfl _ _ rfl w.heap.size w (.slice au l.length cu) l ⟨x, y⟩ rfl HSA.out.1 _ rfl HRN.out (by simp at hle; omega) ?_)
      intro g5 cap5 w5 ho5 hg5 hl5
      have HS5 : Hid (NbS w w5 (.slice (some ⟨g5, 0, none⟩) (l.length + 1) cap5) (l ++ [⟨x, y⟩]) (.slice a2 K.length c2) g2 K ∧ l.length + 1 = (l ++ [(⟨x, y⟩ : Le)]).length) := ⟨HSA.out.app ho5 hg5 (by simpa using hl5), by simp⟩
      have hl2 : (l ++ [(⟨x, y⟩ : Le)]).length ≤ K.length + 1 := by simp at hle ⊢; omega
      clear ho5 hg5 hl5 HSA HRN hle
      generalize l ++ [(⟨x, y⟩ : Le)] = l2 at *
      have HST : Hid (NbR w l2 (gtP x) (.slice a2 K.length c2) g2 K (.slice (some ⟨g5, 0, none⟩) (l.length + 1) cap5) (.int .i64 0) w5) := by
        refine ⟨0, some ⟨g5, 0, none⟩, cap5, by omega, rfl, by rw [flL_zero, HS5.out.2], ?_⟩
        rw [flL_zero]
        exact HS5.out.1
      clear HS5
      generalize l.length + 1 = n5 at *
      go_wp2
      go_loopw [8, 11] (fun u i wr => NbR w l2 (gtP x) (.slice a2 K.length c2) g2 K u i wr) (fun _ i _ => K.length - (intOf i).toNat)
      case atStart => exact HST.out
      case round =>
        obtain ⟨m, au, cu, hm, rfl, rfl, HI⟩ := hrel
        clear HST
        by_cases hlt : m < K.length
        · have ea := HA2.out (by omega)
          subst ea
          obtain ⟨c0, c1⟩ := HI.out.2.1.leaf m hlt
          obtain ⟨X, hX⟩ : ∃ X, K[m]'hlt = X := ⟨_, rfl⟩
          rw [hX, Nat.zero_add] at c0 c1
          have hst := flL_step l2 (gtP x) K m hlt
          rw [hX] at hst
          have hle : (flL l2 (gtP x) K m).length ≤ l2.length + K.length := by simpa using flL_len l2 (gtP x) K m
          have i1 : (m : Int) < (K.length : Int) := by omega
          have i2 : (0 : Int) ≤ (m : Int) := by omega
          clear hX
          cases hk : gtP x X
          · have q : (Op.bytesLess X.n.toList x.toList || X.n.toList == x.toList) = true := le_of_notL hk
            rw [hk] at hst
            have HJ : Hid (NbS w wr (.slice au (flL l2 (gtP x) K m).length cu) (flL l2 (gtP x) K (m + 1)) (.slice (some ⟨g2, 0, none⟩) K.length c2) g2 K ∧ (flL l2 (gtP x) K m).length = (flL l2 (gtP x) K (m + 1)).length) := by rw [hst]; exact ⟨HI.out, rfl⟩
            generalize hl : flL l2 (gtP x) K m = l at *
            clear HI hst hk hl
            go_wp2
            go_roundw
            case rel => exact ⟨m + 1, au, cu, by omega, by go_num, by rw [← HJ.out.2], HJ.out.1⟩
            case measure => simp [intOf]; omega
          · have q : (Op.bytesLess X.n.toList x.toList || X.n.toList == x.toList) = false := gt_ofL hk
            rw [hk] at hst
            have HJ : Hid (flL l2 (gtP x) K (m + 1) = flL l2 (gtP x) K m ++ [X]) := hst
            generalize hl : flL l2 (gtP x) K m = l at *
            have hba : Below wr.heap.size wr (wr.alloc (.cells #[.string X.n, .string X.v] 53)) := (Below.refl _ _).alloc (Nat.le_refl _) _
            have HSA : Hid (NbS w (wr.alloc (.cells #[.string X.n, .string X.v] 53)) (.slice au l.length cu) l (.slice (some ⟨g2, 0, none⟩) K.length c2) g2 K) := HI.out.later hba
            have HRN : Hid ((wr.alloc (.cells #[.string X.n, .string X.v] 53)).rangeAt wr.heap.size 0 (lcs X)) := range_new _ [.string X.n, .string X.v] 53
            clear hba HI hst hk hl
            go_wp2_with (at_builtin; refine wp_leafL rfl _ _ rfl w.heap.size w (.slice au l.length cu) l X rfl HSA.out.1 _ rfl HRN.out (by omega) ?_)
            intro g5 cap5 w5 ho5 hg5 hl5
            have HK : Hid (NbS w w5 (.slice (some ⟨g5, 0, none⟩) (l.length + 1) cap5) (flL l2 (gtP x) K (m + 1)) (.slice (some ⟨g2, 0, none⟩) K.length c2) g2 K ∧ l.length + 1 = (flL l2 (gtP x) K (m + 1)).length) := ⟨HSA.out.app (by rw [HJ.out]; exact ho5) hg5 (by simpa using hl5), by rw [HJ.out]; simp⟩
            clear ho5 hg5 hl5 HSA HRN HJ c0 c1
            go_wp2
            go_roundw
            case rel => exact ⟨m + 1, _, _, by omega, by go_num, by rw [← HK.out.2], HK.out.1⟩
            case measure => simp [intOf]; omega
        · have hme : m = K.length := by omega
          subst hme
          have hfl : flL l2 (gtP x) K K.length = LV.put L ⟨x, y⟩ := by rw [flL_all]; exact HPW2.out
          have HI2 : Hid (OL w.heap.size w wr (.slice au (flL l2 (gtP x) K K.length).length cu) (LV.put L ⟨x, y⟩)) := by rw [← hfl]; exact HI.out.1
          rw [hfl] at HI2 ⊢
          clear HI hfl HPW2
          have h1 := sLeavesOk_any _ ga oa L wr (HV.out.1.later HI2.out.2.1) HV.out.2.1
          obtain ⟨gq, hrq, hgq, _⟩ := HI2.out.rw hPl
          have HO2 : Hid (∀ W, Below wr.heap.size wr W → Calls Tryz.prog 65 #[.slice au (LV.put L ⟨x, y⟩).length cu] W fun e w' => e = .returned (.bool (LV.leavesB (LV.put L ⟨x, y⟩))) ∧ Below W.heap.size W w') := fun W hW => sLeavesOk_any _ gq 0 _ W (hrq.1.later hW) HV.out.2.2
          have HRQ : Hid (RW 2 lcs wr (.slice au (LV.put L ⟨x, y⟩).length cu) gq (LV.put L ⟨x, y⟩) ∧ w.heap.size ≤ gq ∧ Below w.heap.size w wr ∧ (au = none → cu = 0)) := ⟨hrq, hgq, HI2.out.2.1, HI2.out.nil0⟩
          have HPB : Hid (LV.putB L ⟨x, y⟩ = (LV.leavesB L && LV.leavesB (LV.put L ⟨x, y⟩))) := LV.putB_spec L ⟨x, y⟩
          have HPN : Hid (LV.putB L ⟨x, y⟩ = false → LV.putR L ⟨x, y⟩ = L) := putR_no
          have HPY : Hid (LV.putB L ⟨x, y⟩ = true → LV.putR L ⟨x, y⟩ = LV.put L ⟨x, y⟩) := putR_yes
          have HNO : Hid (∀ W v', OL w.heap.size w W v' L → LV.putB L ⟨x, y⟩ = false → LqN (LV.putR L ⟨x, y⟩) (LV.putB L ⟨x, y⟩) w (.returned (.tuple #[v', .bool false])) W) := fun W v' ho hf => by
            rw [HPN.out hf, hf]
            obtain ⟨gz, hrz, hgz, _⟩ := ho.rw (by omega)
            obtain ⟨az, cz, rfl⟩ := ho.shape
            exact ⟨az, cz, gz, rfl, hrz, hgz, ho.2.1, ho.nil0⟩
          clear hrq hgq HI2
          generalize LV.put L ⟨x, y⟩ = M at *
          cases hR1 : LV.leavesB L
          · rw [hR1] at h1
            rw [hR1, Bool.false_and] at HPB
            go_wp2_with fail
            refine h1.mono ?_
            rintro e w6 ⟨rfl, hb6⟩
            have b6 : Below w.heap.size w w6 := HRQ.out.2.2.1.trans (hb6.mono HRQ.out.2.2.1.size)
            clear h1 hb6
            have ho6 : OL w.heap.size w (w6.alloc (.cells #[] 53)) (.slice (some ⟨w6.heap.size, 0, none⟩) 0 0) [] := OL.made _ w w6 b6 b6.size
            have hrs6 := HV.out.1.later (b6.alloc b6.size (.cells #[] 53))
            clear HO2 HRQ HPN HPY HV
            go_wp2_with (at_builtin; refine wp_rowL rfl _ _ rfl w.heap.size w w6.heap.size rfl ho6 p ga oa cap L rfl hrs6 hnil ?_)
            intro v' w7 ho7
            have HF := HNO.out w7 v' ho7 HPB.out
            have HF2 : Hid (LqN (LV.putR L ⟨x, y⟩) (LV.putB L ⟨x, y⟩) w (.returned (.tuple #[v', .bool false])) w7) := HF
            clear ho7 ho6 hrs6 HNO HF b6
            go_wp2
            go_ret2
            exact HF2.out
          · rw [hR1] at h1
            rw [hR1, Bool.true_and] at HPB
            go_wp2_with fail
            refine h1.mono ?_
            rintro e w6 ⟨rfl, hb6⟩
            clear h1
            go_wp2_with fail
            refine (HO2.out _ hb6).mono ?_
            rintro e w8 ⟨rfl, hb8⟩
            have hb9 : Below wr.heap.size wr w8 := hb6.trans (hb8.mono hb6.size)
            have b6 : Below w.heap.size w w8 := HRQ.out.2.2.1.trans (hb9.mono HRQ.out.2.2.1.size)
            cases hR2 : LV.leavesB M
            · rw [hR2] at HPB
              clear hb6 hb8 hb9
              have ho6 : OL w.heap.size w (w8.alloc (.cells #[] 53)) (.slice (some ⟨w8.heap.size, 0, none⟩) 0 0) [] := OL.made _ w w8 b6 b6.size
              have hrs6 := HV.out.1.later (b6.alloc b6.size (.cells #[] 53))
              clear HO2 HRQ HPN HPY HV
              go_wp2_with (at_builtin; refine wp_rowL rfl _ _ rfl w.heap.size w w8.heap.size rfl ho6 p ga oa cap L rfl hrs6 hnil ?_)
              intro v' w7 ho7
              have HF := HNO.out w7 v' ho7 HPB.out
              have HF2 : Hid (LqN (LV.putR L ⟨x, y⟩) (LV.putB L ⟨x, y⟩) w (.returned (.tuple #[v', .bool false])) w7) := HF
              clear ho7 ho6 hrs6 HNO HF b6
              go_wp2
              go_ret2
              exact HF2.out
            · rw [hR2] at HPB
              have HF2 : Hid (LqN (LV.putR L ⟨x, y⟩) (LV.putB L ⟨x, y⟩) w (.returned (.tuple #[.slice au M.length cu, .bool true])) w8) := by
                unfold LqN
                rw [HPY.out HPB.out, HPB.out]
                exact ⟨au, cu, gq, rfl, HRQ.out.1.later hb9, HRQ.out.2.1, b6, HRQ.out.2.2.2⟩
              clear hb6 hb8 hb9 b6 HO2 HRQ HPN HPY HV HNO
              go_wp2
              go_ret2
              exact HF2.out
theorem sLeafPut_any (p : Option Addr) (cap : Nat) (ga oa : Nat) (L : List Le) (x y : ByteArray) (w : World) (hv : RS 2 lcs w (.slice p L.length cap) ga oa L) (hnil : p = none → cap = 0) (hsm : SmallL L) (hL : L.length ≤ 1048576) (hn : x.size ≤ 1048576) (hvs : y.size ≤ 1048576) :
    Calls Tryz.prog 46 #[.slice p L.length cap, .string x, .string y] w (LqP (LV.putR L ⟨x, y⟩) (LV.putB L ⟨x, y⟩) w) := (sLeafPutN_any p cap ga oa L x y w hv hnil hsm hL hn hvs).mono fun _ _ h => h.plain

end Go.Proofs.YtfiapodjiifmaaaGreatDoor
