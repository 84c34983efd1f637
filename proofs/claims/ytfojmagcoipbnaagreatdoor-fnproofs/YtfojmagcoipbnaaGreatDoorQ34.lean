/-
  Texts laid together: Ry, Pxs, Lpd, Arg.
-/
import Derived.Test.YtfojmagcoipbnaaGreatDoorQ33
import Derived.Test.YtfojmagcoipbnaaGreatDoorQ14
import Derived.Deep.AppendLies
import Derived.Test.YtfojmagcoipbnaaGreatDoorQ32
import Derived.Test.YtfojmagcoipbnaaGreatDoorQ29
import Derived.Test.YtfojmagcoipbnaaGreatDoorQ27
import Derived.Test.YtfojmagcoipbnaaGreatDoorQ26
import Derived.Test.YtfojmagcoipbnaaGreatDoorQ30
import Derived.Test.YtfojmagcoipbnaaGreatDoorQ05
import Derived.ProofKit
import Derived.OpenShut
import Derived.ChangeOld
/-
  A proof read of a text: the specification's answer.
-/
namespace Go.Proofs.YtfojmagcoipbnaaGreatDoor
open Go.RowKit Go.BigFrame Go.Sort
set_option linter.unusedVariables false
set_option linter.unusedSimpArgs false

theorem raw_cut {s : ByteArray} {l : List Le} {q : Nat} (h : LV.rawL s 0 = some (l, q)) : q ≤ s.size ∧ LV.lvL l = LV.cutL s.data.toList 0 q := by
  cases hr : M.readVar s.data.toList 0 with
  | none => rw [LV.rawL_none hr] at h; cases h
  | some y =>
    obtain ⟨n, q0⟩ := y
    obtain ⟨hq0, hN⟩ := read_bound s 0 n q0 hr
    by_cases hn : 24 < n
    · rw [LV.rawL_great hr hn] at h; cases h
    · rw [LV.rawL_at hr hn] at h
      obtain ⟨h1, h2, h3, h4⟩ := LV.leavesF_some hq0 h
      have hc := LV.read_canon (Nat.zero_le _) hr
      have hp := LV.read_past _ _ _ _ hr
      refine ⟨h2, ?_⟩
      unfold LV.lvL
      rw [h3, ← hc, ← h4, LV.cutL_join _ 0 q0 q (by omega) h1]
theorem sdp_snoc (s : ByteArray) (y p n : Nat) : sdp s y p (n + 1) = sdp s y p n ++ [piece s (p + n * y) y] := by
  unfold sdp
  rw [List.range_succ, List.map_append]
  rfl
theorem join_sdp (s : ByteArray) (y p : Nat) : ∀ n, p + n * y ≤ s.size → (joinT (sdp s y p n)).data.toList = LV.cutL s.data.toList p (p + n * y)
  | 0, h => by
    have : LV.cutL s.data.toList p (p + 0 * y) = [] := by unfold LV.cutL; simp
    rw [this]
    rfl
  | n + 1, h => by
    have em : p + (n + 1) * y = p + n * y + y := by rw [Nat.add_mul, Nat.one_mul, Nat.add_assoc]
    have ih := join_sdp s y p n (by omega)
    rw [sdp_snoc, joinT_snoc, ByteArray.data_append, Array.toList_append, ih]
    unfold piece
    rw [LV.extract_cut, LV.cutL_join _ p (p + n * y) (p + n * y + y) (by omega) (by omega), em]
theorem sdp_wide {s : ByteArray} {y p n : Nat} (h : p + n * y ≤ s.size) (hy : 1 ≤ y ∧ y ≤ 32) : wideB (sdp s y p n) (y : Int) = true := by
  rw [wideB_good fun j hj => ?_]
  · exact decide_eq_true (by omega)
  · rw [sdp_at, LV.piece_len]
    rw [sdp_len] at hj
    have h2 : (j + 1) * y ≤ n * y := Nat.mul_le_mul_right _ hj
    have em : p + (j + 1) * y = p + j * y + y := by rw [Nat.add_mul, Nat.one_mul, Nat.add_assoc]
    omega
theorem px_text {s : ByteArray} {l : List Le} {q n p y : Nat} (h : LV.rawL s 0 = some (l, q)) (hl : LV.leavesB l = true) (hv : M.readVar s.data.toList q = some (n, p)) (hn : n ≤ 8) (hy : 1 ≤ y ∧ y ≤ 32) (hf : p + n * y ≤ s.size) :
    pxB l (sdp s y p n) (y : Int) = true ∧ (pxT l (sdp s y p n) (y : Int) = s ↔ p + n * y = s.size) := by
  have hb : pxB l (sdp s y p n) (y : Int) = true := by
    unfold pxB sidB
    rw [hl, sdp_wide hf hy, sdp_len, decide_eq_true hn]
    rfl
  refine ⟨hb, ?_⟩
  obtain ⟨hq, hc⟩ := raw_cut h
  have hpp := LV.read_past _ _ _ _ hv
  have e : (pxT l (sdp s y p n) (y : Int)).data.toList = LV.cutL s.data.toList 0 (p + n * y) := by
    unfold pxT
    rw [if_pos hb, lvT_yes hl, sdp_len, ByteArray.data_append, ByteArray.data_append, Array.toList_append, Array.toList_append, join_sdp s y p n hf]
    show LV.lvL l ++ M.varL n ++ LV.cutL s.data.toList p (p + n * y) = _
    rw [hc, ← LV.read_canon hq hv, LV.cutL_join _ 0 q p (by omega) (by omega), LV.cutL_join _ 0 p (p + n * y) (by omega) (by omega)]
  have hL : s.data.toList.length = s.size := Array.length_toList
  constructor
  · intro he
    rw [he] at e
    have h5 := LV.cutL_len s.data.toList 0 (p + n * y) (by omega) (by omega)
    rw [← e] at h5
    omega
  · intro he
    apply ByteArray.ext
    apply Array.toList_inj.1
    rw [e, he]
    unfold LV.cutL
    simp only [List.drop_zero, Nat.sub_zero]
    exact List.take_of_length_le (by omega)

/-- what the specification has read so far of the sides -/
def RyI (s : ByteArray) (X : Int) (l : List Le) (n : Int) (p m : Nat) (S : List ByteArray) (q : Nat) (b : Bool) : Prop :=
  S.length = m ∧ q ≤ s.size ∧ (∀ t ∈ S, t.size ≤ s.size) ∧ (b = true → rpOk s X = false) ∧ (b = false → (LV.rawL s 0 = none ∧ 24 < l.length) ∨ (∃ q0 k, LV.rawL s 0 = some (l, q0) ∧ M.readVar s.data.toList q0 = some (k, p) ∧ n = (k : Int) ∧ (0 < m → 0 ≤ X) ∧ S = sdp s X.toNat p m ∧ q = p + m * X.toNat))

theorem rp_at {s : ByteArray} {x : Int} {l : List Le} {q k p : Nat} (h : LV.rawL s 0 = some (l, q)) (hv : M.readVar s.data.toList q = some (k, p)) : rpOk s x = (decide (1 ≤ x ∧ x ≤ 32) && LV.leavesB l && decide (k ≤ 8) && decide (p + k * x.toNat = s.size)) ∧ (rpOk s x = true → rpL s x = l ∧ rpS s x = sdp s x.toNat p k) := by
  refine ⟨?_, fun h2 => ?_⟩
  · unfold rpOk
    rw [h]
    dsimp only
    rw [hv]
  · unfold rpL rpS
    rw [h]
    dsimp only
    rw [hv]
    dsimp only
    rw [h2]
    exact ⟨rfl, rfl⟩
theorem rp_none {s : ByteArray} {x : Int} (h : LV.rawL s 0 = none) : rpOk s x = false := by
  unfold rpOk
  rw [h]
theorem rp_var {s : ByteArray} {x : Int} {l : List Le} {q : Nat} (h : LV.rawL s 0 = some (l, q)) (hv : M.readVar s.data.toList q = none) : rpOk s x = false := by
  unfold rpOk
  rw [h]
  dsimp only
  rw [hv]
theorem RyI.bad {s : ByteArray} {X : Int} {l : List Le} {n : Int} {p m q : Nat} {S : List ByteArray} (h : RyI s X l n p m S q false) (hmn : (m : Int) < n) (hx : X < 0 ∨ (s.size : Int) - (q : Int) < X) : RyI s X l n p (m + 1) (S ++ [⟨#[]⟩]) q true := by
  obtain ⟨h1, h2, h3, _, h5⟩ := h
  refine ⟨by simp [h1], h2, fun t ht => ?_, fun _ => ?_, fun hb => by cases hb⟩
  · rcases List.mem_append.1 ht with h | h
    · exact h3 t h
    · simp at h
      subst h
      exact Nat.zero_le _
  · rcases h5 rfl with ⟨h, _⟩ | ⟨q0, k, hr, hv, rfl, hX, _, hq⟩
    · exact rp_none h
    · rw [(rp_at hr hv).1]
      by_cases hX0 : X < 0
      · rw [decide_eq_false (by omega)]
        rfl
      · have hlt : (m + 1) * X.toNat ≤ k * X.toNat := Nat.mul_le_mul_right _ (by omega)
        have em : p + (m + 1) * X.toNat = p + m * X.toNat + X.toNat := by rw [Nat.add_mul, Nat.one_mul, Nat.add_assoc]
        rw [decide_eq_false (show ¬ p + k * X.toNat = s.size by omega), Bool.and_false]
theorem RyI.take {s : ByteArray} {l : List Le} {n : Int} {p m q y : Nat} {S : List ByteArray} (h : RyI s (y : Int) l n p m S q false) (hy : q + y ≤ s.size) : RyI s (y : Int) l n p (m + 1) (S ++ [piece s q y]) (q + y) false := by
  obtain ⟨h1, h2, h3, _, h5⟩ := h
  refine ⟨by simp [h1], hy, fun t ht => ?_, (fun hb => by cases hb), fun _ => ?_⟩
  · rcases List.mem_append.1 ht with h | h
    · exact h3 t h
    · simp at h
      subst h
      exact piece_size s q y
  · rcases h5 rfl with h | ⟨q0, k, hr, hv, hk, hX, hS, hq⟩
    · exact .inl h
    · rw [Int.toNat_natCast] at hS hq
      refine .inr ⟨q0, k, hr, hv, hk, fun _ => by omega, ?_, ?_⟩
      · rw [Int.toNat_natCast, sdp_snoc, hS, hq]
      · rw [Int.toNat_natCast, hq, Nat.add_mul, Nat.one_mul, Nat.add_assoc]
theorem ry_end {s : ByteArray} {x : Int} {l : List Le} {n : Int} {p m q : Nat} {S : List ByteArray} {b : Bool} (h : RyI s x l n p m S q b) (hm : m ≤ 10) (hn : (m : Int) ≤ n) (hst : ¬ ((m : Int) < n ∧ m < 10 ∧ b = false)) :
    ((b = false ∧ pxB l S x = true ∧ pxT l S x = s) → rpOk s x = true ∧ rpL s x = l ∧ rpS s x = S) ∧ (¬ (b = false ∧ pxB l S x = true ∧ pxT l S x = s) → rpOk s x = false) := by
  obtain ⟨h1, h2, h3, h4, h5⟩ := h
  cases b with
  | true => exact ⟨fun h => (by cases h.1), fun _ => h4 rfl⟩
  | false =>
    rcases h5 rfl with ⟨hr, h24⟩ | ⟨q0, k, hr, hv, rfl, hX, hS, hq⟩
    · have hl : LV.leavesB l = false := by
        rw [LV.leavesB_no]
        intro hd
        have := hd.1
        omega
      have hp : pxB l S x = false := by unfold pxB; rw [hl]; rfl
      exact ⟨fun h => (by rw [hp] at h; cases h.2.1), fun _ => rp_none hr⟩
    · obtain ⟨e1, e2⟩ := rp_at (x := x) hr hv
      have hstop : ¬ (m < k ∧ m < 10) := fun h => hst ⟨by omega, h.2, rfl⟩
      by_cases hk8 : k ≤ 8
      · obtain rfl : m = k := by omega
        by_cases hx : 1 ≤ x ∧ x ≤ 32
        · obtain ⟨y, rfl⟩ : ∃ y : Nat, x = (y : Int) := ⟨x.toNat, by omega⟩
          rw [Int.toNat_natCast] at hS hq e1 e2
          subst hS
          cases hl : LV.leavesB l with
          | false =>
            have hp : pxB l (sdp s y p m) (y : Int) = false := by unfold pxB; rw [hl]; rfl
            refine ⟨fun h => (by rw [hp] at h; cases h.2.1), fun _ => ?_⟩
            rw [e1, hl, Bool.and_false]
            rfl
          | true =>
            obtain ⟨hp, ht⟩ := px_text (y := y) hr hl hv hk8 ⟨by omega, by omega⟩ (by omega)
            rw [decide_eq_true hx, hl, decide_eq_true hk8, Bool.true_and, Bool.true_and, Bool.true_and] at e1
            refine ⟨fun h => ?_, fun h => ?_⟩
            · have : rpOk s (y : Int) = true := by rw [e1]; exact decide_eq_true (ht.1 h.2.2)
              exact ⟨this, e2 this⟩
            · rw [e1]
              exact decide_eq_false fun hh => h ⟨rfl, hp, ht.2 hh⟩
        · have hp : pxB l S x = false := by
            unfold pxB sidB wideB
            rw [decide_eq_false hx]
            simp
          refine ⟨fun h => (by rw [hp] at h; cases h.2.1), fun _ => ?_⟩
          rw [e1, decide_eq_false hx]
          rfl
      · have hp : pxB l S x = false := by
          unfold pxB sidB
          rw [decide_eq_false (show ¬ S.length ≤ 8 by omega)]
          simp
        refine ⟨fun h => (by rw [hp] at h; cases h.2.1), fun _ => ?_⟩
        rw [e1, decide_eq_false hk8, Bool.and_false, Bool.false_and]

section
variable {w : World} {ops : Array Oper} {o : Oper} {a : Act} {Q : Exit → Act → World → Prop} {K : Act → World → Prop}
theorem one_txtP {w : World} {p : Nat} {t : ByteArray} (h : w.cell? ⟨p, 0, none⟩ = some (.string t)) : ∀ j u, [Value.string t][j]? = some u → w.cell? ((⟨p, 0, none⟩ : Addr).add j) = some u := by
  intro j u hj
  match j, hj with
  | 0, hj =>
    simp at hj
    subst hj
    simpa [Addr.add] using h
/-- a text appended, and where the row lies then: as one step of a region that draws its order -/
theorem step_txtP {E : Prop} (hgd : o.guard = none) (s x : Operand)
    (ho : o.op = .call { callee := .builtin .append, args := #[s, x], argTypes := #[27, 27] })
    (B : Nat) (w0 : World) (u : Value) (l : List ByteArray) (t : ByteArray) (hs : a.eval s = u) (h : OS B w0 w u l) (p : Nat) (hx : a.eval x = .slice (some ⟨p, 0, none⟩) 1 1)
    (hnews : w.cell? ⟨p, 0, none⟩ = some (.string t)) (hlen : l.length + 1 ≤ 1000000)
    (hk : ∀ g cap w', OS B w0 w' (.slice (some ⟨g, 0, none⟩) (l.length + 1) cap) (l ++ [t]) → w.grownBy w' u.ownBlock → (u.ownBlock = some g ∨ g = w.heap.size) → K (a.put o.dst (.slice (some ⟨g, 0, none⟩) (l.length + 1) cap)) w') : if Region.wanted o (yielded ops a.tmps) = true then Oper.wp Tryz.prog o a w K Q else E := by
  obtain ⟨i0, hi, hz0, hz1, hz2⟩ := info_parts Tryz.info9
  refine step_append_lies w hgd s x 27 ho B 9 i0 (.string ByteArray.empty) 1 16 Tryz.underlying27 hi hz0 hz1 hz2 rfl (by decide) u l.length (svs l) hs h.1 ⟨p, 0, none⟩ 1 1 [.string t] hx rfl (one_txtP hnews)
    (fun u hu => by simp at hu; subst hu; rfl) (by omega) (by unfold maxLen; omega) (by omega) h.2.2 w.heap.size rfl ?_
  intro g cap w' h1 h2 h3 _
  exact hk _ _ _ ⟨by rw [List.length_append, svs_append]; exact h1, h.2.1.grown h2 h.2.2 (fun k hk => (h.1.lt k hk).1), Nat.le_trans h.2.2 h2.size⟩ h2 h3
end

theorem OS.keptP {B : Nat} {w0 w w' : World} {v : Value} {row : Option Nat} {l : List ByteArray} (h : OS B w0 w v l) (hg : w.grownBy w' row) (hB : ∀ k, row = some k → B ≤ k) (hne : v.ownBlock = none ∨ v.ownBlock ≠ row) : OS B w0 w' v l :=
  ⟨World.ownsRow.kept h.1 hg hne, h.2.1.grown hg h.2.2 hB, Nat.le_trans h.2.2 hg.size⟩
theorem OS.neP {B g T : Nat} {w0 w : World} {v : Value} {cs : Array Value} {fz : Nat × Nat} {r : List ByteArray} (ho : OS B w0 w v r) (h : w.heap[g]? = some (.cells cs T fz)) (hT : T ≠ 9) : v.ownBlock ≠ some g := fun hq => by
  rcases ho.1.2 with ⟨hv, _⟩ | ⟨g', cap, cur, hv, _, hg, _⟩
  · rw [hv] at hq; cases hq
  · rw [hv] at hq
    have : g' = g := by simpa [Value.ownBlock] using hq
    subst this
    rw [hg] at h
    simp at h
    exact hT h.2.1.symm
theorem OL.typ {B g : Nat} {w0 w : World} {v : Value} {r : List Le} (ho : OL B w0 w v r) (hq : v.ownBlock = some g) : ∃ cs fz, w.heap[g]? = some (.cells cs 121 fz) := by
  rcases ho.1.2 with ⟨hv, _⟩ | ⟨g', cap, cur, hv, _, hg, _⟩
  · rw [hv] at hq; cases hq
  · rw [hv] at hq
    have : g' = g := by simpa [Value.ownBlock] using hq
    subst this
    exact ⟨_, _, hg⟩

/-- what stands while the specification reads -/
def RyS (B : Nat) (w0 W : World) (s : ByteArray) (c gp : Nat) (q : Nat) (b : Bool) (vL : Value) (l : List Le) (vS : Value) (S : List ByteArray) : Prop := OL B w0 W vL l ∧ Cu W c s q b ∧ PfM W gp vL vS ∧ OS B w0 W vS S
theorem RyS.later {B : Nat} {w0 W W' : World} {s : ByteArray} {c gp q : Nat} {b : Bool} {vL vS : Value} {l : List Le} {S : List ByteArray} (h : RyS B w0 W s c gp q b vL l vS S) (hb : Below W.heap.size W W') : RyS B w0 W' s c gp q b vL l vS S := ⟨h.1.later hb, h.2.1.later hb, h.2.2.1.later hb, h.2.2.2.later hb⟩
/-- the reader has gone on -/
theorem RyS.read {B : Nat} {w0 W W' : World} {s : ByteArray} {c gp q q' : Nat} {b b' : Bool} {vL vS : Value} {l : List Le} {S : List ByteArray} (h : RyS B w0 W s c gp q b vL l vS S) (hg : W.grownBy W' (some c)) (hc : Cu W' c s q' b') (hB : B ≤ c) : RyS B w0 W' s c gp q' b' vL l vS S :=
  ⟨h.1.grown hg (fun k hk => by cases hk; exact ⟨hB, h.1.ne h.2.1 (by decide)⟩), hc, h.2.2.1.keep (hg.block _ h.2.2.1.lt (fun e => by
    have : gp = c := by simpa using e
    subst this
    have h1 := h.2.1
    have h2 := h.2.2.1
    unfold Cu at h1
    unfold PfM at h2
    rw [h1] at h2
    simp at h2)), h.2.2.2.keptP hg (fun k hk => by cases hk; exact hB) (.inr (h.2.2.2.neP h.2.1 (by decide)))⟩
/-- a side more -/
theorem RyS.app {B : Nat} {w0 W W' : World} {s : ByteArray} {c gp q : Nat} {b : Bool} {vL vS v' : Value} {l : List Le} {S S' : List ByteArray} (h : RyS B w0 W s c gp q b vL l vS S) (hg : W.grownBy W' vS.ownBlock) (ho : OS B w0 W' v' S') (hgp : B ≤ gp) :
    W'.cell? ⟨gp, 1, none⟩ = some vS ∧ W'.frozen? ⟨gp, 1, none⟩ = false ∧ gp < W'.heap.size ∧ RyS B w0 (W'.setCell ⟨gp, 1, none⟩ v') s c gp q b vL l v' S' := by
  have hP := h.2.2.1.keep (hg.block _ h.2.2.1.lt (Ne.symm (h.2.2.2.neP h.2.2.1 (by decide))))
  have hC : Cu W' c s q b := (hg.block _ h.2.1.lt (Ne.symm (h.2.2.2.neP h.2.1 (by decide)))).trans h.2.1
  have hL : OL B w0 W' vL l := h.1.grown hg (fun k hk => ⟨(h.2.2.2.1.lt k hk).1, fun e => by
    obtain ⟨cs, fz, hh⟩ := h.1.typ e
    exact h.2.2.2.neP hh (by decide) hk⟩)
  have hgr := grown_setC W' gp 1 v'
  refine ⟨hP.c1, hP.fr 1, hP.lt, hL.grown hgr (fun k hk => by cases hk; exact ⟨hgp, hL.ne hP (by decide)⟩), hC.grown hgr (fun e => ?_), hP.set1 v', ho.keptP hgr (fun k hk => by cases hk; exact hgp) (.inr (ho.neP hP (by decide)))⟩
  have : c = gp := by simpa using e
  subst this
  unfold Cu at hC
  unfold PfM at hP
  rw [hC] at hP
  simp at hP

def RyR (B : Nat) (w0 : World) (s : ByteArray) (x : Int) (c gp : Nat) (vL : Value) (l : List Le) (n : Int) (p : Nat) (i : Value) (wr : World) : Prop := ∃ (m q : Nat) (b : Bool) (vS : Value) (S : List ByteArray), m ≤ 10 ∧ (m : Int) ≤ n ∧ i = .int .i64 m ∧ Hid (RyI s x l n p m S q b ∧ RyS B w0 wr s c gp q b vL l vS S)

set_option maxRecDepth 100000 in
set_option maxHeartbeats 2000000 in
theorem sReadProof_any (s : ByteArray) (x : Int) (w : World) (hs : s.size ≤ 1048576) :
    Calls Tryz.prog 26 #[.string s, .int .i64 x] w (PvP (rpL s x) (rpS s x) (rpOk s x) w) := by
  obtain ⟨Q, hQ⟩ : ∃ Q, PvP (rpL s x) (rpS s x) (rpOk s x) w = Q := ⟨_, rfl⟩
  have HQ : Hid (PvP (rpL s x) (rpS s x) (rpOk s x) w = Q) := hQ
  rw [hQ]
  clear hQ
  have A0 := PfM.later (PfM.new w (.slice none 0 0) (.slice none 0 0)) ((Below.refl _ _).alloc (Nat.le_refl _) (.cells #[.string s, .int .i64 0, .bool false] 145))
  have C0 : Cu ((w.alloc (.cells #[.slice none 0 0, .slice none 0 0] 29)).alloc (.cells #[.string s, .int .i64 0, .bool false] 145)) (w.heap.size + 1) s 0 false := by
    have := Go.heap_alloc_new (w.alloc (.cells #[.slice none 0 0, .slice none 0 0] 29)) (.cells #[.string s, .int .i64 0, .bool false] 145)
    have e : (w.alloc (.cells #[.slice none 0 0, .slice none 0 0] 29)).heap.size = w.heap.size + 1 := by simp
    rw [e] at this
    exact this
  have b0 : Below w.heap.size w ((w.alloc (.cells #[.slice none 0 0, .slice none 0 0] 29)).alloc (.cells #[.string s, .int .i64 0, .bool false] 145)) := ((Below.refl _ _).alloc (Nat.le_refl _) _).alloc (by simp) _
  have h1 := l09Leaves_at (w.heap.size + 1) s (w.heap.size + 1) _ _ C0 (Nat.le_refl _) (Below.refl _ _) hs
  go_enter Tryz.func26, Tryz.ntmps26
  go_wp2_with fail
  refine h1.mono ?_
  generalize (w.alloc (.cells #[.slice none 0 0, .slice none 0 0] 29)).alloc (.cells #[.string s, .int .i64 0, .bool false] 145) = w0 at *
  rintro e w1 ⟨u, l, q, b, rfl, ho, hc, ⟨hl30, hqs⟩, hsz, hbt, hbf⟩
  obtain ⟨au, cu, rfl⟩ := ho.shape
  clear h1 C0
  have hba : Below w1.heap.size w1 (w1.alloc (.cells #[.slice au l.length cu, .slice none 0 0] 29)) := (Below.refl _ _).alloc (Nat.le_refl _) _
  have hBs : w.heap.size + 1 ≤ w1.heap.size := ho.2.2
  have HSM : Hid (SmallL l) := fun f hf => by have := hsz f hf; omega
  have O1 := ho.later hba
  have S1 : RyS (w.heap.size + 1) w0 (w1.alloc (.cells #[.slice au l.length cu, .slice none 0 0] 29)) s (w.heap.size + 1) w1.heap.size q b (.slice au l.length cu) l (.slice none 0 0) [] := ⟨O1, hc.later hba, PfM.new w1 _ _, ⟨World.ownsRow_nil _ _ _ _, O1.2.1, O1.2.2⟩⟩
  have HV : Hid (∀ W, RyS (w.heap.size + 1) w0 W s (w.heap.size + 1) w1.heap.size q b (.slice au l.length cu) l (.slice none 0 0) [] → Calls Tryz.prog 104 #[.pointer (some ⟨w.heap.size + 1, 0, none⟩)] W fun e w' => ∃ (n p q1 : Nat) (b1 : Bool), e = .returned (.int .i64 (n : Int)) ∧ n ≤ 1000000000 ∧ RyI s x l (n : Int) p 0 [] q1 b1 ∧ RyS (w.heap.size + 1) w0 w' s (w.heap.size + 1) w1.heap.size q1 b1 (.slice au l.length cu) l (.slice none 0 0) []) := fun W hW => by
    cases b with
    | true =>
      refine (l09Var_bad (w.heap.size + 1) s q W hW.2.1 hs hqs).mono fun e w' ⟨⟨he, hc'⟩, hg⟩ => ?_
      exact ⟨0, 0, q, true, he, by omega, ⟨rfl, hqs, fun t ht => (by cases ht), fun _ => rp_none (hbt rfl), fun h => (by cases h)⟩, hW.read hg hc' (Nat.le_refl _)⟩
    | false =>
      refine (l09Var_at (w.heap.size + 1) s q W hW.2.1 hs hqs).mono fun e w' ⟨hm, hg⟩ => ?_
      cases hr : M.readVar s.data.toList q with
      | none =>
        rw [hr] at hm
        refine ⟨0, 0, q, true, hm.1, by omega, ⟨rfl, hqs, fun t ht => (by cases ht), fun _ => ?_, fun h => (by cases h)⟩, hW.read hg hm.2 (Nat.le_refl _)⟩
        rcases hbf rfl with ⟨h, _⟩ | h
        · exact rp_none h
        · exact rp_var h hr
      | some z =>
        obtain ⟨k, p⟩ := z
        rw [hr] at hm
        obtain ⟨hps, hk9⟩ := read_bound s q k p hr
        refine ⟨k, p, p, false, hm.1, hk9, ⟨rfl, hps, fun t ht => (by cases ht), fun h => (by cases h), fun _ => ?_⟩, hW.read hg hm.2 (Nat.le_refl _)⟩
        rcases hbf rfl with h | h
        · exact .inl h
        · exact .inr ⟨q, k, h, hr, rfl, fun h0 => absurd h0 (by omega), rfl, by omega⟩
  clear hbt hbf hsz ho hc O1 hba
  go_wp2_with fail
  refine (HV.out _ S1).mono ?_
  rintro e w2 ⟨n, p, q1, b1, rfl, hn9, hI1, S2⟩
  clear HV S1
  have HST : Hid (RyR (w.heap.size + 1) w0 s x (w.heap.size + 1) w1.heap.size (.slice au l.length cu) l (n : Int) p (.int .i64 0) w2) := ⟨0, q1, b1, _, _, by omega, by omega, rfl, hI1, S2⟩
  have HA0 : Hid (PfM w0 w.heap.size (.slice none 0 0) (.slice none 0 0) ∧ Below w.heap.size w w0) := ⟨A0, b0⟩
  clear hI1 S2 A0 b0
  go_wp2
  go_loopw [9] (fun i wr => RyR (w.heap.size + 1) w0 s x (w.heap.size + 1) w1.heap.size (.slice au l.length cu) l (n : Int) p i wr) (fun i _ => 11 - (intOf i).toNat)
  case atStart => exact HST.out
  case round =>
    obtain ⟨m, q, b, vS, S, hm, hmn, rfl, HI⟩ := hrel
    clear HST
    have d2 := HI.out.2.2.1.c2
    have hlt := HI.out.2.2.1.lt
    by_cases hstop : (m : Int) < (n : Int) ∧ m < 10 ∧ b = false
    · obtain ⟨i1, hm10, rfl⟩ := hstop
      have i3 : (m : Int) < 10 := by omega
      have HSl : Hid (S.length = m) := HI.out.1.1
      have HTK : Hid (∀ W, RyS (w.heap.size + 1) w0 W s (w.heap.size + 1) w1.heap.size q false (.slice au l.length cu) l vS S → Calls Tryz.prog 105 #[.pointer (some ⟨w.heap.size + 1, 0, none⟩), .int .i64 x] W fun e w' => ∃ (t : ByteArray) (q' : Nat) (b' : Bool), e = .returned (.string t) ∧ RyI s x l (n : Int) p (m + 1) (S ++ [t]) q' b' ∧ RyS (w.heap.size + 1) w0 w' s (w.heap.size + 1) w1.heap.size q' b' (.slice au l.length cu) l vS S) := fun W hW => by
        by_cases hno : x < 0 ∨ (s.size : Int) - (q : Int) < x
        · refine (l09Take_no (w.heap.size + 1) s q false x W hW.2.1 hs HI.out.1.2.1 (.inr hno)).mono fun e w' ⟨⟨he, hc'⟩, hg⟩ => ?_
          exact ⟨_, q, true, he, HI.out.1.bad i1 hno, hW.read hg hc' (Nat.le_refl _)⟩
        · obtain ⟨y, rfl⟩ : ∃ y : Nat, x = (y : Int) := ⟨x.toNat, by omega⟩
          have hqy : q + y ≤ s.size := by omega
          refine (l09Take_yes (w.heap.size + 1) s q y W hW.2.1 hs hqy).mono fun e w' ⟨⟨he, hc'⟩, hg⟩ => ?_
          exact ⟨_, q + y, false, he, HI.out.1.take hqy, hW.read hg hc' (Nat.le_refl _)⟩
      have HS0 : Hid (RyS (w.heap.size + 1) w0 wr.drew s (w.heap.size + 1) w1.heap.size q false (.slice au l.length cu) l vS S) := HI.out.2.later (Below.refl _ _).drew
      have k1 : wr.drew.cell? ⟨w1.heap.size, 1, none⟩ = some vS := HS0.out.2.2.1.c1
      have hvs : ∃ a c, vS = .slice a S.length c := by
        rcases HI.out.2.2.2.2.shape with ⟨hv, hn⟩ | ⟨g, cap, hv, _⟩
        · exact ⟨none, 0, by rw [hv, hn]; rfl⟩
        · exact ⟨_, _, hv⟩
      obtain ⟨aS, cS, rfl⟩ := hvs
      clear HI
      go_wp2
      go_region_law ((first
        | (refine step_txtP rfl _ _ rfl (w.heap.size + 1) w0 _ S t (by rfl) HS4.out.2.2.2 _ (by rfl) HCT.out (by have := HSl.out; omega) ?_; intro g5 cap5 w5 ho5 hg5 hl5; obtain ⟨e1, f1, z1, hS5⟩ := HS4.out.app hg5 ho5 hBs)
        | (go_simp; go_at_call 105; refine (HTK.out _ HS0.out).mono ?_; rintro e w3 ⟨t, q', b', rfl, hI3, hS3⟩; have k3 := hS3.2.2.1.c1; have HS4 : Hid (RyS (w.heap.size + 1) w0 (w3.alloc (.cells #[.string t] 9)) s (w.heap.size + 1) w1.heap.size q' b' (.slice au l.length cu) l (.slice aS S.length cS) S) := hS3.later ((Below.refl _ _).alloc (Nat.le_refl _) _); have HCT : Hid ((w3.alloc (.cells #[.string t] 9)).cell? ⟨w3.heap.size, 0, none⟩ = some (.string t)) := (by show (w3.alloc (.cells #[.string t] 9)).cell? ⟨w3.heap.size, 0, none⟩ = some (.string t); rw [World.cell?_alloc_at _ _ _ _ rfl]; rfl); have k4 := HS4.out.2.2.1.c1)))
      all_goals
        have HJ : Hid (RyR (w.heap.size + 1) w0 s x (w.heap.size + 1) w1.heap.size (.slice au l.length cu) l (n : Int) p (.int .i64 ((m : Int) + 1)) (w5.setCell ⟨w1.heap.size, 1, none⟩ (.slice (some ⟨g5, 0, none⟩) (S.length + 1) cap5))) := ⟨m + 1, q', b', _, _, by omega, by omega, by congr 1, hI3, hS5⟩
        clear hS5 hI3 HS4 HCT hS3 k3 k4 k1 HS0 HTK ho5 hg5 hl5 e1 f1 z1
        go_wp2
        go_roundw
        case rel => exact HJ.out
        case measure => simp [intOf]; omega
    · have HEND0 := ry_end HI.out.1 hm hmn hstop
      have HSl : Hid (S.length ≤ 10) := by have := HI.out.1.1; exact (show S.length ≤ 10 by omega)
      have HPX0 : Hid (∀ W, RyS (w.heap.size + 1) w0 W s (w.heap.size + 1) w1.heap.size q b (.slice au l.length cu) l vS S → Calls Tryz.prog 101 #[.agg #[.slice au l.length cu, vS], .int .i64 x] W fun e w' => e = .returned (.tuple #[.string (pxT l S x), .bool (pxB l S x)]) ∧ Below W.heap.size W w') := fun W hW => by
        obtain ⟨gl, hrl, _, _⟩ := hW.1.rw (by omega)
        obtain ⟨gs, hss⟩ := hW.2.2.2.ss (by have := HSl.out; omega)
        exact sProofText_any _ _ gl 0 gs 0 l S x W hrl.1 HSM.out hss
      obtain ⟨PT, hPT⟩ : ∃ PT, pxT l S x = PT := ⟨_, rfl⟩
      obtain ⟨PB, hPB⟩ : ∃ PB, pxB l S x = PB := ⟨_, rfl⟩
      rw [hPT, hPB] at HEND0 HPX0
      have HEND : Hid (((b = false ∧ PB = true ∧ PT = s) → rpOk s x = true ∧ rpL s x = l ∧ rpS s x = S) ∧ (¬ (b = false ∧ PB = true ∧ PT = s) → rpOk s x = false)) := HEND0
      have HPX : Hid _ := HPX0.out
      clear HEND0 HPX0 hPT hPB
      have k0 := HI.out.2.2.2.1.c0
      have k1 := HI.out.2.2.2.1.c1
      by_cases hmlt : (m : Int) < (n : Int)
      · by_cases hm10 : m < 10
        · have i3 : (m : Int) < 10 := by omega
          obtain rfl : b = true := by
            cases b
            · exact absurd ⟨hmlt, hm10, rfl⟩ hstop
            · rfl
          clear hstop
          go_wp2_with fail
          refine (HPX.out _ HI.out.2).mono ?_
          rintro e w3 ⟨rfl, hb3⟩
          have S3 := HI.out.2.later hb3
          have A3 : PfM w3 w.heap.size (.slice none 0 0) (.slice none 0 0) := HA0.out.1.keep (S3.1.2.1.block _ (by omega))
          have b3 : Below w.heap.size w w3 := HA0.out.2.trans (S3.1.2.1.mono (by omega))
          have d3 := S3.2.1.c2
          have hl3 := S3.2.1.lt
          have HNO : Hid (¬ (true = false ∧ PB = true ∧ PT = s) → Q (.returned (.tuple #[.agg #[.slice none 0 0, .slice none 0 0], .bool false])) (w3.setRow w.heap.size #[.slice none 0 0, .slice none 0 0])) := fun h => by
            have h0 := HEND.out.2 h
            rw [← HQ.out, h0, (rp_no h0).1, (rp_no h0).2]
            exact PvP.no (below_row b3 (Nat.le_refl _))
          have HYE : Hid (true = false ∧ PB = true ∧ PT = s → Q (.returned (.tuple #[.agg #[.slice au l.length cu, vS], .bool true])) (w3.setRow w.heap.size #[.slice au l.length cu, vS])) := fun h => by
            obtain ⟨y1, y2, y3⟩ := HEND.out.1 h
            rw [← HQ.out, y1, y2, y3]
            have hgx := grown_setRowP w3 w.heap.size #[.slice au l.length cu, vS]
            obtain ⟨gl, hrl, hgl, hql⟩ := S3.1.rw (by omega)
            obtain ⟨gs, hts, hgs⟩ := S3.2.2.2.ts (by have := HSl.out; omega)
            have hcap : ∃ aS cS, vS = .slice aS S.length cS ∧ S.length ≤ cS := by
              rcases S3.2.2.2.1.2 with ⟨hv, hn⟩ | ⟨g, cap, cur, hv, _, _, hca, _⟩
              · have h0 : S.length = 0 := hn
                exact ⟨none, 0, by rw [hv, h0], by omega⟩
              · exact ⟨_, cap, hv, hca⟩
            obtain ⟨aS, cS, rfl, hcS⟩ := hcap
            refine ⟨au, cu, aS, cS, gl, gs, rfl, hrl.grown hgx (fun _ => by simp; omega), hts.keptG hgx (fun _ => by simp; omega), by omega, by omega, ⟨fun h1 h2 he => ?_, hcS⟩, below_row b3 (Nat.le_refl _)⟩
            subst he
            have hS := S3.2.2.2
            rcases hS.1.2 with ⟨hv, hn⟩ | ⟨g, cap, cur, hv, _, hg, _⟩
            · have h0 : S.length = 0 := hn
              omega
            · have e1 : g = gl := by
                have hh := hts.ss
                obtain ⟨_, _, ev, _, hA, _⟩ := hh
                have := hA h2
                rw [this] at ev
                rw [hv] at ev
                simp only [Value.slice.injEq, Option.some.injEq, Addr.mk.injEq] at ev
                exact ev.1.1
              subst e1
              rcases S3.1.1.2 with ⟨hv2, hn2⟩ | ⟨g2, cap2, cur2, hv2, _, hg2, _⟩
              · have h0 : l.length = 0 := hn2
                omega
              · have e2 : g2 = g := hql g2 (by rw [hv2]; rfl)
                subst e2
                rw [hg] at hg2
                simp at hg2
          have HP3 : Hid (PfM w3 w1.heap.size (.slice au l.length cu) vS) := S3.2.2.1
          have hone : vS.oneCell' = true := by
            rcases S3.2.2.2.shape with ⟨hv, _⟩ | ⟨g, cap, hv, _⟩
            · rw [hv]; rfl
            · rw [hv]; rfl
          clear HEND HPX S3 HI hb3 HA0
          have hQ := HNO.out (fun h => by cases h.1)
          clear HNO HYE
          go_wp2_with (refine wp_storePf rfl _ _ rfl w.heap.size _ _ (.slice none 0 0) (.slice none 0 0) A3 rfl rfl rfl rfl ?_; intro hfin)
          refine ret_pf2 4 5 w.heap.size _ _ _ rfl rfl rfl rfl hfin ?_
          exact hQ
        · have i3 : ¬ (m : Int) < 10 := by omega
          clear hstop
          go_wp2_with fail
          refine (HPX.out _ HI.out.2).mono ?_
          rintro e w3 ⟨rfl, hb3⟩
          have S3 := HI.out.2.later hb3
          have A3 : PfM w3 w.heap.size (.slice none 0 0) (.slice none 0 0) := HA0.out.1.keep (S3.1.2.1.block _ (by omega))
          have b3 : Below w.heap.size w w3 := HA0.out.2.trans (S3.1.2.1.mono (by omega))
          have d3 := S3.2.1.c2
          have hl3 := S3.2.1.lt
          have HNO : Hid (¬ (b = false ∧ PB = true ∧ PT = s) → Q (.returned (.tuple #[.agg #[.slice none 0 0, .slice none 0 0], .bool false])) (w3.setRow w.heap.size #[.slice none 0 0, .slice none 0 0])) := fun h => by
            have h0 := HEND.out.2 h
            rw [← HQ.out, h0, (rp_no h0).1, (rp_no h0).2]
            exact PvP.no (below_row b3 (Nat.le_refl _))
          have HYE : Hid (b = false ∧ PB = true ∧ PT = s → Q (.returned (.tuple #[.agg #[.slice au l.length cu, vS], .bool true])) (w3.setRow w.heap.size #[.slice au l.length cu, vS])) := fun h => by
            obtain ⟨y1, y2, y3⟩ := HEND.out.1 h
            rw [← HQ.out, y1, y2, y3]
            have hgx := grown_setRowP w3 w.heap.size #[.slice au l.length cu, vS]
            obtain ⟨gl, hrl, hgl, hql⟩ := S3.1.rw (by omega)
            obtain ⟨gs, hts, hgs⟩ := S3.2.2.2.ts (by have := HSl.out; omega)
            have hcap : ∃ aS cS, vS = .slice aS S.length cS ∧ S.length ≤ cS := by
              rcases S3.2.2.2.1.2 with ⟨hv, hn⟩ | ⟨g, cap, cur, hv, _, _, hca, _⟩
              · have h0 : S.length = 0 := hn
                exact ⟨none, 0, by rw [hv, h0], by omega⟩
              · exact ⟨_, cap, hv, hca⟩
            obtain ⟨aS, cS, rfl, hcS⟩ := hcap
            refine ⟨au, cu, aS, cS, gl, gs, rfl, hrl.grown hgx (fun _ => by simp; omega), hts.keptG hgx (fun _ => by simp; omega), by omega, by omega, ⟨fun h1 h2 he => ?_, hcS⟩, below_row b3 (Nat.le_refl _)⟩
            subst he
            have hS := S3.2.2.2
            rcases hS.1.2 with ⟨hv, hn⟩ | ⟨g, cap, cur, hv, _, hg, _⟩
            · have h0 : S.length = 0 := hn
              omega
            · have e1 : g = gl := by
                have hh := hts.ss
                obtain ⟨_, _, ev, _, hA, _⟩ := hh
                have := hA h2
                rw [this] at ev
                rw [hv] at ev
                simp only [Value.slice.injEq, Option.some.injEq, Addr.mk.injEq] at ev
                exact ev.1.1
              subst e1
              rcases S3.1.1.2 with ⟨hv2, hn2⟩ | ⟨g2, cap2, cur2, hv2, _, hg2, _⟩
              · have h0 : l.length = 0 := hn2
                omega
              · have e2 : g2 = g := hql g2 (by rw [hv2]; rfl)
                subst e2
                rw [hg] at hg2
                simp at hg2
          have HP3 : Hid (PfM w3 w1.heap.size (.slice au l.length cu) vS) := S3.2.2.1
          have hone : vS.oneCell' = true := by
            rcases S3.2.2.2.shape with ⟨hv, _⟩ | ⟨g, cap, hv, _⟩
            · rw [hv]; rfl
            · rw [hv]; rfl
          clear HEND HPX S3 HI hb3 HA0
          cases b with
          | true =>
            have hQ := HNO.out (fun h => by cases h.1)
            clear HNO HYE
            go_wp2_with (refine wp_storePf rfl _ _ rfl w.heap.size _ _ (.slice none 0 0) (.slice none 0 0) A3 rfl rfl rfl rfl ?_; intro hfin)
            refine ret_pf2 4 5 w.heap.size _ _ _ rfl rfl rfl rfl hfin ?_
            exact hQ
          | false =>
            cases PB with
            | false =>
              have hQ := HNO.out (fun h => by cases h.2.1)
              clear HNO HYE
              go_wp2_with (refine wp_storePf rfl _ _ rfl w.heap.size _ _ (.slice none 0 0) (.slice none 0 0) A3 rfl rfl rfl rfl ?_; intro hfin)
              refine ret_pf2 4 5 w.heap.size _ _ _ rfl rfl rfl rfl hfin ?_
              exact hQ
            | true =>
              by_cases ht : PT = s
              · have hQ := HYE.out ⟨rfl, rfl, ht⟩
                have qt : (PT.toList == s.toList) = true := by rw [ht]; simp
                clear HNO HYE ht
                go_wp2_with (first | (refine wp_loadPf rfl _ rfl w1.heap.size _ _ rfl HP3.out ?_) | (refine wp_storePf rfl _ _ rfl w.heap.size _ _ (.slice au l.length cu) vS A3 rfl rfl rfl hone ?_; intro hfin))
                refine ret_pf2 4 5 w.heap.size _ _ _ rfl rfl rfl rfl hfin ?_
                exact hQ
              · have hQ := HNO.out (fun h => ht h.2.2)
                have qt : (PT.toList == s.toList) = false := LV.bytes_ne ht
                clear HNO HYE ht
                go_wp2_with (refine wp_storePf rfl _ _ rfl w.heap.size _ _ (.slice none 0 0) (.slice none 0 0) A3 rfl rfl rfl rfl ?_; intro hfin)
                refine ret_pf2 4 5 w.heap.size _ _ _ rfl rfl rfl rfl hfin ?_
                exact hQ
      · clear hstop
        go_wp2_with fail
        refine (HPX.out _ HI.out.2).mono ?_
        rintro e w3 ⟨rfl, hb3⟩
        have S3 := HI.out.2.later hb3
        have A3 : PfM w3 w.heap.size (.slice none 0 0) (.slice none 0 0) := HA0.out.1.keep (S3.1.2.1.block _ (by omega))
        have b3 : Below w.heap.size w w3 := HA0.out.2.trans (S3.1.2.1.mono (by omega))
        have d3 := S3.2.1.c2
        have hl3 := S3.2.1.lt
        have HNO : Hid (¬ (b = false ∧ PB = true ∧ PT = s) → Q (.returned (.tuple #[.agg #[.slice none 0 0, .slice none 0 0], .bool false])) (w3.setRow w.heap.size #[.slice none 0 0, .slice none 0 0])) := fun h => by
          have h0 := HEND.out.2 h
          rw [← HQ.out, h0, (rp_no h0).1, (rp_no h0).2]
          exact PvP.no (below_row b3 (Nat.le_refl _))
        have HYE : Hid (b = false ∧ PB = true ∧ PT = s → Q (.returned (.tuple #[.agg #[.slice au l.length cu, vS], .bool true])) (w3.setRow w.heap.size #[.slice au l.length cu, vS])) := fun h => by
          obtain ⟨y1, y2, y3⟩ := HEND.out.1 h
          rw [← HQ.out, y1, y2, y3]
          have hgx := grown_setRowP w3 w.heap.size #[.slice au l.length cu, vS]
          obtain ⟨gl, hrl, hgl, hql⟩ := S3.1.rw (by omega)
          obtain ⟨gs, hts, hgs⟩ := S3.2.2.2.ts (by have := HSl.out; omega)
          have hcap : ∃ aS cS, vS = .slice aS S.length cS ∧ S.length ≤ cS := by
            rcases S3.2.2.2.1.2 with ⟨hv, hn⟩ | ⟨g, cap, cur, hv, _, _, hca, _⟩
            · have h0 : S.length = 0 := hn
              exact ⟨none, 0, by rw [hv, h0], by omega⟩
            · exact ⟨_, cap, hv, hca⟩
          obtain ⟨aS, cS, rfl, hcS⟩ := hcap
          refine ⟨au, cu, aS, cS, gl, gs, rfl, hrl.grown hgx (fun _ => by simp; omega), hts.keptG hgx (fun _ => by simp; omega), by omega, by omega, ⟨fun h1 h2 he => ?_, hcS⟩, below_row b3 (Nat.le_refl _)⟩
          subst he
          have hS := S3.2.2.2
          rcases hS.1.2 with ⟨hv, hn⟩ | ⟨g, cap, cur, hv, _, hg, _⟩
          · have h0 : S.length = 0 := hn
            omega
          · have e1 : g = gl := by
              have hh := hts.ss
              obtain ⟨_, _, ev, _, hA, _⟩ := hh
              have := hA h2
              rw [this] at ev
              rw [hv] at ev
              simp only [Value.slice.injEq, Option.some.injEq, Addr.mk.injEq] at ev
              exact ev.1.1
            subst e1
            rcases S3.1.1.2 with ⟨hv2, hn2⟩ | ⟨g2, cap2, cur2, hv2, _, hg2, _⟩
            · have h0 : l.length = 0 := hn2
              omega
            · have e2 : g2 = g := hql g2 (by rw [hv2]; rfl)
              subst e2
              rw [hg] at hg2
              simp at hg2
        have HP3 : Hid (PfM w3 w1.heap.size (.slice au l.length cu) vS) := S3.2.2.1
        have hone : vS.oneCell' = true := by
          rcases S3.2.2.2.shape with ⟨hv, _⟩ | ⟨g, cap, hv, _⟩
          · rw [hv]; rfl
          · rw [hv]; rfl
        clear HEND HPX S3 HI hb3 HA0
        cases b with
        | true =>
          have hQ := HNO.out (fun h => by cases h.1)
          clear HNO HYE
          go_wp2_with (refine wp_storePf rfl _ _ rfl w.heap.size _ _ (.slice none 0 0) (.slice none 0 0) A3 rfl rfl rfl rfl ?_; intro hfin)
          refine ret_pf2 4 5 w.heap.size _ _ _ rfl rfl rfl rfl hfin ?_
          exact hQ
        | false =>
          cases PB with
          | false =>
            have hQ := HNO.out (fun h => by cases h.2.1)
            clear HNO HYE
            go_wp2_with (refine wp_storePf rfl _ _ rfl w.heap.size _ _ (.slice none 0 0) (.slice none 0 0) A3 rfl rfl rfl rfl ?_; intro hfin)
            refine ret_pf2 4 5 w.heap.size _ _ _ rfl rfl rfl rfl hfin ?_
            exact hQ
          | true =>
            by_cases ht : PT = s
            · have hQ := HYE.out ⟨rfl, rfl, ht⟩
              have qt : (PT.toList == s.toList) = true := by rw [ht]; simp
              clear HNO HYE ht
              go_wp2_with (first | (refine wp_loadPf rfl _ rfl w1.heap.size _ _ rfl HP3.out ?_) | (refine wp_storePf rfl _ _ rfl w.heap.size _ _ (.slice au l.length cu) vS A3 rfl rfl rfl hone ?_; intro hfin))
              refine ret_pf2 4 5 w.heap.size _ _ _ rfl rfl rfl rfl hfin ?_
              exact hQ
            · have hQ := HNO.out (fun h => ht h.2.2)
              have qt : (PT.toList == s.toList) = false := LV.bytes_ne ht
              clear HNO HYE ht
              go_wp2_with (refine wp_storePf rfl _ _ rfl w.heap.size _ _ (.slice none 0 0) (.slice none 0 0) A3 rfl rfl rfl rfl ?_; intro hfin)
              refine ret_pf2 4 5 w.heap.size _ _ _ rfl rfl rfl rfl hfin ?_
              exact hQ

end Go.Proofs.YtfojmagcoipbnaaGreatDoor
/-
  Two texts out of two proofs: the specification's answer.
-/
namespace Go.Proofs.YtfojmagcoipbnaaGreatDoor
open Go.RowKit Go.BigFrame Go.Sort
set_option linter.unusedVariables false
set_option linter.unusedSimpArgs false

set_option maxRecDepth 100000 in
set_option maxHeartbeats 2000000 in
theorem sExtractTwo_any (nm : ByteArray) (vb vs ub us : Value) (gb ob gs os hb ob' hs os' : Nat) (B : List Le) (S : List ByteArray) (C : List Le) (T : List ByteArray) (x : Int) (w : World) (hnm : nm.size ≤ 1048576) (h1 : RS 2 lcs w vb gb ob B) (s1 : SmallL B) (h2 : SS w vs gs os S) (h3 : RS 2 lcs w ub hb ob' C) (s2 : SmallL C) (h4 : SS w us hs os' T) :
    Calls Tryz.prog 29 #[.string nm, .agg #[vb, vs], .agg #[ub, us], .int .i64 x] w fun e w' => e = .returned (trip (xtR nm B S C T x)) ∧ Below w.heap.size w w' := by
  have hba : Below w.heap.size w ((w.alloc (.cells #[vb, vs] 29)).alloc (.cells #[ub, us] 29)) := ((Below.refl _ _).alloc (Nat.le_refl _) _).alloc (by simp) _
  have HP : Hid (∀ W, Below ((w.alloc (.cells #[vb, vs] 29)).alloc (.cells #[ub, us] 29)).heap.size ((w.alloc (.cells #[vb, vs] 29)).alloc (.cells #[ub, us] 29)) W → W.cell? ⟨w.heap.size, 0, none⟩ = some vb ∧ W.cell? ⟨w.heap.size, 1, none⟩ = some vs ∧ W.cell? ⟨w.heap.size + 1, 0, none⟩ = some ub ∧ W.cell? ⟨w.heap.size + 1, 1, none⟩ = some us ∧ Below w.heap.size w W) := two_boxes
  have HU : Hid (∀ W, Below w.heap.size w W → RS 2 lcs W vb gb ob B ∧ SS W vs gs os S ∧ RS 2 lcs W ub hb ob' C ∧ SS W us hs os' T) := fun W hW => ⟨h1.later hW, h2.below hW h2.lt, h3.later hW, h4.below hW h4.lt⟩
  have HPT : Hid (∀ W, Below w.heap.size w W → Calls Tryz.prog 33 #[.string nm, .agg #[vb, vs], .int .i64 x] W fun e w' => ∃ v, e = .returned v ∧ OS W.heap.size W w' v (ptA nm B S x)) := fun W hW => sProofTexts_any nm vb vs gb ob gs os B S x W hnm (HU.out W hW).1 s1 (HU.out W hW).2.1
  have HQT : Hid (∀ W, Below w.heap.size w W → Calls Tryz.prog 33 #[.string nm, .agg #[ub, us], .int .i64 x] W fun e w' => ∃ v, e = .returned v ∧ OS W.heap.size W w' v (ptA nm C T x)) := fun W hW => sProofTexts_any nm ub us hb ob' hs os' C T x W hnm (HU.out W hW).2.2.1 s2 (HU.out W hW).2.2.2
  have HPH : Hid (∀ W, Below w.heap.size w W → Calls Tryz.prog 31 #[.string nm, .agg #[vb, vs], .int .i64 x] W fun e w' => e = .returned (.string (phA nm B S x)) ∧ Below W.heap.size W w') := fun W hW => sProofHash_any nm vb vs gb ob gs os B S x W hnm (HU.out W hW).1 s1 (HU.out W hW).2.1
  have HQH : Hid (∀ W, Below w.heap.size w W → Calls Tryz.prog 31 #[.string nm, .agg #[ub, us], .int .i64 x] W fun e w' => e = .returned (.string (phA nm C T x)) ∧ Below W.heap.size W w') := fun W hW => sProofHash_any nm ub us hb ob' hs os' C T x W hnm (HU.out W hW).2.2.1 s2 (HU.out W hW).2.2.2
  have HL1 : Hid (∀ W, Below w.heap.size w W → Calls Tryz.prog 109 #[.string nm, .agg #[vb, vs]] W fun e w' => e = .returned (.tuple #[.string (LV.getV B nm), .bool (LV.getB B nm)]) ∧ Below W.heap.size W w') := fun W hW => sProofSays_any nm vb vs gb ob B W (HU.out W hW).1
  have HL2 : Hid (∀ W, Below w.heap.size w W → Calls Tryz.prog 109 #[.string nm, .agg #[ub, us]] W fun e w' => e = .returned (.tuple #[.string (LV.getV C nm), .bool (LV.getB C nm)]) ∧ Below W.heap.size W w') := fun W hW => sProofSays_any nm ub us hb ob' C W (HU.out W hW).2.2.1
  have HR : Hid (xtR nm B S C T x = if (ptA nm B S x).length = 0 ∨ (ptA nm B S x).length ≠ (ptA nm C T x).length ∨ phA nm B S x ≠ phA nm C T x ∨ (decide (LV.getV B nm = LV.getV C nm) && (LV.getB B nm == LV.getB C nm)) = true then (⟨#[]⟩, ⟨#[]⟩, false) else lu (ptA nm B S x) (ptA nm C T x) (ptA nm B S x).length) := rfl
  have HZ1 : Hid ((ptA nm B S x).length ≤ 9) := ptA_len _ _ _ _
  have HZ2 : Hid ((ptA nm C T x).length ≤ 9) := ptA_len _ _ _ _
  generalize xtR nm B S C T x = R at *
  generalize phA nm B S x = H1 at *
  generalize phA nm C T x = H2 at *
  generalize ptA nm B S x = L1 at *
  generalize ptA nm C T x = L2 at *
  generalize LV.getV B nm = V1 at *
  generalize LV.getV C nm = V2 at *
  generalize LV.getB B nm = R1 at *
  generalize LV.getB C nm = R2 at *
  obtain ⟨p0, p1, p2, p3, _⟩ := HP.out _ (Below.refl _ _)
  clear h1 h2 h3 h4 s1 s2 HU
  go_enter Tryz.func29, Tryz.ntmps29
  go_wp2_with fail
  refine (HPT.out _ hba).mono ?_
  rintro e w1 ⟨v1, rfl, ho1⟩
  obtain ⟨k0, k1, k2, k3, b1⟩ := HP.out _ ho1.2.1
  clear p0 p1 p2 p3
  have hc1 := ho1.2.1
  go_wp2_with fail
  refine (HQT.out _ b1).mono ?_
  rintro e w2 ⟨v2, rfl, ho2⟩
  have hc2 := hc1.trans (ho2.2.1.mono hc1.size)
  clear k0 k1 k2 k3
  obtain ⟨g1, hs1⟩ := ho1.ss (by have := HZ1.out; omega)
  obtain ⟨g2, hs2⟩ := ho2.ss (by have := HZ2.out; omega)
  obtain ⟨a1, c1, rfl⟩ := ho1.slice
  obtain ⟨a2, c2, rfl⟩ := ho2.slice
  have HS : Hid (∀ W, Below w2.heap.size w2 W → SS W (.slice a1 L1.length c1) g1 0 L1 ∧ SS W (.slice a2 L2.length c2) g2 0 L2) := fun W hW => ⟨(hs1.below ho2.2.1 hs1.lt).below hW (hs1.below ho2.2.1 hs1.lt).lt, hs2.below hW hs2.lt⟩
  have HS2 : Hid (∀ W, Below w2.heap.size w2 W → W.cell? ⟨w.heap.size, 0, none⟩ = some vb ∧ W.cell? ⟨w.heap.size, 1, none⟩ = some vs ∧ W.cell? ⟨w.heap.size + 1, 0, none⟩ = some ub ∧ W.cell? ⟨w.heap.size + 1, 1, none⟩ = some us ∧ Below w.heap.size w W) := fun W hW => HP.out W (hc2.trans (hW.mono hc2.size))
  have b2 := (HS2.out _ (Below.refl _ _)).2.2.2.2
  have hz1 := HZ1.out
  have hz2 := HZ2.out
  clear HPT HQT hs1 hs2 ho1 ho2 HP hc1 hc2 HZ1 HZ2 b1 hba
  obtain ⟨n1, hn1⟩ : ∃ n1, L1.length = n1 := ⟨_, rfl⟩
  obtain ⟨n2, hn2⟩ : ∃ n2, L2.length = n2 := ⟨_, rfl⟩
  have HN : Hid (L1.length = n1 ∧ L2.length = n2) := ⟨hn1, hn2⟩
  rw [hn1] at hz1 HR HS ⊢
  rw [hn2] at hz2 HR HS ⊢
  clear hn1 hn2
  obtain ⟨k0, k1, k2, k3, _⟩ := HS2.out _ (Below.refl _ _)
  have kq0 := cell_regrown (w := w2) k0
  have kq1 := cell_regrown (w := w2) k1
  have kq2 := cell_regrown (w := w2) k2
  have kq3 := cell_regrown (w := w2) k3
  have cq0 := fun d os => Calls.regrown_of (w := w2) (d := d) (os := os) (HPH.out _ (b2.trans ((below_regrown w2 d os).mono b2.size)))
  have cq1 := fun d os => Calls.regrown_of (w := w2) (d := d) (os := os) (HQH.out _ (b2.trans ((below_regrown w2 d os).mono b2.size)))
  clear HPH HQH k0 k1 k2 k3
  by_cases e1 : n1 = 0
  · have hR : R = (⟨#[]⟩, ⟨#[]⟩, false) := by rw [HR.out, if_pos (.inl e1)]
    subst hR
    subst e1
    clear HR HL1 HL2 HS HS2
    go_wp2
    refine wp_region_quiet_below (by kernel_rfl) (by kernel_rfl) ?_
    repeat (go_big_quiet_step (first | with_reducible exact cq0 _ _ | with_reducible exact cq1 _ _))
    refine wpQuiet_nil ?_
    rintro _ ⟨⟨dq, osq⟩, rfl⟩
    have hb6 := below_regrown w2 dq osq
    generalize grow (redrawn w2 dq) osq = w6 at *
    clear kq0 kq1 kq2 kq3 cq0 cq1
    have b6 := b2.trans (hb6.mono b2.size)
    go_wp2
    go_ret3
    exact ⟨rfl, b6⟩
  have q1 : ((n1 : Int) == 0) = false := by simp; omega
  by_cases e2 : n1 = n2
  · subst e2
    by_cases e3 : H1 = H2
    · have q3 : (H1.toList == H2.toList) = true := by rw [e3]; simp
      go_wp2
      refine wp_region_quiet_below (by kernel_rfl) (by kernel_rfl) ?_
      repeat (go_big_quiet_step (first | with_reducible exact cq0 _ _ | with_reducible exact cq1 _ _))
      refine wpQuiet_nil ?_
      rintro _ ⟨⟨dq, osq⟩, rfl⟩
      have hb6 := below_regrown w2 dq osq
      generalize grow (redrawn w2 dq) osq = w6 at *
      clear kq0 kq1 kq2 kq3 cq0 cq1
      have b6 := b2.trans (hb6.mono b2.size)
      obtain ⟨k0, k1, k2, k3, _⟩ := HS2.out _ hb6
      go_wp2_with fail
      refine (HL1.out _ b6).mono ?_
      rintro e w7 ⟨rfl, hb7⟩
      have hb7' := hb6.trans (hb7.mono hb6.size)
      clear k0 k1 k2 k3 HL1
      obtain ⟨k0, k1, k2, k3, b7⟩ := HS2.out _ hb7'
      go_wp2_with fail
      refine (HL2.out _ b7).mono ?_
      rintro e w8 ⟨rfl, hb8⟩
      have hb8' := hb7'.trans (hb8.mono hb7'.size)
      obtain ⟨_, _, _, _, b8⟩ := HS2.out _ hb8'
      clear k0 k1 k2 k3 HL2 hb7 hb8 hb7' b7 HS2 hb6 b6
      cases hsy : (decide (V1 = V2) && (R1 == R2)) with
      | true =>
        have hR : R = (⟨#[]⟩, ⟨#[]⟩, false) := by rw [HR.out, if_pos (.inr (.inr (.inr hsy)))]
        subst hR
        rw [Bool.and_eq_true, decide_eq_true_eq, beq_iff_eq] at hsy
        obtain ⟨rfl, rfl⟩ := hsy
        clear HR e3 q3 HS
        go_wp2
        go_ret3
        exact ⟨rfl, b8⟩
      | false =>
        have hR : R = lu L1 L2 n1 := by rw [HR.out, if_neg (by rintro (h | h | h | h); exact e1 h; exact h rfl; exact h e3; rw [hsy] at h; cases h)]
        have HRL : Hid (lu L1 L2 n1 = R) := hR.symm
        have HST : Hid (PxR w2 (lu L1 L2) n1 (.int .i64 ((n1 : Int) - 1)) w8) := ⟨n1, Nat.le_refl _, rfl, hb8', rfl⟩
        have HSB : Hid (∀ W, Below w2.heap.size w2 W → Below w.heap.size w W) := fun W hW => b2.trans (hW.mono b2.size)
        clear HR e3 q3 hR hb8' b8
        by_cases hV : V1 = V2
        · rw [decide_eq_true hV, Bool.true_and] at hsy
          have q5 : (V1.toList == V2.toList) = true := by rw [hV]; simp
          clear hV
          go_wp2
          go_loopw [17] (fun i wr => PxR w2 (lu L1 L2) n1 i wr) (fun i _ => (intOf i + 1).toNat)
          case atStart => exact HST.out
          case round =>
            obtain ⟨m, hm, rfl, HI⟩ := hrel
            clear HST
            cases m with
            | zero =>
              have hRf : R = (⟨#[]⟩, ⟨#[]⟩, false) := by rw [← HRL.out, HI.out.2]; rfl
              subst hRf
              have HF : Hid (Below w.heap.size w wr) := HSB.out _ HI.out.1
              clear HI HRL HS HN HSB
              go_wp2
              go_ret3
              exact ⟨rfl, HF.out⟩
            | succ k =>
              have hka : k < L1.length := by rw [HN.out.1]; omega
              have hkb : k < L2.length := by rw [HN.out.2]; omega
              have ea : a1 = some ⟨g1, 0, none⟩ := by
                obtain ⟨_, _, ev, _, h3, _⟩ := (HS.out w2 (Below.refl _ _)).1
                simp only [Value.slice.injEq] at ev
                rw [ev.1]
                exact h3 (by omega)
              have eb : a2 = some ⟨g2, 0, none⟩ := by
                obtain ⟨_, _, ev, _, h3, _⟩ := (HS.out w2 (Below.refl _ _)).2
                simp only [Value.slice.injEq] at ev
                rw [ev.1]
                exact h3 (by omega)
              subst ea
              subst eb
              have e1' : (((k + 1 : Nat) : Int) - 1) = (k : Int) := by omega
              rw [e1']
              obtain ⟨X, hX⟩ : ∃ X, L1[k] = X := ⟨_, rfl⟩
              obtain ⟨Y, hY⟩ : ∃ Y, L2[k] = Y := ⟨_, rfl⟩
              have HCC : Hid (∀ W, Below w2.heap.size w2 W → W.cell? ⟨g1, k, none⟩ = some (.string X) ∧ W.cell? ⟨g2, k, none⟩ = some (.string Y)) := fun W hW => by
                obtain ⟨⟨a1, b1, e2, _, h2, h3⟩, ⟨a4, b4, e5, _, h5, h6⟩⟩ := HS.out W hW
                have z1 := h3 k hka
                have z2 := h6 k hkb
                rw [Nat.zero_add] at z1 z2
                exact ⟨by rw [← hX]; exact z1, by rw [← hY]; exact z2⟩
              obtain ⟨c0, d0⟩ := HCC.out _ HI.out.1
              have HUU : Hid (lu L1 L2 (k + 1) = if X = Y then lu L1 L2 k else (X, Y, true)) := by
                show lu L1 L2 (k + 1) = _
                rw [lu]
                simp only [List.getD_eq_getElem?_getD, List.getElem?_eq_getElem hka, List.getElem?_eq_getElem hkb, Option.getD_some, hX, hY]
              have i1 : (k : Int) < (n1 : Int) := by omega
              have i2 : (0 : Int) ≤ (k : Int) := by omega
              clear hX hY hka hkb
              by_cases hk : X = Y
              · have q : (X.toList == Y.toList) = true := by rw [hk]; simp
                have hH : Below w2.heap.size w2 wr ∧ lu L1 L2 n1 = lu L1 L2 k := ⟨HI.out.1, by rw [HI.out.2, HUU.out, if_pos hk]⟩
                have HJ : Hid (Below w2.heap.size w2 wr ∧ lu L1 L2 n1 = lu L1 L2 k) := hH
                clear HUU HI hH hk HCC HS
                go_wp2
                go_quiet (fail)
                go_wp2
                refine ⟨⟨k, by omega, rfl, HJ.out.1.trans (⟨rfl, rfl, rfl, Nat.le_refl _, fun _ _ => rfl⟩), HJ.out.2⟩, ?_⟩
                simp [intOf]
              · have q : (X.toList == Y.toList) = false := LV.bytes_ne hk
                have hRR : R = (X, Y, true) := by rw [← HRL.out, HI.out.2, HUU.out, if_neg hk]
                subst hRR
                have HF : Hid (Below w2.heap.size w2 wr) := HI.out.1
                clear HUU HI hk HS HRL
                go_wp2
                go_quiet (fail)
                go_wp2
                have hbd : Below w2.heap.size w2 (wr.drewN nq) := HF.out.trans (⟨rfl, rfl, rfl, Nat.le_refl _, fun _ _ => rfl⟩)
                obtain ⟨c1, d1⟩ := HCC.out _ hbd
                clear HCC c0 d0 HF
                generalize wr.drewN nq = wd at *
                go_quiet (fail)
                go_wp2
                try rw [Exit.noGoto_ret]
                go_ret3
                exact ⟨rfl, HSB.out _ (hbd.trans ⟨rfl, rfl, rfl, Nat.le_refl _, fun _ _ => rfl⟩)⟩
        · have q5 : (V1.toList == V2.toList) = false := LV.bytes_ne hV
          clear hV hsy
          go_wp2
          go_loopw [17] (fun i wr => PxR w2 (lu L1 L2) n1 i wr) (fun i _ => (intOf i + 1).toNat)
          case atStart => exact HST.out
          case round =>
            obtain ⟨m, hm, rfl, HI⟩ := hrel
            clear HST
            cases m with
            | zero =>
              have hRf : R = (⟨#[]⟩, ⟨#[]⟩, false) := by rw [← HRL.out, HI.out.2]; rfl
              subst hRf
              have HF : Hid (Below w.heap.size w wr) := HSB.out _ HI.out.1
              clear HI HRL HS HN HSB
              go_wp2
              go_ret3
              exact ⟨rfl, HF.out⟩
            | succ k =>
              have hka : k < L1.length := by rw [HN.out.1]; omega
              have hkb : k < L2.length := by rw [HN.out.2]; omega
              have ea : a1 = some ⟨g1, 0, none⟩ := by
                obtain ⟨_, _, ev, _, h3, _⟩ := (HS.out w2 (Below.refl _ _)).1
                simp only [Value.slice.injEq] at ev
                rw [ev.1]
                exact h3 (by omega)
              have eb : a2 = some ⟨g2, 0, none⟩ := by
                obtain ⟨_, _, ev, _, h3, _⟩ := (HS.out w2 (Below.refl _ _)).2
                simp only [Value.slice.injEq] at ev
                rw [ev.1]
                exact h3 (by omega)
              subst ea
              subst eb
              have e1' : (((k + 1 : Nat) : Int) - 1) = (k : Int) := by omega
              rw [e1']
              obtain ⟨X, hX⟩ : ∃ X, L1[k] = X := ⟨_, rfl⟩
              obtain ⟨Y, hY⟩ : ∃ Y, L2[k] = Y := ⟨_, rfl⟩
              have HCC : Hid (∀ W, Below w2.heap.size w2 W → W.cell? ⟨g1, k, none⟩ = some (.string X) ∧ W.cell? ⟨g2, k, none⟩ = some (.string Y)) := fun W hW => by
                obtain ⟨⟨a1, b1, e2, _, h2, h3⟩, ⟨a4, b4, e5, _, h5, h6⟩⟩ := HS.out W hW
                have z1 := h3 k hka
                have z2 := h6 k hkb
                rw [Nat.zero_add] at z1 z2
                exact ⟨by rw [← hX]; exact z1, by rw [← hY]; exact z2⟩
              obtain ⟨c0, d0⟩ := HCC.out _ HI.out.1
              have HUU : Hid (lu L1 L2 (k + 1) = if X = Y then lu L1 L2 k else (X, Y, true)) := by
                show lu L1 L2 (k + 1) = _
                rw [lu]
                simp only [List.getD_eq_getElem?_getD, List.getElem?_eq_getElem hka, List.getElem?_eq_getElem hkb, Option.getD_some, hX, hY]
              have i1 : (k : Int) < (n1 : Int) := by omega
              have i2 : (0 : Int) ≤ (k : Int) := by omega
              clear hX hY hka hkb
              by_cases hk : X = Y
              · have q : (X.toList == Y.toList) = true := by rw [hk]; simp
                have hH : Below w2.heap.size w2 wr ∧ lu L1 L2 n1 = lu L1 L2 k := ⟨HI.out.1, by rw [HI.out.2, HUU.out, if_pos hk]⟩
                have HJ : Hid (Below w2.heap.size w2 wr ∧ lu L1 L2 n1 = lu L1 L2 k) := hH
                clear HUU HI hH hk HCC HS
                go_wp2
                go_quiet (fail)
                go_wp2
                refine ⟨⟨k, by omega, rfl, HJ.out.1.trans (⟨rfl, rfl, rfl, Nat.le_refl _, fun _ _ => rfl⟩), HJ.out.2⟩, ?_⟩
                simp [intOf]
              · have q : (X.toList == Y.toList) = false := LV.bytes_ne hk
                have hRR : R = (X, Y, true) := by rw [← HRL.out, HI.out.2, HUU.out, if_neg hk]
                subst hRR
                have HF : Hid (Below w2.heap.size w2 wr) := HI.out.1
                clear HUU HI hk HS HRL
                go_wp2
                go_quiet (fail)
                go_wp2
                have hbd : Below w2.heap.size w2 (wr.drewN nq) := HF.out.trans (⟨rfl, rfl, rfl, Nat.le_refl _, fun _ _ => rfl⟩)
                obtain ⟨c1, d1⟩ := HCC.out _ hbd
                clear HCC c0 d0 HF
                generalize wr.drewN nq = wd at *
                go_quiet (fail)
                go_wp2
                try rw [Exit.noGoto_ret]
                go_ret3
                exact ⟨rfl, HSB.out _ (hbd.trans ⟨rfl, rfl, rfl, Nat.le_refl _, fun _ _ => rfl⟩)⟩
    · have q3 : (H1.toList == H2.toList) = false := LV.bytes_ne e3
      have hR : R = (⟨#[]⟩, ⟨#[]⟩, false) := by rw [HR.out, if_pos (.inr (.inr (.inl e3)))]
      subst hR
      clear HR HL1 HL2 HS HS2
      go_wp2
      refine wp_region_quiet_below (by kernel_rfl) (by kernel_rfl) ?_
      repeat (go_big_quiet_step (first | with_reducible exact cq0 _ _ | with_reducible exact cq1 _ _))
      refine wpQuiet_nil ?_
      rintro _ ⟨⟨dq, osq⟩, rfl⟩
      have hb6 := below_regrown w2 dq osq
      generalize grow (redrawn w2 dq) osq = w6 at *
      clear kq0 kq1 kq2 kq3 cq0 cq1
      have b6 := b2.trans (hb6.mono b2.size)
      go_wp2
      go_ret3
      exact ⟨rfl, b6⟩
  · have hR : R = (⟨#[]⟩, ⟨#[]⟩, false) := by rw [HR.out, if_pos (.inr (.inl e2))]
    subst hR
    have q2 : ((n1 : Int) != (n2 : Int)) = true := by simp; omega
    clear HR HL1 HL2 HS HS2
    go_wp2
    refine wp_region_quiet_below (by kernel_rfl) (by kernel_rfl) ?_
    repeat (go_big_quiet_step (first | with_reducible exact cq0 _ _ | with_reducible exact cq1 _ _))
    refine wpQuiet_nil ?_
    rintro _ ⟨⟨dq, osq⟩, rfl⟩
    have hb6 := below_regrown w2 dq osq
    generalize grow (redrawn w2 dq) osq = w6 at *
    clear kq0 kq1 kq2 kq3 cq0 cq1
    have b6 := b2.trans (hb6.mono b2.size)
    go_wp2
    go_ret3
    exact ⟨rfl, b6⟩

end Go.Proofs.YtfojmagcoipbnaaGreatDoor
/-
  The walk of the law FnProofsTold: it answers true of every code.
-/
namespace Go.Proofs.YtfojmagcoipbnaaGreatDoor
open Go.RowKit Go.BigFrame Go.Sort
set_option linter.unusedVariables false
set_option linter.unusedSimpArgs false

/-- a proof in its box, and its rows -/
def PfB (gp : Nat) (vb vs : Value) (gb gs : Nat) (B : List Le) (S : List ByteArray) (W : World) : Prop := PfM W gp vb vs ∧ RS 2 lcs W vb gb 0 B ∧ SS W vs gs 0 S
theorem PfB.later {gp gb gs : Nat} {vb vs : Value} {B : List Le} {S : List ByteArray} {W W' : World} (h : PfB gp vb vs gb gs B S W) (hb : Below W.heap.size W W') : PfB gp vb vs gb gs B S W' := ⟨h.1.later hb, h.2.1.later hb, h.2.2.below hb h.2.2.lt⟩
theorem below_bx (W : World) (R : Array Value) : Below W.heap.size W ((W.alloc (.cells #[.slice none 0 0, .slice none 0 0] 29)).setRow W.heap.size R) := below_setRow ((Below.refl _ _).alloc (Nat.le_refl _) _) (Nat.le_refl _)
theorem pf_ann : pfOk ⟨#[97, 110, 110]⟩ [] [] 16 = true := by
  have h := (nameL_ok ⟨#[97, 110, 110]⟩ (by simp [nameL])).1
  have h2 : LV.leavesB [] = true := leaves_none
  have h3 : wideB [] 16 = true := by decide
  simp [pfOk, h, h2, h3]

set_option maxRecDepth 100000 in
set_option maxHeartbeats 4000000 in
theorem proofsToldLaw_any (a0 : Option Addr) (len0 cap0 : Nat) (w : World) (hl0 : len0 ≤ 1048576) (hc : Code w.heap.size w (.slice a0 len0 cap0)) (hK : TabK w) (hF : TabF w) :
    Calls Tryz.prog 4 #[.slice a0 len0 cap0] w fun e w' => e = .returned (.bool true) ∧ Below w.heap.size w w' := by
  have HC : Hid (∀ W, Below w.heap.size w W → Code W.heap.size W (.slice a0 len0 cap0)) := fun W hW => code_laterR hc hW
  have HT : Hid (∀ W, Below w.heap.size w W → Tb W) := fun W hW => Tb.later ⟨hK, hF⟩ hW
  clear hK hF hc
  go_enter Tryz.func4, Tryz.ntmps4
  go_wp2_with fail
  refine (big_no a0 len0 cap0 _ hl0).mono ?_
  rintro e w0 ⟨rfl, rfl⟩
  have HD1 := DrawProofOk_any w0 _ (HC.out _ (Below.refl _ _))
  go_wp2_with fail
  refine HD1.mono ?_
  clear HD1
  rintro e w1 ⟨nm, vb, vs, gb, gs, B, S, x, rfl, hpf, hrb, hss, hb1⟩
  obtain ⟨ab, nb, cb, rfl⟩ : ∃ a n c, vb = .slice a n c := by obtain ⟨a, c, e⟩ := hrb.shape; exact ⟨a, _, c, e⟩
  obtain ⟨aS, nS, cS, rfl⟩ : ∃ a n c, vs = .slice a n c := by obtain ⟨a, c, e, _⟩ := hss; exact ⟨a, _, c, e⟩
  have hpn := PfM.new w1 (.slice none 0 0) (.slice none 0 0)
  go_wp2_with (refine wp_storePf rfl _ _ rfl w1.heap.size _ _ (.slice ab nb cb) (.slice aS nS cS) hpn rfl rfl rfl rfl ?_; intro hfin)
  have hbx := below_bx w1 #[.slice ab nb cb, .slice aS nS cS]
  have H2 : Hid (Below w0.heap.size w0 ((w1.alloc (.cells #[.slice none 0 0, .slice none 0 0] 29)).setRow w1.heap.size #[.slice ab nb cb, .slice aS nS cS]) ∧ PfB w1.heap.size (.slice ab nb cb) (.slice aS nS cS) gb gs B S ((w1.alloc (.cells #[.slice none 0 0, .slice none 0 0] 29)).setRow w1.heap.size #[.slice ab nb cb, .slice aS nS cS])) := ⟨hb1.trans (hbx.mono hb1.size), hfin, hrb.later hbx, hss.below hbx hss.lt⟩
  obtain ⟨gp, hgp⟩ : ∃ gp, w1.heap.size = gp := ⟨_, rfl⟩
  rw [hgp] at H2 ⊢
  clear hpn hfin hbx hrb hss hb1 hgp
  generalize (w1.alloc (.cells #[.slice none 0 0, .slice none 0 0] 29)).setRow gp #[.slice ab nb cb, .slice aS nS cS] = w2 at H2 ⊢
  refine (DrawReadProof_any w2 _ (HC.out _ H2.out.1)).mono ?_
  rintro e w3 ⟨t, y, rfl, ht, hb3⟩
  have H3 : Hid (Below w0.heap.size w0 w3 ∧ PfB gp (.slice ab nb cb) (.slice aS nS cS) gb gs B S w3) := ⟨H2.out.1.trans (hb3.mono H2.out.1.size), H2.out.2.later hb3⟩
  clear H2 hb3
  go_wp2_with fail
  refine (ReadProof_any t y w3 ht).mono ?_
  rintro e w4 ⟨xa, ya, xA, yA, ga, gA, rfl, hra, hrA, _, _, _, hb4⟩
  generalize hRL : rpL t y = RL at *
  generalize hRS : rpS t y = RR at *
  generalize hRO : rpOk t y = RO at *
  obtain ⟨na, hna⟩ : ∃ n, RL.length = n := ⟨_, rfl⟩
  obtain ⟨nA, hnA⟩ : ∃ n, RR.length = n := ⟨_, rfl⟩
  rw [hna] at hra ⊢
  rw [hnA] at hrA ⊢
  have hpn := PfM.new w4 (.slice none 0 0) (.slice none 0 0)
  go_wp2_with (refine wp_storePf rfl _ _ rfl w4.heap.size _ _ (.slice xa na ya) (.slice xA nA yA) hpn rfl rfl rfl rfl ?_; intro hfin)
  have hbx := below_bx w4 #[.slice xa na ya, .slice xA nA yA]
  have H5 : Hid (Below w0.heap.size w0 ((w4.alloc (.cells #[.slice none 0 0, .slice none 0 0] 29)).setRow w4.heap.size #[.slice xa na ya, .slice xA nA yA]) ∧ PfB gp (.slice ab nb cb) (.slice aS nS cS) gb gs B S ((w4.alloc (.cells #[.slice none 0 0, .slice none 0 0] 29)).setRow w4.heap.size #[.slice xa na ya, .slice xA nA yA]) ∧ PfB w4.heap.size (.slice xa na ya) (.slice xA nA yA) ga gA RL RR ((w4.alloc (.cells #[.slice none 0 0, .slice none 0 0] 29)).setRow w4.heap.size #[.slice xa na ya, .slice xA nA yA])) :=
    ⟨(H3.out.1.trans (hb4.mono H3.out.1.size)).trans (hbx.mono (Nat.le_trans H3.out.1.size hb4.size)), (H3.out.2.later hb4).later hbx, hfin, hra.1.later hbx, hrA.ss.below hbx hrA.ss.lt⟩
  obtain ⟨gw, hgw⟩ : ∃ gp, w4.heap.size = gp := ⟨_, rfl⟩
  rw [hgw] at H5 ⊢
  clear hpn hfin hbx hra hrA hb4 hgw H3
  generalize (w4.alloc (.cells #[.slice none 0 0, .slice none 0 0] 29)).setRow gw #[.slice xa na ya, .slice xA nA yA] = w5 at H5 ⊢
  have hsR := sReadProof_any t y w5 ht
  rw [hRL, hRS, hRO] at hsR
  clear hRL hRS hRO
  refine hsR.mono ?_
  clear hsR
  rintro e w6 ⟨xc, yc, xC, yC, gc, gC, rfl, hrc, hrC, _, _, _, hb6⟩
  rw [hna] at hrc ⊢
  rw [hnA] at hrC ⊢
  clear hna hnA
  have hpn := PfM.new w6 (.slice none 0 0) (.slice none 0 0)
  go_wp2_with (refine wp_storePf rfl _ _ rfl w6.heap.size _ _ (.slice xc na yc) (.slice xC nA yC) hpn rfl rfl rfl rfl ?_; intro hfin)
  have hbx := below_bx w6 #[.slice xc na yc, .slice xC nA yC]
  have H7 : Hid (Below w0.heap.size w0 ((w6.alloc (.cells #[.slice none 0 0, .slice none 0 0] 29)).setRow w6.heap.size #[.slice xc na yc, .slice xC nA yC]) ∧ PfB gp (.slice ab nb cb) (.slice aS nS cS) gb gs B S ((w6.alloc (.cells #[.slice none 0 0, .slice none 0 0] 29)).setRow w6.heap.size #[.slice xc na yc, .slice xC nA yC]) ∧ PfB gw (.slice xa na ya) (.slice xA nA yA) ga gA RL RR ((w6.alloc (.cells #[.slice none 0 0, .slice none 0 0] 29)).setRow w6.heap.size #[.slice xc na yc, .slice xC nA yC]) ∧ PfB w6.heap.size (.slice xc na yc) (.slice xC nA yC) gc gC RL RR ((w6.alloc (.cells #[.slice none 0 0, .slice none 0 0] 29)).setRow w6.heap.size #[.slice xc na yc, .slice xC nA yC])) :=
    ⟨(H5.out.1.trans (hb6.mono H5.out.1.size)).trans (hbx.mono (Nat.le_trans H5.out.1.size hb6.size)), (H5.out.2.1.later hb6).later hbx, (H5.out.2.2.later hb6).later hbx, hfin, hrc.1.later hbx, hrC.ss.below hbx hrC.ss.lt⟩
  obtain ⟨gz, hgz⟩ : ∃ gp, w6.heap.size = gp := ⟨_, rfl⟩
  rw [hgz] at H7 ⊢
  clear hpn hfin hbx hrc hrC hb6 hgz H5
  generalize (w6.alloc (.cells #[.slice none 0 0, .slice none 0 0] 29)).setRow gz #[.slice xc na yc, .slice xC nA yC] = w7 at H7 ⊢
  refine (DrawExtractTwo_any w7 _ (HC.out _ H7.out.1)).mono ?_
  rintro e w8 ⟨n2, u1, u2, u3, u4, g1, g2, g3, g4, B1, S1, B2, S2, z, rfl, hn2, k1, k2, k3, k4, hb8⟩
  obtain ⟨p1, l1, c1, rfl⟩ : ∃ a n c, u1 = .slice a n c := by obtain ⟨a, c, e⟩ := k1.shape; exact ⟨a, _, c, e⟩
  obtain ⟨p2, l2, c2, rfl⟩ : ∃ a n c, u2 = .slice a n c := by obtain ⟨a, c, e, _⟩ := k2; exact ⟨a, _, c, e⟩
  obtain ⟨p3, l3, c3, rfl⟩ : ∃ a n c, u3 = .slice a n c := by obtain ⟨a, c, e⟩ := k3.shape; exact ⟨a, _, c, e⟩
  obtain ⟨p4, l4, c4, rfl⟩ : ∃ a n c, u4 = .slice a n c := by obtain ⟨a, c, e, _⟩ := k4; exact ⟨a, _, c, e⟩
  have q1 : PfM ((w8.alloc (.cells #[.slice none 0 0, .slice none 0 0] 29)).alloc (.cells #[.slice none 0 0, .slice none 0 0] 29)) w8.heap.size (.slice none 0 0) (.slice none 0 0) := (PfM.new w8 _ _).later ((Below.refl _ _).alloc (Nat.le_refl _) _)
  have q2 : PfM ((w8.alloc (.cells #[.slice none 0 0, .slice none 0 0] 29)).alloc (.cells #[.slice none 0 0, .slice none 0 0] 29)) (w8.heap.size + 1) (.slice none 0 0) (.slice none 0 0) := by
    have h := PfM.new (w8.alloc (.cells #[.slice none 0 0, .slice none 0 0] 29)) (.slice none 0 0) (.slice none 0 0)
    rw [World.size_alloc] at h
    exact h
  have q3 : PfM (((w8.alloc (.cells #[.slice none 0 0, .slice none 0 0] 29)).alloc (.cells #[.slice none 0 0, .slice none 0 0] 29)).setRow w8.heap.size #[.slice p1 l1 c1, .slice p2 l2 c2]) (w8.heap.size + 1) (.slice none 0 0) (.slice none 0 0) := q2.gr (grown_setRowP _ w8.heap.size _) (by simp)
  have hbx : Below w8.heap.size w8 ((((w8.alloc (.cells #[.slice none 0 0, .slice none 0 0] 29)).alloc (.cells #[.slice none 0 0, .slice none 0 0] 29)).setRow w8.heap.size #[.slice p1 l1 c1, .slice p2 l2 c2]).setRow (w8.heap.size + 1) #[.slice p3 l3 c3, .slice p4 l4 c4]) := below_setRow (below_setRow (((Below.refl _ _).alloc (Nat.le_refl _) _).alloc (by simp) _) (Nat.le_refl _)) (by omega)
  go_wp2_with (first | (refine wp_loadPf rfl _ rfl w8.heap.size _ _ rfl (hf1.gr (grown_setRowP _ (w8.heap.size + 1) _) (by simp)) ?_) | (refine wp_loadPf rfl _ rfl (w8.heap.size + 1) _ _ rfl hf2 ?_) | (refine wp_storePf rfl _ _ rfl w8.heap.size _ _ (.slice p1 l1 c1) (.slice p2 l2 c2) q1 rfl rfl rfl rfl ?_; intro hf1) | (refine wp_storePf rfl _ _ rfl (w8.heap.size + 1) _ _ (.slice p3 l3 c3) (.slice p4 l4 c4) q3 rfl rfl rfl rfl ?_; intro hf2))
  have H9 : Hid (Below w0.heap.size w0 ((((w8.alloc (.cells #[.slice none 0 0, .slice none 0 0] 29)).alloc (.cells #[.slice none 0 0, .slice none 0 0] 29)).setRow w8.heap.size #[.slice p1 l1 c1, .slice p2 l2 c2]).setRow (w8.heap.size + 1) #[.slice p3 l3 c3, .slice p4 l4 c4]) ∧ (PfB gp (.slice ab nb cb) (.slice aS nS cS) gb gs B S ((((w8.alloc (.cells #[.slice none 0 0, .slice none 0 0] 29)).alloc (.cells #[.slice none 0 0, .slice none 0 0] 29)).setRow w8.heap.size #[.slice p1 l1 c1, .slice p2 l2 c2]).setRow (w8.heap.size + 1) #[.slice p3 l3 c3, .slice p4 l4 c4]) ∧ PfB gw (.slice xa na ya) (.slice xA nA yA) ga gA RL RR ((((w8.alloc (.cells #[.slice none 0 0, .slice none 0 0] 29)).alloc (.cells #[.slice none 0 0, .slice none 0 0] 29)).setRow w8.heap.size #[.slice p1 l1 c1, .slice p2 l2 c2]).setRow (w8.heap.size + 1) #[.slice p3 l3 c3, .slice p4 l4 c4]) ∧ PfB gz (.slice xc na yc) (.slice xC nA yC) gc gC RL RR ((((w8.alloc (.cells #[.slice none 0 0, .slice none 0 0] 29)).alloc (.cells #[.slice none 0 0, .slice none 0 0] 29)).setRow w8.heap.size #[.slice p1 l1 c1, .slice p2 l2 c2]).setRow (w8.heap.size + 1) #[.slice p3 l3 c3, .slice p4 l4 c4])) ∧ PfB w8.heap.size (.slice p1 l1 c1) (.slice p2 l2 c2) g1 g2 B1 S1 ((((w8.alloc (.cells #[.slice none 0 0, .slice none 0 0] 29)).alloc (.cells #[.slice none 0 0, .slice none 0 0] 29)).setRow w8.heap.size #[.slice p1 l1 c1, .slice p2 l2 c2]).setRow (w8.heap.size + 1) #[.slice p3 l3 c3, .slice p4 l4 c4]) ∧ PfB (w8.heap.size + 1) (.slice p3 l3 c3) (.slice p4 l4 c4) g3 g4 B2 S2 ((((w8.alloc (.cells #[.slice none 0 0, .slice none 0 0] 29)).alloc (.cells #[.slice none 0 0, .slice none 0 0] 29)).setRow w8.heap.size #[.slice p1 l1 c1, .slice p2 l2 c2]).setRow (w8.heap.size + 1) #[.slice p3 l3 c3, .slice p4 l4 c4])) :=
    ⟨(H7.out.1.trans (hb8.mono H7.out.1.size)).trans (hbx.mono (Nat.le_trans H7.out.1.size hb8.size)), ⟨(H7.out.2.1.later hb8).later hbx, (H7.out.2.2.1.later hb8).later hbx, (H7.out.2.2.2.later hb8).later hbx⟩, ⟨hf1.gr (grown_setRowP _ _ _) (by simp), k1.later hbx, k2.below hbx k2.lt⟩, ⟨hf2, k3.later hbx, k4.below hbx k4.lt⟩⟩
  obtain ⟨gx, hgx⟩ : ∃ gx, w8.heap.size = gx := ⟨_, rfl⟩
  rw [hgx] at H9 ⊢
  clear q1 q2 q3 hf1 hf2 hbx k1 k2 k3 k4 hb8 H7 hgx
  generalize (((w8.alloc (.cells #[.slice none 0 0, .slice none 0 0] 29)).alloc (.cells #[.slice none 0 0, .slice none 0 0] 29)).setRow gx #[.slice p1 l1 c1, .slice p2 l2 c2]).setRow (gx + 1) #[.slice p3 l3 c3, .slice p4 l4 c4] = w9 at H9 ⊢
  refine (ExtractTwo_any n2 _ _ _ _ g1 0 g2 0 g3 0 g4 0 B1 S1 B2 S2 z w9 (by omega) H9.out.2.2.1.2.1 hn2.2.1 H9.out.2.2.1.2.2 H9.out.2.2.2.2.1 hn2.2.2 H9.out.2.2.2.2.2 (HT.out _ H9.out.1)).mono ?_
  rintro e w10 ⟨rfl, hb10⟩
  have H10 : Hid (Below w0.heap.size w0 w10 ∧ (PfB gp (.slice ab nb cb) (.slice aS nS cS) gb gs B S w10 ∧ PfB gw (.slice xa na ya) (.slice xA nA yA) ga gA RL RR w10 ∧ PfB gz (.slice xc na yc) (.slice xC nA yC) gc gC RL RR w10) ∧ PfB gx (.slice p1 l1 c1) (.slice p2 l2 c2) g1 g2 B1 S1 w10 ∧ PfB (gx + 1) (.slice p3 l3 c3) (.slice p4 l4 c4) g3 g4 B2 S2 w10) := ⟨H9.out.1.trans (hb10.mono H9.out.1.size), ⟨H9.out.2.1.1.later hb10, H9.out.2.1.2.1.later hb10, H9.out.2.1.2.2.later hb10⟩, H9.out.2.2.1.later hb10, H9.out.2.2.2.later hb10⟩
  have hsx := sExtractTwo_any n2 _ _ _ _ g1 0 g2 0 g3 0 g4 0 B1 S1 B2 S2 z w10 (by omega) H10.out.2.2.1.2.1 hn2.2.1 H10.out.2.2.1.2.2 H10.out.2.2.2.2.1 hn2.2.2 H10.out.2.2.2.2.2
  clear H9 hb10
  generalize xtR n2 B1 S1 B2 S2 z = XT at *
  obtain ⟨X1, X2, X3⟩ := XT
  unfold trip at hsx ⊢
  dsimp only at hsx ⊢
  have p10 := H10.out.2.2.1.1
  have q10 := H10.out.2.2.2.1
  go_wp2_with (first | (refine wp_loadPf rfl _ rfl gx _ _ rfl p10 ?_) | (refine wp_loadPf rfl _ rfl (gx + 1) _ _ rfl q10 ?_))
  refine hsx.mono ?_
  rintro e w11 ⟨rfl, hb11⟩
  have H11 : Hid (Below w0.heap.size w0 w11 ∧ PfB gp (.slice ab nb cb) (.slice aS nS cS) gb gs B S w11 ∧ PfB gw (.slice xa na ya) (.slice xA nA yA) ga gA RL RR w11 ∧ PfB gz (.slice xc na yc) (.slice xC nA yC) gc gC RL RR w11) := ⟨H10.out.1.trans (hb11.mono H10.out.1.size), H10.out.2.1.1.later hb11, H10.out.2.1.2.1.later hb11, H10.out.2.1.2.2.later hb11⟩
  clear H10 hb11 hsx p10 q10
  have HO1 : Hid (∀ W, Below w11.heap.size w11 W → Calls Tryz.prog 20 #[.string nm, .agg #[.slice ab nb cb, .slice aS nS cS], .int .i64 x] W fun e w' => e = .returned (.bool (pfOk nm B S x)) ∧ Below W.heap.size W w') := fun W hW => ProofOk_any nm _ _ gb 0 gs 0 B S x W (by have := hpf.1; omega) (H11.out.2.1.2.1.later hW) hpf.2.1.1 (H11.out.2.1.2.2.below hW H11.out.2.1.2.2.lt) (HT.out _ (H11.out.1.trans (hW.mono H11.out.1.size)))
  have HO2 : Hid (∀ W, Below w11.heap.size w11 W → Calls Tryz.prog 30 #[.string nm, .agg #[.slice ab nb cb, .slice aS nS cS], .int .i64 x] W fun e w' => e = .returned (.bool (pfOk nm B S x)) ∧ Below W.heap.size W w') := fun W hW => sProofOk_any nm _ _ gb 0 gs 0 B S x W (by have := hpf.1; omega) (H11.out.2.1.2.1.later hW) hpf.2.1.1 (H11.out.2.1.2.2.below hW H11.out.2.1.2.2.lt)
  have HH1 : Hid (∀ W, Below w11.heap.size w11 W → Calls Tryz.prog 21 #[.string nm, .agg #[.slice ab nb cb, .slice aS nS cS], .int .i64 x] W fun e w' => e = .returned (.string (phA nm B S x)) ∧ Below W.heap.size W w') := fun W hW => ProofHash_any nm _ _ gb 0 gs 0 B S x W (by have := hpf.1; omega) (H11.out.2.1.2.1.later hW) hpf.2.1.1 (H11.out.2.1.2.2.below hW H11.out.2.1.2.2.lt) (HT.out _ (H11.out.1.trans (hW.mono H11.out.1.size)))
  have HH2 : Hid (∀ W, Below w11.heap.size w11 W → Calls Tryz.prog 31 #[.string nm, .agg #[.slice ab nb cb, .slice aS nS cS], .int .i64 x] W fun e w' => e = .returned (.string (phA nm B S x)) ∧ Below W.heap.size W w') := fun W hW => sProofHash_any nm _ _ gb 0 gs 0 B S x W (by have := hpf.1; omega) (H11.out.2.1.2.1.later hW) hpf.2.1.1 (H11.out.2.1.2.2.below hW H11.out.2.1.2.2.lt)
  have HT1 : Hid (∀ W, Below w11.heap.size w11 W → Calls Tryz.prog 19 #[.string nm, .agg #[.slice ab nb cb, .slice aS nS cS], .int .i64 x] W fun e w' => ∃ a c q, e = .returned (.slice a (ptA nm B S x).length c) ∧ SS w' (.slice a (ptA nm B S x).length c) q 0 (ptA nm B S x) ∧ Below W.heap.size W w') := fun W hW => (ProofTexts_any nm _ _ gb 0 gs 0 B S x W (by have := hpf.1; omega) (H11.out.2.1.2.1.later hW) hpf.2.1.1 (H11.out.2.1.2.2.below hW H11.out.2.1.2.2.lt) (HT.out _ (H11.out.1.trans (hW.mono H11.out.1.size)))).mono (fun e w' h => by
    obtain ⟨u, he, ho⟩ := h
    obtain ⟨q, hq⟩ := ho.ss (by have := ptA_len nm B S x; omega)
    obtain ⟨a, c, rfl⟩ := ho.slice
    exact ⟨a, c, q, he, hq, ho.2.1⟩)
  have HT2 : Hid (∀ W, Below w11.heap.size w11 W → Calls Tryz.prog 33 #[.string nm, .agg #[.slice ab nb cb, .slice aS nS cS], .int .i64 x] W fun e w' => ∃ a c q, e = .returned (.slice a (ptA nm B S x).length c) ∧ SS w' (.slice a (ptA nm B S x).length c) q 0 (ptA nm B S x) ∧ Below W.heap.size W w') := fun W hW => (sProofTexts_any nm _ _ gb 0 gs 0 B S x W (by have := hpf.1; omega) (H11.out.2.1.2.1.later hW) hpf.2.1.1 (H11.out.2.1.2.2.below hW H11.out.2.1.2.2.lt)).mono (fun e w' h => by
    obtain ⟨u, he, ho⟩ := h
    obtain ⟨q, hq⟩ := ho.ss (by have := ptA_len nm B S x; omega)
    obtain ⟨a, c, rfl⟩ := ho.slice
    exact ⟨a, c, q, he, hq, ho.2.1⟩)
  have HST : Hid (∀ W a c q a' c' q', SS W (.slice a (ptA nm B S x).length c) q 0 (ptA nm B S x) → SS W (.slice a' (ptA nm B S x).length c') q' 0 (ptA nm B S x) → Calls Tryz.prog 32 #[.slice a (ptA nm B S x).length c, .slice a' (ptA nm B S x).length c'] W fun e w' => e = .returned (.bool true) ∧ Below W.heap.size W w') := fun W a c q a' c' q' h1 h2 => (sameTexts_yes _ _ q 0 q' 0 _ W h1 h2).mono (fun e w' h => by
    obtain ⟨he, n, rfl⟩ := h
    exact ⟨he, below_drn (Below.refl _ _) n⟩)
  have HSP : Hid (∀ W, Below w11.heap.size w11 W → Calls Tryz.prog 23 #[.agg #[.slice xa na ya, .slice xA nA yA], .agg #[.slice xc na yc, .slice xC nA yC]] W fun e w' => e = .returned (.bool true) ∧ Below W.heap.size W w') := fun W hW => sameProof_yes _ _ _ _ ga 0 gA 0 gc 0 gC 0 RL RR W (H11.out.2.2.1.2.1.later hW) (H11.out.2.2.1.2.2.below hW H11.out.2.2.1.2.2.lt) (H11.out.2.2.2.2.1.later hW) (H11.out.2.2.2.2.2.below hW H11.out.2.2.2.2.2.lt)
  have HAN : Hid (∀ W, Below w11.heap.size w11 W → Calls Tryz.prog 20 #[.string ⟨#[97, 110, 110]⟩, .agg #[.slice none 0 0, .slice none 0 0], .int .i64 16] W fun e w' => e = .returned (.bool true) ∧ Below W.heap.size W w') := fun W hW => by
    have h := ProofOk_any ⟨#[97, 110, 110]⟩ (.slice none 0 0) (.slice none 0 0) 0 0 0 0 [] [] 16 W (by decide) (RS.nil _ _ _) (fun f hf => by simp at hf) (TS.nil W 0).ss (HT.out _ (H11.out.1.trans (hW.mono H11.out.1.size)))
    rw [pf_ann] at h
    exact h
  have HCEL : Hid (∀ W, Below w11.heap.size w11 W → W.cell? ⟨gp, 0, none⟩ = some (.slice ab nb cb) ∧ W.cell? ⟨gp, 1, none⟩ = some (.slice aS nS cS) ∧ W.cell? ⟨gw, 0, none⟩ = some (.slice xa na ya) ∧ W.cell? ⟨gw, 1, none⟩ = some (.slice xA nA yA) ∧ W.cell? ⟨gz, 0, none⟩ = some (.slice xc na yc) ∧ W.cell? ⟨gz, 1, none⟩ = some (.slice xC nA yC)) := fun W hW => ⟨cell_up H11.out.2.1.1.c0 hW, cell_up H11.out.2.1.1.c1 hW, cell_up H11.out.2.2.1.1.c0 hW, cell_up H11.out.2.2.1.1.c1 hW, cell_up H11.out.2.2.2.1.c0 hW, cell_up H11.out.2.2.2.1.c1 hW⟩
  have HB : Hid (∀ W, Below w11.heap.size w11 W → Below w0.heap.size w0 W) := fun W hW => H11.out.1.trans (hW.mono H11.out.1.size)
  generalize pfOk nm B S x = OK at *
  generalize phA nm B S x = X at *
  generalize ptA nm B S x = PT at *
  obtain ⟨nT, hnT⟩ : ∃ n, PT.length = n := ⟨_, rfl⟩
  rw [hnT] at HT1 HT2 HST
  clear hnT HC HT hpf ht hn2 H11
  have r1 : (X.toList == X.toList) = true := by simp
  have r2 : (X1.toList == X1.toList) = true := by simp
  have r3 : (X2.toList == X2.toList) = true := by simp
  have r4 : (OK == OK) = true := by simp
  have r5 : (RO == RO) = true := by simp
  have r6 : (X3 == X3) = true := by simp
  have hb0 : Below w11.heap.size w11 w11.drew := (Below.refl _ _).drew
  go_wp2_with fail
  go_region_held3 (fun W => W.cell? ⟨gp, 0, none⟩ = some (.slice ab nb cb) ∧ W.cell? ⟨gp, 1, none⟩ = some (.slice aS nS cS) ∧ W.cell? ⟨gw, 0, none⟩ = some (.slice xa na ya) ∧ W.cell? ⟨gw, 1, none⟩ = some (.slice xA nA yA) ∧ W.cell? ⟨gz, 0, none⟩ = some (.slice xc na yc) ∧ W.cell? ⟨gz, 1, none⟩ = some (.slice xC nA yC)) (first | (with_reducible exact HCEL.out _ hb0) | (go_keep; done)) (first | (go_at_call 20; first | ((with_reducible refine (HO1.out _ hb0).mono ?_); rintro e v1 ⟨rfl, k1⟩; have hb0 := hb0.trans (k1.mono hb0.size)) | ((with_reducible refine (HAN.out _ hb0).mono ?_); rintro e v2 ⟨rfl, k2⟩; have hb0 := hb0.trans (k2.mono hb0.size)) | fail) | (go_at_call 30; (with_reducible refine (HO2.out _ hb0).mono ?_); rintro e v3 ⟨rfl, k3⟩; have hb0 := hb0.trans (k3.mono hb0.size)) | (go_at_call 21; (with_reducible refine (HH1.out _ hb0).mono ?_); rintro e v4 ⟨rfl, k4⟩; have hb0 := hb0.trans (k4.mono hb0.size)) | (go_at_call 31; (with_reducible refine (HH2.out _ hb0).mono ?_); rintro e v5 ⟨rfl, k5⟩; have hb0 := hb0.trans (k5.mono hb0.size)) | (go_at_call 19; (with_reducible refine (HT1.out _ hb0).mono ?_); rintro e v6 ⟨a6, c6, q6, rfl, s6, k6⟩; have hb0 := hb0.trans (k6.mono hb0.size)) | (go_at_call 33; (with_reducible refine (HT2.out _ hb0).mono ?_); rintro e v7 ⟨a7, c7, q7, rfl, s7, k7⟩; have hb0 := hb0.trans (k7.mono hb0.size); have s6 := s6.below k7 s6.lt) | (go_at_call 32; (with_reducible refine (HST.out _ _ _ q6 _ _ q7 s6 s7).mono ?_); rintro e v8 ⟨rfl, k8⟩; have hb0 := hb0.trans (k8.mono hb0.size)) | (go_at_call 23; (with_reducible refine (HSP.out _ hb0).mono ?_); rintro e v9 ⟨rfl, k9⟩; have hb0 := hb0.trans (k9.mono hb0.size)) | fail)
  have hend := HB.out _ hb0
  clear HO1 HO2 HH1 HH2 HT1 HT2 HST HSP HAN HCEL HB
  go_wp2
  go_ret
  exact ⟨by simp, hend⟩

end Go.Proofs.YtfojmagcoipbnaaGreatDoor
/-
  What a law is told of the bytes that came in, and how they serve as drawn ones.
-/
namespace Go.Proofs.YtfojmagcoipbnaaGreatDoor
open Go.ChangeShapes Go.WideShapes Go.ChangeAt Go.RowKit
set_option linter.unusedVariables false

/-- a slice of bytes that came in: nil, or a row of cap cells, each a byte -/
def IsRow (w : World) (a : Option Addr) (len cap : Nat) (zs : List Int) : Prop :=
  (a = none ∧ len = 0 ∧ cap = 0 ∧ zs = []) ∨
  ∃ x, a = some x ∧ len ≤ cap ∧ cap ≤ maxLen ∧ zs.length = cap ∧ (∀ i, i < zs.length → w.cell? (x.add i) = some (.int .u8 (zs.getD i 0))) ∧ ∀ n ∈ zs, (Lit.int .u8 n).wf = true

theorem IsRow.len {w : World} {a : Option Addr} {len cap : Nat} {zs : List Int} (h : IsRow w a len cap zs) : len ≤ maxLen := by
  rcases h with ⟨_, rfl, _⟩ | ⟨x, _, h1, h2, _⟩
  · omega
  · omega

theorem code_of_row {w : World} {a : Option Addr} {len cap : Nat} {zs : List Int} (h : IsRow w a len cap zs) (hl : len ≤ 1048576) : Code w.heap.size w (.slice a len cap) := by
  rcases h with ⟨rfl, rfl, rfl, rfl⟩ | ⟨x, rfl, h1, h2, h3, hc, hw⟩
  · exact ⟨none, 0, 0, 0, 0, rfl, by omega, fun h => by omega, fun j hj => by omega⟩
  · refine ⟨some x, x.block, x.off, len, cap, rfl, hl, ?_, ?_⟩
    · intro h0
      have h4 := hc 0 (by omega)
      have e : x.add 0 = x := by unfold Addr.add; simp
      rw [e] at h4
      have hs := World.cell?_spot h4
      refine ⟨?_, ?_⟩
      · cases x
        simp at hs
        subst hs
        rfl
      · rcases Nat.lt_or_ge x.block w.heap.size with hlt | hge
        · exact hlt
        · simp [World.cell?, Array.getElem?_eq_none hge] at h4
    · intro j hj
      have h4 := hc j (by omega)
      have e : x.add j = ⟨x.block, x.off + j, none⟩ := by
        have hs := World.cell?_spot h4
        unfold Addr.add at hs ⊢
        split
        · rename_i hz
          subst hz
          cases x
          simp at hs
          simp [hs]
        · rfl
      rw [e] at h4
      have hm : zs.getD j 0 ∈ zs := by
        have hjl : j < zs.length := by omega
        rw [List.getD_eq_getElem?_getD, List.getElem?_eq_getElem hjl]
        exact List.getElem_mem _
      have hwz := hw _ hm
      have hz : 0 ≤ zs.getD j 0 ∧ zs.getD j 0 ≤ 255 := by simpa [Lit.wf, IntKind.min, IntKind.max, IntKind.signed, IntKind.bits] using hwz
      refine ⟨(zs.getD j 0).toNat, by omega, ?_⟩
      rw [h4]
      congr 2
      omega

end Go.Proofs.YtfojmagcoipbnaaGreatDoor
