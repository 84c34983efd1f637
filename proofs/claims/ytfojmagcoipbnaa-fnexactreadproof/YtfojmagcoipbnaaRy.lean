/-
  A proof read of a text: the specification's answer.
-/
import Derived.Test.YtfojmagcoipbnaaRx
import Derived.Test.YtfojmagcoipbnaaRu
import Derived.Test.YtfojmagcoipbnaaPj
import Derived.Deep.AppendLies
namespace Go.Proofs.Ytfojmagcoipbnaa
open Go.RowKit Go.BigFrame Go.Sort
set_option linter.unusedVariables false
set_option linter.unusedSimpArgs false

theorem raw_cut {s : ByteArray} {l : List Le} {q : Nat} (h : LV.rawL s 0 = some (l, q)) : q ≤ s.size ∧ LV.lvL l = LV.cutL s.data.toList 0 q := by
  cases hr : M.readVar s.data.toList 0 with
  | none => rw [LV.rawL_none hr] at h; cases h
  | some y =>
    obtain ⟨n, q0⟩ := y
    obtain ⟨hq0, hN⟩ := read_bound s 0 n q0 hr
    by_cases hn : 24 < n
    · rw [LV.rawL_great hr hn] at h; cases h
    · rw [LV.rawL_at hr hn] at h
      obtain ⟨h1, h2, h3, h4⟩ := LV.leavesF_some hq0 h
      have hc := LV.read_canon (Nat.zero_le _) hr
      have hp := LV.read_past _ _ _ _ hr
      refine ⟨h2, ?_⟩
      unfold LV.lvL
      rw [h3, ← hc, ← h4, LV.cutL_join _ 0 q0 q (by omega) h1]
theorem sdp_snoc (s : ByteArray) (y p n : Nat) : sdp s y p (n + 1) = sdp s y p n ++ [piece s (p + n * y) y] := by
  unfold sdp
  rw [List.range_succ, List.map_append]
  rfl
theorem join_sdp (s : ByteArray) (y p : Nat) : ∀ n, p + n * y ≤ s.size → (joinT (sdp s y p n)).data.toList = LV.cutL s.data.toList p (p + n * y)
  | 0, h => by
    have : LV.cutL s.data.toList p (p + 0 * y) = [] := by unfold LV.cutL; simp
    rw [this]
    rfl
  | n + 1, h => by
    have em : p + (n + 1) * y = p + n * y + y := by rw [Nat.add_mul, Nat.one_mul, Nat.add_assoc]
    have ih := join_sdp s y p n (by omega)
    rw [sdp_snoc, joinT_snoc, ByteArray.data_append, Array.toList_append, ih]
    unfold piece
    rw [LV.extract_cut, LV.cutL_join _ p (p + n * y) (p + n * y + y) (by omega) (by omega), em]
theorem sdp_wide {s : ByteArray} {y p n : Nat} (h : p + n * y ≤ s.size) (hy : 1 ≤ y ∧ y ≤ 32) : wideB (sdp s y p n) (y : Int) = true := by
  rw [wideB_good fun j hj => ?_]
  · exact decide_eq_true (by omega)
  · rw [sdp_at, LV.piece_len]
    rw [sdp_len] at hj
    have h2 : (j + 1) * y ≤ n * y := Nat.mul_le_mul_right _ hj
    have em : p + (j + 1) * y = p + j * y + y := by rw [Nat.add_mul, Nat.one_mul, Nat.add_assoc]
    omega
theorem px_text {s : ByteArray} {l : List Le} {q n p y : Nat} (h : LV.rawL s 0 = some (l, q)) (hl : LV.leavesB l = true) (hv : M.readVar s.data.toList q = some (n, p)) (hn : n ≤ 8) (hy : 1 ≤ y ∧ y ≤ 32) (hf : p + n * y ≤ s.size) :
    pxB l (sdp s y p n) (y : Int) = true ∧ (pxT l (sdp s y p n) (y : Int) = s ↔ p + n * y = s.size) := by
  have hb : pxB l (sdp s y p n) (y : Int) = true := by
    unfold pxB sidB
    rw [hl, sdp_wide hf hy, sdp_len, decide_eq_true hn]
    rfl
  refine ⟨hb, ?_⟩
  obtain ⟨hq, hc⟩ := raw_cut h
  have hpp := LV.read_past _ _ _ _ hv
  have e : (pxT l (sdp s y p n) (y : Int)).data.toList = LV.cutL s.data.toList 0 (p + n * y) := by
    unfold pxT
    rw [if_pos hb, lvT_yes hl, sdp_len, ByteArray.data_append, ByteArray.data_append, Array.toList_append, Array.toList_append, join_sdp s y p n hf]
    show LV.lvL l ++ M.varL n ++ LV.cutL s.data.toList p (p + n * y) = _
    rw [hc, ← LV.read_canon hq hv, LV.cutL_join _ 0 q p (by omega) (by omega), LV.cutL_join _ 0 p (p + n * y) (by omega) (by omega)]
  have hL : s.data.toList.length = s.size := Array.length_toList
  constructor
  · intro he
    rw [he] at e
    have h5 := LV.cutL_len s.data.toList 0 (p + n * y) (by omega) (by omega)
    rw [← e] at h5
    omega
  · intro he
    apply ByteArray.ext
    apply Array.toList_inj.1
    rw [e, he]
    unfold LV.cutL
    simp only [List.drop_zero, Nat.sub_zero]
    exact List.take_of_length_le (by omega)

/-- what the specification has read so far of the sides -/
def RyI (s : ByteArray) (X : Int) (l : List Le) (n : Int) (p m : Nat) (S : List ByteArray) (q : Nat) (b : Bool) : Prop :=
  S.length = m ∧ q ≤ s.size ∧ (∀ t ∈ S, t.size ≤ s.size) ∧ (b = true → rpOk s X = false) ∧ (b = false → (LV.rawL s 0 = none ∧ 24 < l.length) ∨ (∃ q0 k, LV.rawL s 0 = some (l, q0) ∧ M.readVar s.data.toList q0 = some (k, p) ∧ n = (k : Int) ∧ (0 < m → 0 ≤ X) ∧ S = sdp s X.toNat p m ∧ q = p + m * X.toNat))

theorem rp_at {s : ByteArray} {x : Int} {l : List Le} {q k p : Nat} (h : LV.rawL s 0 = some (l, q)) (hv : M.readVar s.data.toList q = some (k, p)) : rpOk s x = (decide (1 ≤ x ∧ x ≤ 32) && LV.leavesB l && decide (k ≤ 8) && decide (p + k * x.toNat = s.size)) ∧ (rpOk s x = true → rpL s x = l ∧ rpS s x = sdp s x.toNat p k) := by
  refine ⟨?_, fun h2 => ?_⟩
  · unfold rpOk
    rw [h]
    dsimp only
    rw [hv]
  · unfold rpL rpS
    rw [h]
    dsimp only
    rw [hv]
    dsimp only
    rw [h2]
    exact ⟨rfl, rfl⟩
theorem rp_none {s : ByteArray} {x : Int} (h : LV.rawL s 0 = none) : rpOk s x = false := by
  unfold rpOk
  rw [h]
theorem rp_var {s : ByteArray} {x : Int} {l : List Le} {q : Nat} (h : LV.rawL s 0 = some (l, q)) (hv : M.readVar s.data.toList q = none) : rpOk s x = false := by
  unfold rpOk
  rw [h]
  dsimp only
  rw [hv]
theorem RyI.bad {s : ByteArray} {X : Int} {l : List Le} {n : Int} {p m q : Nat} {S : List ByteArray} (h : RyI s X l n p m S q false) (hmn : (m : Int) < n) (hx : X < 0 ∨ (s.size : Int) - (q : Int) < X) : RyI s X l n p (m + 1) (S ++ [⟨#[]⟩]) q true := by
  obtain ⟨h1, h2, h3, _, h5⟩ := h
  refine ⟨by simp [h1], h2, fun t ht => ?_, fun _ => ?_, fun hb => by cases hb⟩
  · rcases List.mem_append.1 ht with h | h
    · exact h3 t h
    · simp at h
      subst h
      exact Nat.zero_le _
  · rcases h5 rfl with ⟨h, _⟩ | ⟨q0, k, hr, hv, rfl, hX, _, hq⟩
    · exact rp_none h
    · rw [(rp_at hr hv).1]
      by_cases hX0 : X < 0
      · rw [decide_eq_false (by omega)]
        rfl
      · have hlt : (m + 1) * X.toNat ≤ k * X.toNat := Nat.mul_le_mul_right _ (by omega)
        have em : p + (m + 1) * X.toNat = p + m * X.toNat + X.toNat := by rw [Nat.add_mul, Nat.one_mul, Nat.add_assoc]
        rw [decide_eq_false (show ¬ p + k * X.toNat = s.size by omega), Bool.and_false]
theorem RyI.take {s : ByteArray} {l : List Le} {n : Int} {p m q y : Nat} {S : List ByteArray} (h : RyI s (y : Int) l n p m S q false) (hy : q + y ≤ s.size) : RyI s (y : Int) l n p (m + 1) (S ++ [piece s q y]) (q + y) false := by
  obtain ⟨h1, h2, h3, _, h5⟩ := h
  refine ⟨by simp [h1], hy, fun t ht => ?_, (fun hb => by cases hb), fun _ => ?_⟩
  · rcases List.mem_append.1 ht with h | h
    · exact h3 t h
    · simp at h
      subst h
      exact piece_size s q y
  · rcases h5 rfl with h | ⟨q0, k, hr, hv, hk, hX, hS, hq⟩
    · exact .inl h
    · rw [Int.toNat_natCast] at hS hq
      refine .inr ⟨q0, k, hr, hv, hk, fun _ => by omega, ?_, ?_⟩
      · rw [Int.toNat_natCast, sdp_snoc, hS, hq]
      · rw [Int.toNat_natCast, hq, Nat.add_mul, Nat.one_mul, Nat.add_assoc]
theorem ry_end {s : ByteArray} {x : Int} {l : List Le} {n : Int} {p m q : Nat} {S : List ByteArray} {b : Bool} (h : RyI s x l n p m S q b) (hm : m ≤ 10) (hn : (m : Int) ≤ n) (hst : ¬ ((m : Int) < n ∧ m < 10 ∧ b = false)) :
    ((b = false ∧ pxB l S x = true ∧ pxT l S x = s) → rpOk s x = true ∧ rpL s x = l ∧ rpS s x = S) ∧ (¬ (b = false ∧ pxB l S x = true ∧ pxT l S x = s) → rpOk s x = false) := by
  obtain ⟨h1, h2, h3, h4, h5⟩ := h
  cases b with
  | true => exact ⟨fun h => (by cases h.1), fun _ => h4 rfl⟩
  | false =>
    rcases h5 rfl with ⟨hr, h24⟩ | ⟨q0, k, hr, hv, rfl, hX, hS, hq⟩
    · have hl : LV.leavesB l = false := by
        rw [LV.leavesB_no]
        intro hd
        have := hd.1
        omega
      have hp : pxB l S x = false := by unfold pxB; rw [hl]; rfl
      exact ⟨fun h => (by rw [hp] at h; cases h.2.1), fun _ => rp_none hr⟩
    · obtain ⟨e1, e2⟩ := rp_at (x := x) hr hv
      have hstop : ¬ (m < k ∧ m < 10) := fun h => hst ⟨by omega, h.2, rfl⟩
      by_cases hk8 : k ≤ 8
      · obtain rfl : m = k := by omega
        by_cases hx : 1 ≤ x ∧ x ≤ 32
        · obtain ⟨y, rfl⟩ : ∃ y : Nat, x = (y : Int) := ⟨x.toNat, by omega⟩
          rw [Int.toNat_natCast] at hS hq e1 e2
          subst hS
          cases hl : LV.leavesB l with
          | false =>
            have hp : pxB l (sdp s y p m) (y : Int) = false := by unfold pxB; rw [hl]; rfl
            refine ⟨fun h => (by rw [hp] at h; cases h.2.1), fun _ => ?_⟩
            rw [e1, hl, Bool.and_false]
            rfl
          | true =>
            obtain ⟨hp, ht⟩ := px_text (y := y) hr hl hv hk8 ⟨by omega, by omega⟩ (by omega)
            rw [decide_eq_true hx, hl, decide_eq_true hk8, Bool.true_and, Bool.true_and, Bool.true_and] at e1
            refine ⟨fun h => ?_, fun h => ?_⟩
            · have : rpOk s (y : Int) = true := by rw [e1]; exact decide_eq_true (ht.1 h.2.2)
              exact ⟨this, e2 this⟩
            · rw [e1]
              exact decide_eq_false fun hh => h ⟨rfl, hp, ht.2 hh⟩
        · have hp : pxB l S x = false := by
            unfold pxB sidB wideB
            rw [decide_eq_false hx]
            simp
          refine ⟨fun h => (by rw [hp] at h; cases h.2.1), fun _ => ?_⟩
          rw [e1, decide_eq_false hx]
          rfl
      · have hp : pxB l S x = false := by
          unfold pxB sidB
          rw [decide_eq_false (show ¬ S.length ≤ 8 by omega)]
          simp
        refine ⟨fun h => (by rw [hp] at h; cases h.2.1), fun _ => ?_⟩
        rw [e1, decide_eq_false hk8, Bool.and_false, Bool.false_and]

section
variable {w : World} {ops : Array Oper} {o : Oper} {a : Act} {Q : Exit → Act → World → Prop} {K : Act → World → Prop}
theorem one_txtP {w : World} {p : Nat} {t : ByteArray} (h : w.cell? ⟨p, 0, none⟩ = some (.string t)) : ∀ j u, [Value.string t][j]? = some u → w.cell? ((⟨p, 0, none⟩ : Addr).add j) = some u := by
  intro j u hj
  match j, hj with
  | 0, hj =>
    simp at hj
    subst hj
    simpa [Addr.add] using h
/-- a text appended, and where the row lies then: as one step of a region that draws its order -/
theorem step_txtP {E : Prop} (hgd : o.guard = none) (s x : Operand)
    (ho : o.op = .call { callee := .builtin .append, args := #[s, x], argTypes := #[23, 23] })
    (B : Nat) (w0 : World) (u : Value) (l : List ByteArray) (t : ByteArray) (hs : a.eval s = u) (h : OS B w0 w u l) (p : Nat) (hx : a.eval x = .slice (some ⟨p, 0, none⟩) 1 1)
    (hnews : w.cell? ⟨p, 0, none⟩ = some (.string t)) (hlen : l.length + 1 ≤ 1000000)
    (hk : ∀ g cap w', OS B w0 w' (.slice (some ⟨g, 0, none⟩) (l.length + 1) cap) (l ++ [t]) → w.grownBy w' u.ownBlock → (u.ownBlock = some g ∨ g = w.heap.size) → K (a.put o.dst (.slice (some ⟨g, 0, none⟩) (l.length + 1) cap)) w') : if Region.wanted o (yielded ops a.tmps) = true then Oper.wp Try.prog o a w K Q else E := by
  obtain ⟨i0, hi, hz0, hz1, hz2⟩ := info_parts Try.info9
  refine step_append_lies w hgd s x 23 ho B 9 i0 (.string ByteArray.empty) 1 16 Try.underlying23 hi hz0 hz1 hz2 rfl (by decide) u l.length (svs l) hs h.1 ⟨p, 0, none⟩ 1 1 [.string t] hx rfl (one_txtP hnews)
    (fun u hu => by simp at hu; subst hu; rfl) (by omega) (by unfold maxLen; omega) (by omega) h.2.2 w.heap.size rfl ?_
  intro g cap w' h1 h2 h3 _
  exact hk _ _ _ ⟨by rw [List.length_append, svs_append]; exact h1, h.2.1.grown h2 h.2.2 (fun k hk => (h.1.lt k hk).1), Nat.le_trans h.2.2 h2.size⟩ h2 h3
end

theorem OS.keptP {B : Nat} {w0 w w' : World} {v : Value} {row : Option Nat} {l : List ByteArray} (h : OS B w0 w v l) (hg : w.grownBy w' row) (hB : ∀ k, row = some k → B ≤ k) (hne : v.ownBlock = none ∨ v.ownBlock ≠ row) : OS B w0 w' v l :=
  ⟨World.ownsRow.kept h.1 hg hne, h.2.1.grown hg h.2.2 hB, Nat.le_trans h.2.2 hg.size⟩
theorem OS.neP {B g T : Nat} {w0 w : World} {v : Value} {cs : Array Value} {fz : Nat × Nat} {r : List ByteArray} (ho : OS B w0 w v r) (h : w.heap[g]? = some (.cells cs T fz)) (hT : T ≠ 9) : v.ownBlock ≠ some g := fun hq => by
  rcases ho.1.2 with ⟨hv, _⟩ | ⟨g', cap, cur, hv, _, hg, _⟩
  · rw [hv] at hq; cases hq
  · rw [hv] at hq
    have : g' = g := by simpa [Value.ownBlock] using hq
    subst this
    rw [hg] at h
    simp at h
    exact hT h.2.1.symm
theorem OL.typ {B g : Nat} {w0 w : World} {v : Value} {r : List Le} (ho : OL B w0 w v r) (hq : v.ownBlock = some g) : ∃ cs fz, w.heap[g]? = some (.cells cs 123 fz) := by
  rcases ho.1.2 with ⟨hv, _⟩ | ⟨g', cap, cur, hv, _, hg, _⟩
  · rw [hv] at hq; cases hq
  · rw [hv] at hq
    have : g' = g := by simpa [Value.ownBlock] using hq
    subst this
    exact ⟨_, _, hg⟩

/-- what stands while the specification reads -/
def RyS (B : Nat) (w0 W : World) (s : ByteArray) (c gp : Nat) (q : Nat) (b : Bool) (vL : Value) (l : List Le) (vS : Value) (S : List ByteArray) : Prop := OL B w0 W vL l ∧ Cu W c s q b ∧ PfM W gp vL vS ∧ OS B w0 W vS S
theorem RyS.later {B : Nat} {w0 W W' : World} {s : ByteArray} {c gp q : Nat} {b : Bool} {vL vS : Value} {l : List Le} {S : List ByteArray} (h : RyS B w0 W s c gp q b vL l vS S) (hb : Below W.heap.size W W') : RyS B w0 W' s c gp q b vL l vS S := ⟨h.1.later hb, h.2.1.later hb, h.2.2.1.later hb, h.2.2.2.later hb⟩
/-- the reader has gone on -/
theorem RyS.read {B : Nat} {w0 W W' : World} {s : ByteArray} {c gp q q' : Nat} {b b' : Bool} {vL vS : Value} {l : List Le} {S : List ByteArray} (h : RyS B w0 W s c gp q b vL l vS S) (hg : W.grownBy W' (some c)) (hc : Cu W' c s q' b') (hB : B ≤ c) : RyS B w0 W' s c gp q' b' vL l vS S :=
  ⟨h.1.grown hg (fun k hk => by cases hk; exact ⟨hB, h.1.ne h.2.1 (by decide)⟩), hc, h.2.2.1.keep (hg.block _ h.2.2.1.lt (fun e => by
    have : gp = c := by simpa using e
    subst this
    have h1 := h.2.1
    have h2 := h.2.2.1
    unfold Cu at h1
    unfold PfM at h2
    rw [h1] at h2
    simp at h2)), h.2.2.2.keptP hg (fun k hk => by cases hk; exact hB) (.inr (h.2.2.2.neP h.2.1 (by decide)))⟩
/-- a side more -/
theorem RyS.app {B : Nat} {w0 W W' : World} {s : ByteArray} {c gp q : Nat} {b : Bool} {vL vS v' : Value} {l : List Le} {S S' : List ByteArray} (h : RyS B w0 W s c gp q b vL l vS S) (hg : W.grownBy W' vS.ownBlock) (ho : OS B w0 W' v' S') (hgp : B ≤ gp) :
    W'.cell? ⟨gp, 1, none⟩ = some vS ∧ W'.frozen? ⟨gp, 1, none⟩ = false ∧ gp < W'.heap.size ∧ RyS B w0 (W'.setCell ⟨gp, 1, none⟩ v') s c gp q b vL l v' S' := by
  have hP := h.2.2.1.keep (hg.block _ h.2.2.1.lt (Ne.symm (h.2.2.2.neP h.2.2.1 (by decide))))
  have hC : Cu W' c s q b := (hg.block _ h.2.1.lt (Ne.symm (h.2.2.2.neP h.2.1 (by decide)))).trans h.2.1
  have hL : OL B w0 W' vL l := h.1.grown hg (fun k hk => ⟨(h.2.2.2.1.lt k hk).1, fun e => by
    obtain ⟨cs, fz, hh⟩ := h.1.typ e
    exact h.2.2.2.neP hh (by decide) hk⟩)
  have hgr := grown_setC W' gp 1 v'
  refine ⟨hP.c1, hP.fr 1, hP.lt, hL.grown hgr (fun k hk => by cases hk; exact ⟨hgp, hL.ne hP (by decide)⟩), hC.grown hgr (fun e => ?_), hP.set1 v', ho.keptP hgr (fun k hk => by cases hk; exact hgp) (.inr (ho.neP hP (by decide)))⟩
  have : c = gp := by simpa using e
  subst this
  unfold Cu at hC
  unfold PfM at hP
  rw [hC] at hP
  simp at hP

def RyR (B : Nat) (w0 : World) (s : ByteArray) (x : Int) (c gp : Nat) (vL : Value) (l : List Le) (n : Int) (p : Nat) (i : Value) (wr : World) : Prop := ∃ (m q : Nat) (b : Bool) (vS : Value) (S : List ByteArray), m ≤ 10 ∧ (m : Int) ≤ n ∧ i = .int .i64 m ∧ Hid (RyI s x l n p m S q b ∧ RyS B w0 wr s c gp q b vL l vS S)

set_option maxRecDepth 100000 in
set_option maxHeartbeats 2000000 in
theorem sReadProof_any (s : ByteArray) (x : Int) (w : World) (hs : s.size ≤ 1048576) :
    Calls Try.prog 13 #[.string s, .int .i64 x] w (PvP (rpL s x) (rpS s x) (rpOk s x) w) := by
  obtain ⟨Q, hQ⟩ : ∃ Q, PvP (rpL s x) (rpS s x) (rpOk s x) w = Q := ⟨_, rfl⟩
  have HQ : Hid (PvP (rpL s x) (rpS s x) (rpOk s x) w = Q) := hQ
  rw [hQ]
  clear hQ
  have A0 := PfM.later (PfM.new w (.slice none 0 0) (.slice none 0 0)) ((Below.refl _ _).alloc (Nat.le_refl _) (.cells #[.string s, .int .i64 0, .bool false] 84))
  have C0 : Cu ((w.alloc (.cells #[.slice none 0 0, .slice none 0 0] 31)).alloc (.cells #[.string s, .int .i64 0, .bool false] 84)) (w.heap.size + 1) s 0 false := by
    have := Go.heap_alloc_new (w.alloc (.cells #[.slice none 0 0, .slice none 0 0] 31)) (.cells #[.string s, .int .i64 0, .bool false] 84)
    have e : (w.alloc (.cells #[.slice none 0 0, .slice none 0 0] 31)).heap.size = w.heap.size + 1 := by simp
    rw [e] at this
    exact this
  have b0 : Below w.heap.size w ((w.alloc (.cells #[.slice none 0 0, .slice none 0 0] 31)).alloc (.cells #[.string s, .int .i64 0, .bool false] 84)) := ((Below.refl _ _).alloc (Nat.le_refl _) _).alloc (by simp) _
  have h1 := l09Leaves_at (w.heap.size + 1) s (w.heap.size + 1) _ _ C0 (Nat.le_refl _) (Below.refl _ _) hs
  go_enter Try.func13, Try.ntmps13
  go_wp2_with fail
  refine h1.mono ?_
  generalize (w.alloc (.cells #[.slice none 0 0, .slice none 0 0] 31)).alloc (.cells #[.string s, .int .i64 0, .bool false] 84) = w0 at *
  rintro e w1 ⟨u, l, q, b, rfl, ho, hc, ⟨hl30, hqs⟩, hsz, hbt, hbf⟩
  obtain ⟨au, cu, rfl⟩ := ho.shape
  clear h1 C0
  have hba : Below w1.heap.size w1 (w1.alloc (.cells #[.slice au l.length cu, .slice none 0 0] 31)) := (Below.refl _ _).alloc (Nat.le_refl _) _
  have hBs : w.heap.size + 1 ≤ w1.heap.size := ho.2.2
  have HSM : Hid (SmallL l) := fun f hf => by have := hsz f hf; omega
  have O1 := ho.later hba
  have S1 : RyS (w.heap.size + 1) w0 (w1.alloc (.cells #[.slice au l.length cu, .slice none 0 0] 31)) s (w.heap.size + 1) w1.heap.size q b (.slice au l.length cu) l (.slice none 0 0) [] := ⟨O1, hc.later hba, PfM.new w1 _ _, ⟨World.ownsRow_nil _ _ _ _, O1.2.1, O1.2.2⟩⟩
  have HV : Hid (∀ W, RyS (w.heap.size + 1) w0 W s (w.heap.size + 1) w1.heap.size q b (.slice au l.length cu) l (.slice none 0 0) [] → Calls Try.prog 44 #[.pointer (some ⟨w.heap.size + 1, 0, none⟩)] W fun e w' => ∃ (n p q1 : Nat) (b1 : Bool), e = .returned (.int .i64 (n : Int)) ∧ n ≤ 1000000000 ∧ RyI s x l (n : Int) p 0 [] q1 b1 ∧ RyS (w.heap.size + 1) w0 w' s (w.heap.size + 1) w1.heap.size q1 b1 (.slice au l.length cu) l (.slice none 0 0) []) := fun W hW => by
    cases b with
    | true =>
      refine (l09Var_bad (w.heap.size + 1) s q W hW.2.1 hs hqs).mono fun e w' ⟨⟨he, hc'⟩, hg⟩ => ?_
      exact ⟨0, 0, q, true, he, by omega, ⟨rfl, hqs, fun t ht => (by cases ht), fun _ => rp_none (hbt rfl), fun h => (by cases h)⟩, hW.read hg hc' (Nat.le_refl _)⟩
    | false =>
      refine (l09Var_at (w.heap.size + 1) s q W hW.2.1 hs hqs).mono fun e w' ⟨hm, hg⟩ => ?_
      cases hr : M.readVar s.data.toList q with
      | none =>
        rw [hr] at hm
        refine ⟨0, 0, q, true, hm.1, by omega, ⟨rfl, hqs, fun t ht => (by cases ht), fun _ => ?_, fun h => (by cases h)⟩, hW.read hg hm.2 (Nat.le_refl _)⟩
        rcases hbf rfl with ⟨h, _⟩ | h
        · exact rp_none h
        · exact rp_var h hr
      | some z =>
        obtain ⟨k, p⟩ := z
        rw [hr] at hm
        obtain ⟨hps, hk9⟩ := read_bound s q k p hr
        refine ⟨k, p, p, false, hm.1, hk9, ⟨rfl, hps, fun t ht => (by cases ht), fun h => (by cases h), fun _ => ?_⟩, hW.read hg hm.2 (Nat.le_refl _)⟩
        rcases hbf rfl with h | h
        · exact .inl h
        · exact .inr ⟨q, k, h, hr, rfl, fun h0 => absurd h0 (by omega), rfl, by omega⟩
  clear hbt hbf hsz ho hc O1 hba
  go_wp2_with fail
  refine (HV.out _ S1).mono ?_
  rintro e w2 ⟨n, p, q1, b1, rfl, hn9, hI1, S2⟩
  clear HV S1
  have HST : Hid (RyR (w.heap.size + 1) w0 s x (w.heap.size + 1) w1.heap.size (.slice au l.length cu) l (n : Int) p (.int .i64 0) w2) := ⟨0, q1, b1, _, _, by omega, by omega, rfl, hI1, S2⟩
  have HA0 : Hid (PfM w0 w.heap.size (.slice none 0 0) (.slice none 0 0) ∧ Below w.heap.size w w0) := ⟨A0, b0⟩
  clear hI1 S2 A0 b0
  go_wp2
  go_loopw [9] (fun i wr => RyR (w.heap.size + 1) w0 s x (w.heap.size + 1) w1.heap.size (.slice au l.length cu) l (n : Int) p i wr) (fun i _ => 11 - (intOf i).toNat)
  case atStart => exact HST.out
  case round =>
    obtain ⟨m, q, b, vS, S, hm, hmn, rfl, HI⟩ := hrel
    clear HST
    have d2 := HI.out.2.2.1.c2
    have hlt := HI.out.2.2.1.lt
    by_cases hstop : (m : Int) < (n : Int) ∧ m < 10 ∧ b = false
    · obtain ⟨i1, hm10, rfl⟩ := hstop
      have i3 : (m : Int) < 10 := by omega
      have HSl : Hid (S.length = m) := HI.out.1.1
      have HTK : Hid (∀ W, RyS (w.heap.size + 1) w0 W s (w.heap.size + 1) w1.heap.size q false (.slice au l.length cu) l vS S → Calls Try.prog 45 #[.pointer (some ⟨w.heap.size + 1, 0, none⟩), .int .i64 x] W fun e w' => ∃ (t : ByteArray) (q' : Nat) (b' : Bool), e = .returned (.string t) ∧ RyI s x l (n : Int) p (m + 1) (S ++ [t]) q' b' ∧ RyS (w.heap.size + 1) w0 w' s (w.heap.size + 1) w1.heap.size q' b' (.slice au l.length cu) l vS S) := fun W hW => by
        by_cases hno : x < 0 ∨ (s.size : Int) - (q : Int) < x
        · refine (l09Take_no (w.heap.size + 1) s q false x W hW.2.1 hs HI.out.1.2.1 (.inr hno)).mono fun e w' ⟨⟨he, hc'⟩, hg⟩ => ?_
          exact ⟨_, q, true, he, HI.out.1.bad i1 hno, hW.read hg hc' (Nat.le_refl _)⟩
        · obtain ⟨y, rfl⟩ : ∃ y : Nat, x = (y : Int) := ⟨x.toNat, by omega⟩
          have hqy : q + y ≤ s.size := by omega
          refine (l09Take_yes (w.heap.size + 1) s q y W hW.2.1 hs hqy).mono fun e w' ⟨⟨he, hc'⟩, hg⟩ => ?_
          exact ⟨_, q + y, false, he, HI.out.1.take hqy, hW.read hg hc' (Nat.le_refl _)⟩
      have HS0 : Hid (RyS (w.heap.size + 1) w0 wr.drew s (w.heap.size + 1) w1.heap.size q false (.slice au l.length cu) l vS S) := HI.out.2.later (Below.refl _ _).drew
      have k1 : wr.drew.cell? ⟨w1.heap.size, 1, none⟩ = some vS := HS0.out.2.2.1.c1
      have hvs : ∃ a c, vS = .slice a S.length c := by
        rcases HI.out.2.2.2.2.shape with ⟨hv, hn⟩ | ⟨g, cap, hv, _⟩
        · exact ⟨none, 0, by rw [hv, hn]; rfl⟩
        · exact ⟨_, _, hv⟩
      obtain ⟨aS, cS, rfl⟩ := hvs
      clear HI
      go_wp2
      go_region_law ((first
        | (refine step_txtP rfl _ _ rfl (w.heap.size + 1) w0 _ S t (by rfl) HS4.out.2.2.2 _ (by rfl) HCT.out (by have := HSl.out; omega) ?_; intro g5 cap5 w5 ho5 hg5 hl5; obtain ⟨e1, f1, z1, hS5⟩ := HS4.out.app hg5 ho5 hBs)
        | (go_simp; go_at_call 45; refine (HTK.out _ HS0.out).mono ?_; rintro e w3 ⟨t, q', b', rfl, hI3, hS3⟩; have k3 := hS3.2.2.1.c1; have HS4 : Hid (RyS (w.heap.size + 1) w0 (w3.alloc (.cells #[.string t] 9)) s (w.heap.size + 1) w1.heap.size q' b' (.slice au l.length cu) l (.slice aS S.length cS) S) := hS3.later ((Below.refl _ _).alloc (Nat.le_refl _) _); have HCT : Hid ((w3.alloc (.cells #[.string t] 9)).cell? ⟨w3.heap.size, 0, none⟩ = some (.string t)) := (by show (w3.alloc (.cells #[.string t] 9)).cell? ⟨w3.heap.size, 0, none⟩ = some (.string t); rw [World.cell?_alloc_at _ _ _ _ rfl]; rfl); have k4 := HS4.out.2.2.1.c1)))
      all_goals
        have HJ : Hid (RyR (w.heap.size + 1) w0 s x (w.heap.size + 1) w1.heap.size (.slice au l.length cu) l (n : Int) p (.int .i64 ((m : Int) + 1)) (w5.setCell ⟨w1.heap.size, 1, none⟩ (.slice (some ⟨g5, 0, none⟩) (S.length + 1) cap5))) := ⟨m + 1, q', b', _, _, by omega, by omega, by congr 1, hI3, hS5⟩
        clear hS5 hI3 HS4 HCT hS3 k3 k4 k1 HS0 HTK ho5 hg5 hl5 e1 f1 z1
        go_wp2
        go_roundw
        case rel => exact HJ.out
        case measure => simp [intOf]; omega
    · have HEND0 := ry_end HI.out.1 hm hmn hstop
      have HSl : Hid (S.length ≤ 10) := by have := HI.out.1.1; exact (show S.length ≤ 10 by omega)
      have HPX0 : Hid (∀ W, RyS (w.heap.size + 1) w0 W s (w.heap.size + 1) w1.heap.size q b (.slice au l.length cu) l vS S → Calls Try.prog 9 #[.agg #[.slice au l.length cu, vS], .int .i64 x] W fun e w' => e = .returned (.tuple #[.string (pxT l S x), .bool (pxB l S x)]) ∧ Below W.heap.size W w') := fun W hW => by
        obtain ⟨gl, hrl, _, _⟩ := hW.1.rw (by omega)
        obtain ⟨gs, hss⟩ := hW.2.2.2.ss (by have := HSl.out; omega)
        exact sProofText_any _ _ gl 0 gs 0 l S x W hrl.1 HSM.out hss
      obtain ⟨PT, hPT⟩ : ∃ PT, pxT l S x = PT := ⟨_, rfl⟩
      obtain ⟨PB, hPB⟩ : ∃ PB, pxB l S x = PB := ⟨_, rfl⟩
      rw [hPT, hPB] at HEND0 HPX0
      have HEND : Hid (((b = false ∧ PB = true ∧ PT = s) → rpOk s x = true ∧ rpL s x = l ∧ rpS s x = S) ∧ (¬ (b = false ∧ PB = true ∧ PT = s) → rpOk s x = false)) := HEND0
      have HPX : Hid _ := HPX0.out
      clear HEND0 HPX0 hPT hPB
      have k0 := HI.out.2.2.2.1.c0
      have k1 := HI.out.2.2.2.1.c1
      by_cases hmlt : (m : Int) < (n : Int)
      · by_cases hm10 : m < 10
        · have i3 : (m : Int) < 10 := by omega
          obtain rfl : b = true := by
            cases b
            · exact absurd ⟨hmlt, hm10, rfl⟩ hstop
            · rfl
          clear hstop
          go_wp2_with fail
          refine (HPX.out _ HI.out.2).mono ?_
          rintro e w3 ⟨rfl, hb3⟩
          have S3 := HI.out.2.later hb3
          have A3 : PfM w3 w.heap.size (.slice none 0 0) (.slice none 0 0) := HA0.out.1.keep (S3.1.2.1.block _ (by omega))
          have b3 : Below w.heap.size w w3 := HA0.out.2.trans (S3.1.2.1.mono (by omega))
          have d3 := S3.2.1.c2
          have hl3 := S3.2.1.lt
          have HNO : Hid (¬ (true = false ∧ PB = true ∧ PT = s) → Q (.returned (.tuple #[.agg #[.slice none 0 0, .slice none 0 0], .bool false])) (w3.setRow w.heap.size #[.slice none 0 0, .slice none 0 0])) := fun h => by
            have h0 := HEND.out.2 h
            rw [← HQ.out, h0, (rp_no h0).1, (rp_no h0).2]
            exact PvP.no (below_row b3 (Nat.le_refl _))
          have HYE : Hid (true = false ∧ PB = true ∧ PT = s → Q (.returned (.tuple #[.agg #[.slice au l.length cu, vS], .bool true])) (w3.setRow w.heap.size #[.slice au l.length cu, vS])) := fun h => by
            obtain ⟨y1, y2, y3⟩ := HEND.out.1 h
            rw [← HQ.out, y1, y2, y3]
            have hgx := grown_setRowP w3 w.heap.size #[.slice au l.length cu, vS]
            obtain ⟨gl, hrl, hgl, hql⟩ := S3.1.rw (by omega)
            obtain ⟨gs, hts, hgs⟩ := S3.2.2.2.ts (by have := HSl.out; omega)
            have hcap : ∃ aS cS, vS = .slice aS S.length cS ∧ S.length ≤ cS := by
              rcases S3.2.2.2.1.2 with ⟨hv, hn⟩ | ⟨g, cap, cur, hv, _, _, hca, _⟩
              · have h0 : S.length = 0 := hn
                exact ⟨none, 0, by rw [hv, h0], by omega⟩
              · exact ⟨_, cap, hv, hca⟩
            obtain ⟨aS, cS, rfl, hcS⟩ := hcap
            refine ⟨au, cu, aS, cS, gl, gs, rfl, hrl.grown hgx (fun _ => by simp; omega), hts.keptG hgx (fun _ => by simp; omega), by omega, by omega, ⟨fun h1 h2 he => ?_, hcS⟩, below_row b3 (Nat.le_refl _)⟩
            subst he
            have hS := S3.2.2.2
            rcases hS.1.2 with ⟨hv, hn⟩ | ⟨g, cap, cur, hv, _, hg, _⟩
            · have h0 : S.length = 0 := hn
              omega
            · have e1 : g = gl := by
                have hh := hts.ss
                obtain ⟨_, _, ev, _, hA, _⟩ := hh
                have := hA h2
                rw [this] at ev
                rw [hv] at ev
                simp only [Value.slice.injEq, Option.some.injEq, Addr.mk.injEq] at ev
                exact ev.1.1
              subst e1
              rcases S3.1.1.2 with ⟨hv2, hn2⟩ | ⟨g2, cap2, cur2, hv2, _, hg2, _⟩
              · have h0 : l.length = 0 := hn2
                omega
              · have e2 : g2 = g := hql g2 (by rw [hv2]; rfl)
                subst e2
                rw [hg] at hg2
                simp at hg2
          have HP3 : Hid (PfM w3 w1.heap.size (.slice au l.length cu) vS) := S3.2.2.1
          have hone : vS.oneCell' = true := by
            rcases S3.2.2.2.shape with ⟨hv, _⟩ | ⟨g, cap, hv, _⟩
            · rw [hv]; rfl
            · rw [hv]; rfl
          clear HEND HPX S3 HI hb3 HA0
          have hQ := HNO.out (fun h => by cases h.1)
          clear HNO HYE
          go_wp2_with (refine wp_storePf rfl _ _ rfl w.heap.size _ _ (.slice none 0 0) (.slice none 0 0) A3 rfl rfl rfl rfl ?_; intro hfin)
          refine ret_pf2 4 5 w.heap.size _ _ _ rfl rfl rfl rfl hfin ?_
          exact hQ
        · have i3 : ¬ (m : Int) < 10 := by omega
          clear hstop
          go_wp2_with fail
          refine (HPX.out _ HI.out.2).mono ?_
          rintro e w3 ⟨rfl, hb3⟩
          have S3 := HI.out.2.later hb3
          have A3 : PfM w3 w.heap.size (.slice none 0 0) (.slice none 0 0) := HA0.out.1.keep (S3.1.2.1.block _ (by omega))
          have b3 : Below w.heap.size w w3 := HA0.out.2.trans (S3.1.2.1.mono (by omega))
          have d3 := S3.2.1.c2
          have hl3 := S3.2.1.lt
          have HNO : Hid (¬ (b = false ∧ PB = true ∧ PT = s) → Q (.returned (.tuple #[.agg #[.slice none 0 0, .slice none 0 0], .bool false])) (w3.setRow w.heap.size #[.slice none 0 0, .slice none 0 0])) := fun h => by
            have h0 := HEND.out.2 h
            rw [← HQ.out, h0, (rp_no h0).1, (rp_no h0).2]
            exact PvP.no (below_row b3 (Nat.le_refl _))
          have HYE : Hid (b = false ∧ PB = true ∧ PT = s → Q (.returned (.tuple #[.agg #[.slice au l.length cu, vS], .bool true])) (w3.setRow w.heap.size #[.slice au l.length cu, vS])) := fun h => by
            obtain ⟨y1, y2, y3⟩ := HEND.out.1 h
            rw [← HQ.out, y1, y2, y3]
            have hgx := grown_setRowP w3 w.heap.size #[.slice au l.length cu, vS]
            obtain ⟨gl, hrl, hgl, hql⟩ := S3.1.rw (by omega)
            obtain ⟨gs, hts, hgs⟩ := S3.2.2.2.ts (by have := HSl.out; omega)
            have hcap : ∃ aS cS, vS = .slice aS S.length cS ∧ S.length ≤ cS := by
              rcases S3.2.2.2.1.2 with ⟨hv, hn⟩ | ⟨g, cap, cur, hv, _, _, hca, _⟩
              · have h0 : S.length = 0 := hn
                exact ⟨none, 0, by rw [hv, h0], by omega⟩
              · exact ⟨_, cap, hv, hca⟩
            obtain ⟨aS, cS, rfl, hcS⟩ := hcap
            refine ⟨au, cu, aS, cS, gl, gs, rfl, hrl.grown hgx (fun _ => by simp; omega), hts.keptG hgx (fun _ => by simp; omega), by omega, by omega, ⟨fun h1 h2 he => ?_, hcS⟩, below_row b3 (Nat.le_refl _)⟩
            subst he
            have hS := S3.2.2.2
            rcases hS.1.2 with ⟨hv, hn⟩ | ⟨g, cap, cur, hv, _, hg, _⟩
            · have h0 : S.length = 0 := hn
              omega
            · have e1 : g = gl := by
                have hh := hts.ss
                obtain ⟨_, _, ev, _, hA, _⟩ := hh
                have := hA h2
                rw [this] at ev
                rw [hv] at ev
                simp only [Value.slice.injEq, Option.some.injEq, Addr.mk.injEq] at ev
                exact ev.1.1
              subst e1
              rcases S3.1.1.2 with ⟨hv2, hn2⟩ | ⟨g2, cap2, cur2, hv2, _, hg2, _⟩
              · have h0 : l.length = 0 := hn2
                omega
              · have e2 : g2 = g := hql g2 (by rw [hv2]; rfl)
                subst e2
                rw [hg] at hg2
                simp at hg2
          have HP3 : Hid (PfM w3 w1.heap.size (.slice au l.length cu) vS) := S3.2.2.1
          have hone : vS.oneCell' = true := by
            rcases S3.2.2.2.shape with ⟨hv, _⟩ | ⟨g, cap, hv, _⟩
            · rw [hv]; rfl
            · rw [hv]; rfl
          clear HEND HPX S3 HI hb3 HA0
          cases b with
          | true =>
            have hQ := HNO.out (fun h => by cases h.1)
            clear HNO HYE
            go_wp2_with (refine wp_storePf rfl _ _ rfl w.heap.size _ _ (.slice none 0 0) (.slice none 0 0) A3 rfl rfl rfl rfl ?_; intro hfin)
            refine ret_pf2 4 5 w.heap.size _ _ _ rfl rfl rfl rfl hfin ?_
            exact hQ
          | false =>
            cases PB with
            | false =>
              have hQ := HNO.out (fun h => by cases h.2.1)
              clear HNO HYE
              go_wp2_with (refine wp_storePf rfl _ _ rfl w.heap.size _ _ (.slice none 0 0) (.slice none 0 0) A3 rfl rfl rfl rfl ?_; intro hfin)
              refine ret_pf2 4 5 w.heap.size _ _ _ rfl rfl rfl rfl hfin ?_
              exact hQ
            | true =>
              by_cases ht : PT = s
              · have hQ := HYE.out ⟨rfl, rfl, ht⟩
                have qt : (PT.toList == s.toList) = true := by rw [ht]; simp
                clear HNO HYE ht
                go_wp2_with (first | (refine wp_loadPf rfl _ rfl w1.heap.size _ _ rfl HP3.out ?_) | (refine wp_storePf rfl _ _ rfl w.heap.size _ _ (.slice au l.length cu) vS A3 rfl rfl rfl hone ?_; intro hfin))
                refine ret_pf2 4 5 w.heap.size _ _ _ rfl rfl rfl rfl hfin ?_
                exact hQ
              · have hQ := HNO.out (fun h => ht h.2.2)
                have qt : (PT.toList == s.toList) = false := LV.bytes_ne ht
                clear HNO HYE ht
                go_wp2_with (refine wp_storePf rfl _ _ rfl w.heap.size _ _ (.slice none 0 0) (.slice none 0 0) A3 rfl rfl rfl rfl ?_; intro hfin)
                refine ret_pf2 4 5 w.heap.size _ _ _ rfl rfl rfl rfl hfin ?_
                exact hQ
      · clear hstop
        go_wp2_with fail
        refine (HPX.out _ HI.out.2).mono ?_
        rintro e w3 ⟨rfl, hb3⟩
        have S3 := HI.out.2.later hb3
        have A3 : PfM w3 w.heap.size (.slice none 0 0) (.slice none 0 0) := HA0.out.1.keep (S3.1.2.1.block _ (by omega))
        have b3 : Below w.heap.size w w3 := HA0.out.2.trans (S3.1.2.1.mono (by omega))
        have d3 := S3.2.1.c2
        have hl3 := S3.2.1.lt
        have HNO : Hid (¬ (b = false ∧ PB = true ∧ PT = s) → Q (.returned (.tuple #[.agg #[.slice none 0 0, .slice none 0 0], .bool false])) (w3.setRow w.heap.size #[.slice none 0 0, .slice none 0 0])) := fun h => by
          have h0 := HEND.out.2 h
          rw [← HQ.out, h0, (rp_no h0).1, (rp_no h0).2]
          exact PvP.no (below_row b3 (Nat.le_refl _))
        have HYE : Hid (b = false ∧ PB = true ∧ PT = s → Q (.returned (.tuple #[.agg #[.slice au l.length cu, vS], .bool true])) (w3.setRow w.heap.size #[.slice au l.length cu, vS])) := fun h => by
          obtain ⟨y1, y2, y3⟩ := HEND.out.1 h
          rw [← HQ.out, y1, y2, y3]
          have hgx := grown_setRowP w3 w.heap.size #[.slice au l.length cu, vS]
          obtain ⟨gl, hrl, hgl, hql⟩ := S3.1.rw (by omega)
          obtain ⟨gs, hts, hgs⟩ := S3.2.2.2.ts (by have := HSl.out; omega)
          have hcap : ∃ aS cS, vS = .slice aS S.length cS ∧ S.length ≤ cS := by
            rcases S3.2.2.2.1.2 with ⟨hv, hn⟩ | ⟨g, cap, cur, hv, _, _, hca, _⟩
            · have h0 : S.length = 0 := hn
              exact ⟨none, 0, by rw [hv, h0], by omega⟩
            · exact ⟨_, cap, hv, hca⟩
          obtain ⟨aS, cS, rfl, hcS⟩ := hcap
          refine ⟨au, cu, aS, cS, gl, gs, rfl, hrl.grown hgx (fun _ => by simp; omega), hts.keptG hgx (fun _ => by simp; omega), by omega, by omega, ⟨fun h1 h2 he => ?_, hcS⟩, below_row b3 (Nat.le_refl _)⟩
          subst he
          have hS := S3.2.2.2
          rcases hS.1.2 with ⟨hv, hn⟩ | ⟨g, cap, cur, hv, _, hg, _⟩
          · have h0 : S.length = 0 := hn
            omega
          · have e1 : g = gl := by
              have hh := hts.ss
              obtain ⟨_, _, ev, _, hA, _⟩ := hh
              have := hA h2
              rw [this] at ev
              rw [hv] at ev
              simp only [Value.slice.injEq, Option.some.injEq, Addr.mk.injEq] at ev
              exact ev.1.1
            subst e1
            rcases S3.1.1.2 with ⟨hv2, hn2⟩ | ⟨g2, cap2, cur2, hv2, _, hg2, _⟩
            · have h0 : l.length = 0 := hn2
              omega
            · have e2 : g2 = g := hql g2 (by rw [hv2]; rfl)
              subst e2
              rw [hg] at hg2
              simp at hg2
        have HP3 : Hid (PfM w3 w1.heap.size (.slice au l.length cu) vS) := S3.2.2.1
        have hone : vS.oneCell' = true := by
          rcases S3.2.2.2.shape with ⟨hv, _⟩ | ⟨g, cap, hv, _⟩
          · rw [hv]; rfl
          · rw [hv]; rfl
        clear HEND HPX S3 HI hb3 HA0
        cases b with
        | true =>
          have hQ := HNO.out (fun h => by cases h.1)
          clear HNO HYE
          go_wp2_with (refine wp_storePf rfl _ _ rfl w.heap.size _ _ (.slice none 0 0) (.slice none 0 0) A3 rfl rfl rfl rfl ?_; intro hfin)
          refine ret_pf2 4 5 w.heap.size _ _ _ rfl rfl rfl rfl hfin ?_
          exact hQ
        | false =>
          cases PB with
          | false =>
            have hQ := HNO.out (fun h => by cases h.2.1)
            clear HNO HYE
            go_wp2_with (refine wp_storePf rfl _ _ rfl w.heap.size _ _ (.slice none 0 0) (.slice none 0 0) A3 rfl rfl rfl rfl ?_; intro hfin)
            refine ret_pf2 4 5 w.heap.size _ _ _ rfl rfl rfl rfl hfin ?_
            exact hQ
          | true =>
            by_cases ht : PT = s
            · have hQ := HYE.out ⟨rfl, rfl, ht⟩
              have qt : (PT.toList == s.toList) = true := by rw [ht]; simp
              clear HNO HYE ht
              go_wp2_with (first | (refine wp_loadPf rfl _ rfl w1.heap.size _ _ rfl HP3.out ?_) | (refine wp_storePf rfl _ _ rfl w.heap.size _ _ (.slice au l.length cu) vS A3 rfl rfl rfl hone ?_; intro hfin))
              refine ret_pf2 4 5 w.heap.size _ _ _ rfl rfl rfl rfl hfin ?_
              exact hQ
            · have hQ := HNO.out (fun h => ht h.2.2)
              have qt : (PT.toList == s.toList) = false := LV.bytes_ne ht
              clear HNO HYE ht
              go_wp2_with (refine wp_storePf rfl _ _ rfl w.heap.size _ _ (.slice none 0 0) (.slice none 0 0) A3 rfl rfl rfl rfl ?_; intro hfin)
              refine ret_pf2 4 5 w.heap.size _ _ _ rfl rfl rfl rfl hfin ?_
              exact hQ

end Go.Proofs.Ytfojmagcoipbnaa
