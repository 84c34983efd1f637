/-
  Texts laid together: Gr, Gn, Nx, Ih.
-/
import Derived.Test.YtfojmagcoipbnaaGreatDoorQ22
import Derived.Test.YtfojmagcoipbnaaGreatDoorQ16
/-
  Rows of buckets looked through; nodes and their hashes.
-/
namespace Go.Proofs.YtfojmagcoipbnaaGreatDoor
open Go.RowKit Go.BigFrame Go.Sort
set_option linter.unusedVariables false
set_option linter.unusedSimpArgs false

theorem hasLeaves_any (a : Option Addr) (n c : Nat) (w : World) : Calls Tryz.prog 301 #[.slice a n c] w fun e w' => e = .returned (.bool (decide (0 < n))) ∧ w' = w := by
  go_enter Tryz.func301, Tryz.ntmps301
  go_wp2
  go_ret
  exact ⟨by simp, rfl⟩

/-- the buckets of the 2 ^ k indexes under place p, from offset o of block g on -/
def BkW (w : World) (g o : Nat) (L : List Le) (b n : Nat) : Prop := ∀ j, j < n → ∃ v gj, w.cell? ⟨g, o + j, none⟩ = some v ∧ RS 2 lcs w v gj 0 (TR.und idxL 0 (b + j) L)
theorem BkW.later {w w' : World} {g o : Nat} {L : List Le} {b n : Nat} (h : BkW w g o L b n) (hb : Below w.heap.size w w') : BkW w' g o L b n := fun j hj => by
  obtain ⟨v, gj, h1, h2⟩ := h j hj
  exact ⟨v, gj, cell_later h1 hb, h2.later hb⟩
/-- is one of the first m of them not empty? -/
def anyB (L : List Le) (b m : Nat) : Prop := ∃ j, j < m ∧ 0 < (TR.und idxL 0 (b + j) L).length

def IxfR (L : List Le) (b n : Nat) (w : World) (i : Value) (wr : World) : Prop := ∃ m : Nat, m ≤ n ∧ i = .int .i64 m ∧ wr = w ∧ ¬ anyB L b m

set_option maxRecDepth 100000 in
set_option maxHeartbeats 1000000 in
theorem IndexFunc_any (g o n c b : Nat) (L : List Le) (w : World) (hn : n ≤ 256) (hB : BkW w g o L b n) :
    Calls Tryz.prog 310 #[.slice (some ⟨g, o, none⟩) n c, .func (Fn.func 301) #[] #[]] w fun e w' => (∃ r : Int, e = .returned (.int .i64 r) ∧ (0 ≤ r ↔ anyB L b n) ∧ -1 ≤ r ∧ r ≤ 256) ∧ w' = w := by
  have HB : Hid (BkW w g o L b n) := hB
  have HST : Hid (IxfR L b n w (.int .i64 0) w) := ⟨0, by omega, rfl, rfl, fun ⟨j, h, _⟩ => by omega⟩
  clear hB
  go_enter Tryz.func310, Tryz.ntmps310
  go_wp2
  go_loopw [8] (fun i wr => IxfR L b n w i wr) (fun i _ => n - (intOf i).toNat)
  case atStart => exact HST.out
  case round =>
    obtain ⟨m, hm, rfl, rfl, hna⟩ := hrel
    clear HST
    have HNA : Hid (¬ anyB L b m) := hna
    clear hna
    by_cases hlt : m < n
    · obtain ⟨v, gj, c0, hrs⟩ := HB.out m hlt
      obtain ⟨av, cv, hv, _⟩ := hrs
      subst hv
      have i1 : (m : Int) < (n : Int) := by omega
      have i2 : (0 : Int) ≤ (m : Int) := by omega
      obtain ⟨u, hu⟩ : ∃ u, (TR.und idxL 0 (b + m) L).length = u := ⟨_, rfl⟩
      have HU : Hid ((TR.und idxL 0 (b + m) L).length = u) := hu
      rw [hu] at c0
      clear hu
      by_cases hp : 0 < u
      · have d1 : decide (0 < u) = true := by simpa using hp
        have HF : Hid (∃ r : Int, Ending.returned (.int .i64 (m : Int)) = .returned (.int .i64 r) ∧ (0 ≤ r ↔ anyB L b n) ∧ -1 ≤ r ∧ r ≤ 256) := ⟨_, rfl, ⟨fun _ => ⟨m, hlt, by rw [HU.out]; exact hp⟩, fun _ => i2⟩, by omega, by omega⟩
        go_wp2_with fail
        refine (hasLeaves_any _ _ _ _).mono ?_
        rintro e w1 ⟨rfl, rfl⟩
        rw [d1]
        go_wp2
        go_ret
        exact ⟨HF.out, rfl⟩
      · have d1 : decide (0 < u) = false := by simpa using hp
        have HN2 : Hid (¬ anyB L b (m + 1)) := fun ⟨j, h1, h2⟩ => by
          rcases Nat.lt_or_ge j m with h3 | h3
          · exact HNA.out ⟨j, h3, h2⟩
          · have : j = m := by omega
            subst this
            rw [HU.out] at h2
            exact hp h2
        clear HNA HU hp
        go_wp2_with fail
        refine (hasLeaves_any _ _ _ _).mono ?_
        rintro e w1 ⟨rfl, rfl⟩
        rw [d1]
        go_wp2
        go_roundw
        case rel => exact ⟨m + 1, by omega, by go_num, rfl, HN2.out⟩
        case measure => simp [intOf]; omega
    · have hme : m = n := by omega
      have HF : Hid (∃ r : Int, Ending.returned (.int .i64 (-1)) = .returned (.int .i64 r) ∧ (0 ≤ r ↔ anyB L b n) ∧ -1 ≤ r ∧ r ≤ 256) := ⟨_, rfl, ⟨fun h => by omega, fun h => absurd (hme ▸ h) HNA.out⟩, by omega, by omega⟩
      clear HNA HB
      go_wp2
      go_ret
      exact ⟨HF.out, rfl⟩

open Classical in
noncomputable def anyD (L : List Le) (b n : Nat) : Bool := decide (anyB L b n)
theorem anyD_iff {L : List Le} {b n : Nat} : anyD L b n = true ↔ anyB L b n := by simp [anyD]
theorem ContainsFunc_any (g o n c b : Nat) (L : List Le) (w : World) (hn : n ≤ 256) (hB : BkW w g o L b n) :
    Calls Tryz.prog 300 #[.slice (some ⟨g, o, none⟩) n c, .func (Fn.func 301) #[] #[]] w fun e w' => e = .returned (.bool (anyD L b n)) ∧ w' = w := by
  have hc := IndexFunc_any g o n c b L w hn hB
  have HA : Hid (∀ r : Int, (0 ≤ r ↔ anyB L b n) → decide (0 ≤ r) = anyD L b n) := fun r hr => by
    rw [Bool.eq_iff_iff, anyD_iff, decide_eq_true_iff]
    exact hr
  clear hB
  go_enter Tryz.func300, Tryz.ntmps300
  go_wp2_with fail
  refine hc.mono ?_
  rintro e w1 ⟨⟨r, rfl, hr, h1, h2⟩, rfl⟩
  have hd := HA.out r hr
  clear hc HA hr
  go_wp2
  go_ret
  exact ⟨rfl, rfl⟩

/-! the method hash, of each kind of node -/
theorem hashE_any (g : Nat) (t : ByteArray) (w : World) (h : w.cell? ⟨g, 1, none⟩ = some (.string t)) : Calls Tryz.prog 270 #[.pointer (some ⟨g, 0, none⟩)] w fun e w' => e = .returned (.string t) ∧ w' = w := by
  go_enter Tryz.func270, Tryz.ntmps270
  go_wp2
  go_ret
  exact ⟨rfl, rfl⟩
theorem hashK_any (g : Nat) (t : ByteArray) (w : World) (h : w.cell? ⟨g, 0, none⟩ = some (.string t)) : Calls Tryz.prog 331 #[.pointer (some ⟨g, 0, none⟩)] w fun e w' => e = .returned (.string t) ∧ w' = w := by
  go_enter Tryz.func331, Tryz.ntmps331
  go_wp2
  go_ret
  exact ⟨rfl, rfl⟩
theorem hashF_any (g : Nat) (t : ByteArray) (w : World) (h : w.cell? ⟨g, 2, none⟩ = some (.string t)) : Calls Tryz.prog 329 #[.pointer (some ⟨g, 0, none⟩)] w fun e w' => e = .returned (.string t) ∧ w' = w := by
  go_enter Tryz.func329, Tryz.ntmps329
  go_wp2
  go_ret
  exact ⟨rfl, rfl⟩
theorem invE (g : Nat) (w : World) : (invoke (.fn (.method "loop.example/g00284/impl.hash") #[]) #[.iface 283 (.pointer (some ⟨g, 0, none⟩))]).run Tryz.prog w = .ok (.enter 270 #[.pointer (some ⟨g, 0, none⟩)]) w := by kernel_rfl
theorem invK (g : Nat) (w : World) : (invoke (.fn (.method "loop.example/g00284/impl.hash") #[]) #[.iface 321 (.pointer (some ⟨g, 0, none⟩))]).run Tryz.prog w = .ok (.enter 331 #[.pointer (some ⟨g, 0, none⟩)]) w := by kernel_rfl
theorem invF (g : Nat) (w : World) : (invoke (.fn (.method "loop.example/g00284/impl.hash") #[]) #[.iface 279 (.pointer (some ⟨g, 0, none⟩))]).run Tryz.prog w = .ok (.enter 329 #[.pointer (some ⟨g, 0, none⟩)]) w := by kernel_rfl

/-- v is a node whose hash is t -/
def HsN (w : World) (v : Value) (t : ByteArray) : Prop := ∃ T g, v = .iface T (.pointer (some ⟨g, 0, none⟩)) ∧ ((T = 283 ∧ w.cell? ⟨g, 1, none⟩ = some (.string t)) ∨ (T = 321 ∧ w.cell? ⟨g, 0, none⟩ = some (.string t)) ∨ (T = 279 ∧ w.cell? ⟨g, 2, none⟩ = some (.string t)))
theorem HsN.later {w w' : World} {v : Value} {t : ByteArray} (h : HsN w v t) (hb : Below w.heap.size w w') : HsN w' v t := by
  obtain ⟨T, g, hv, h⟩ := h
  refine ⟨T, g, hv, ?_⟩
  rcases h with ⟨h1, h2⟩ | ⟨h1, h2⟩ | ⟨h1, h2⟩
  · exact .inl ⟨h1, cell_later h2 hb⟩
  · exact .inr (.inl ⟨h1, cell_later h2 hb⟩)
  · exact .inr (.inr ⟨h1, cell_later h2 hb⟩)
/-- what the call of hash comes to -/
theorem HsN.inv {w : World} {v : Value} {t : ByteArray} (h : HsN w v t) : ∃ F q, (invoke (.fn (.method "loop.example/g00284/impl.hash") #[]) #[v]).run Tryz.prog w = .ok (.enter F #[q]) w ∧ Calls Tryz.prog F #[q] w fun e w' => e = .returned (.string t) ∧ w' = w := by
  obtain ⟨T, g, rfl, h⟩ := h
  rcases h with ⟨rfl, h2⟩ | ⟨rfl, h2⟩ | ⟨rfl, h2⟩
  · exact ⟨_, _, invE g w, hashE_any g t w h2⟩
  · exact ⟨_, _, invK g w, hashK_any g t w h2⟩
  · exact ⟨_, _, invF g w, hashF_any g t w h2⟩
section
variable {w : World} {ops : Array Oper} {o : Oper} {a : Act} {K : Act → World → Prop} {Q : Exit → Act → World → Prop}
theorem oper_hash (r : Operand) (ho : o.op = .call { callee := .invoke r "loop.example/g00284/impl.hash", args := #[], argTypes := #[] })
    (v : Value) (t : ByteArray) (hv : a.eval r = v) (hN : HsN w v t) (hk : K (a.put o.dst (.string t)) w) : Oper.wp Tryz.prog o a w K Q := by
  obtain ⟨F, q, h1, h2⟩ := hN.inv
  unfold Oper.wp
  have e : (execOp a.eval o).run Tryz.prog w = .ok (.enter F #[q]) w := by
    simp [execOp, ho, resolve, hv, h1]
  rw [e, Oper.upon_enter]
  refine h2.mono ?_
  rintro e w1 ⟨rfl, rfl⟩
  exact hk
/-- hash of a node, in a plain region -/
theorem wp_hash {rest : List Oper} (hgd : o.guard = none) (r : Operand) (ho : o.op = .call { callee := .invoke r "loop.example/g00284/impl.hash", args := #[], argTypes := #[] })
    (v : Value) (t : ByteArray) (hv : a.eval r = v) (hN : HsN w v t) (h : wpList Tryz.prog ops Q rest (a.put o.dst (.string t)) w) : wpList Tryz.prog ops Q (o :: rest) a w :=
  wpList_plain hgd fun K hK => oper_hash r ho v t hv hN (hK _ _ h)
end

end Go.Proofs.YtfojmagcoipbnaaGreatDoor
/-
  The tree that the program grows over its buckets.
-/
namespace Go.Proofs.YtfojmagcoipbnaaGreatDoor
open Go.RowKit Go.BigFrame Go.Sort
set_option linter.unusedVariables false
set_option linter.unusedSimpArgs false

/-- v is the node of place p, k levels above the buckets -/
def NT (x : Int) (L : List Le) (w : World) : Nat → Nat → Value → Prop
  | 0, p, v => (∃ q, v = .iface 283 q ∧ EmN x w 0 q ∧ TR.und idxL 0 p L = []) ∨ ∃ g, v = .iface 321 (.pointer (some ⟨g, 0, none⟩)) ∧ w.cell? ⟨g, 0, none⟩ = some (.string (trB x 0 p L))
  | k + 1, p, v => (∃ q, v = .iface 283 q ∧ EmN x w (k + 1) q ∧ TR.und idxL (k + 1) p L = []) ∨ ∃ g a b, v = .iface 279 (.pointer (some ⟨g, 0, none⟩)) ∧ w.cell? ⟨g, 0, none⟩ = some a ∧ w.cell? ⟨g, 1, none⟩ = some b ∧ w.cell? ⟨g, 2, none⟩ = some (.string (trB x (k + 1) p L)) ∧ NT x L w k (2 * p) a ∧ NT x L w k (2 * p + 1) b
theorem NT.later {x : Int} {L : List Le} {w w' : World} (hb : Below w.heap.size w w') : ∀ {k p : Nat} {v : Value}, NT x L w k p v → NT x L w' k p v
  | 0, p, v, h => by
    rcases h with ⟨q, h1, h2, h3⟩ | ⟨g, h1, h2⟩
    · exact .inl ⟨q, h1, h2.later hb, h3⟩
    · exact .inr ⟨g, h1, cell_later h2 hb⟩
  | k + 1, p, v, h => by
    rcases h with ⟨q, h1, h2, h3⟩ | ⟨g, a, b, h1, h2, h3, h4, h5, h6⟩
    · exact .inl ⟨q, h1, h2.later hb, h3⟩
    · exact .inr ⟨g, a, b, h1, cell_later h2 hb, cell_later h3 hb, cell_later h4 hb, NT.later hb h5, NT.later hb h6⟩
theorem NT.empty {x : Int} {L : List Le} {w : World} : ∀ {k p : Nat} {q : Value}, EmN x w k q → TR.und idxL k p L = [] → NT x L w k p (.iface 283 q)
  | 0, p, q, h, h0 => .inl ⟨q, rfl, h, h0⟩
  | k + 1, p, q, h, h0 => .inl ⟨q, rfl, h, h0⟩
theorem NT.hash {x : Int} {L : List Le} {w : World} : ∀ {k p : Nat} {v : Value}, NT x L w k p v → HsN w v (trB x k p L)
  | 0, p, v, h => by
    rcases h with ⟨q, h1, h2, h3⟩ | ⟨g, h1, h2⟩
    · obtain ⟨g, rfl, hc⟩ := h2.made
      exact ⟨_, g, h1, .inl ⟨rfl, by rw [tr_emp h3]; exact hc⟩⟩
    · exact ⟨_, g, h1, .inr (.inl ⟨rfl, h2⟩)⟩
  | k + 1, p, v, h => by
    rcases h with ⟨q, h1, h2, h3⟩ | ⟨g, a, b, h1, h2, h3, h4, h5, h6⟩
    · obtain ⟨g, rfl, hc⟩ := h2.made
      exact ⟨_, g, h1, .inl ⟨rfl, by rw [tr_emp h3]; exact hc⟩⟩
    · exact ⟨_, g, h1, .inr (.inr ⟨rfl, h4⟩)⟩
/-- nothing lies under a place where nothing lies below it -/
theorem und_any (L : List Le) (k p : Nat) : anyB L (p * 2 ^ k) (2 ^ k) ↔ TR.und idxL k p L ≠ [] := by
  constructor
  · rintro ⟨j, hj, h⟩ h0
    have h1 : (p * 2 ^ k + j) / 2 ^ k = p := by
      rw [Nat.mul_comm, Nat.mul_add_div (Nat.two_pow_pos k), Nat.div_eq_of_lt hj, Nat.add_zero]
    have h2 := TR.und_down (idx := idxL) (k := 0) (j := k) (p := p) (q := p * 2 ^ k + j) (l := L) h1 (by rw [Nat.zero_add]; exact h0)
    rw [h2] at h
    simp at h
  · intro h
    obtain ⟨f, hf⟩ := List.exists_mem_of_ne_nil _ h
    unfold TR.und at hf
    have hq : idxL f / 2 ^ k = p := by simpa using (List.mem_filter.1 hf).2
    have hfL := (List.mem_filter.1 hf).1
    refine ⟨idxL f % 2 ^ k, Nat.mod_lt _ (Nat.two_pow_pos k), List.length_pos_of_mem (a := f) ?_⟩
    unfold TR.und
    rw [List.mem_filter]
    refine ⟨hfL, ?_⟩
    have : p * 2 ^ k + idxL f % 2 ^ k = idxL f := by rw [← hq, Nat.mul_comm]; exact Nat.div_add_mod _ _
    rw [this]
    simp
theorem leaves_und {L : List Le} (h : LV.LOk L) (k p : Nat) : LV.leavesB (TR.und idxL k p L) = true := by
  refine LV.leavesB_iff.2 ⟨Nat.le_trans (und_len k p L) h.1, fun f hf => h.2.1 f ?_, List.Pairwise.filter _ h.2.2⟩
  unfold TR.und at hf
  exact (List.mem_filter.1 hf).1

/-- what grown answers at this height -/
def GrC (x : Int) (L : List Le) (k : Nat) : Prop := ∀ (p g o n c : Nat) (e : Value) (w : World), n = 2 ^ k → n ≤ c → c ≤ 256 → BkW w g o L (p * n) n → EmN x w k e → Tb w →
    Calls Tryz.prog 271 #[.slice (some ⟨g, o, none⟩) n c, e, .int .i64 x] w fun e w' => ∃ v, e = .returned v ∧ NT x L w' k p v ∧ Below w.heap.size w w'

set_option maxRecDepth 100000 in
set_option maxHeartbeats 1000000 in
theorem grown_none (x : Int) (L : List Le) (k p g o n c : Nat) (e : Value) (w : World) (hn : n = 2 ^ k) (hc : n ≤ 256) (hB : BkW w g o L (p * n) n) (hE : EmN x w k e) (h0 : TR.und idxL k p L = []) :
    Calls Tryz.prog 271 #[.slice (some ⟨g, o, none⟩) n c, e, .int .i64 x] w fun e w' => ∃ v, e = .returned v ∧ NT x L w' k p v ∧ Below w.heap.size w w' := by
  have hcf := ContainsFunc_any g o n c (p * n) L w hc hB
  have ha : anyD L (p * n) n = false := by
    rw [← Bool.not_eq_true, anyD_iff, hn, und_any]
    simpa using h0
  rw [ha] at hcf
  have HN : Hid (NT x L w k p (.iface 283 e)) := NT.empty hE h0
  obtain ⟨ge, rfl, _⟩ := hE.made
  clear hB hE h0 ha hn
  go_enter Tryz.func271, Tryz.ntmps271
  go_wp2_with fail
  refine hcf.mono ?_
  rintro e w1 ⟨rfl, rfl⟩
  clear hcf
  go_wp2
  go_ret
  exact ⟨_, rfl, HN.out, Below.refl _ _⟩

set_option maxRecDepth 100000 in
set_option maxHeartbeats 1000000 in
theorem grown_zero (x : Int) (L : List Le) (hL : LV.LOk L) (hsm : SmallL L) : GrC x L 0 := by
  intro p g o n c e w hn hnc hc hB hE hT
  by_cases h0 : TR.und idxL 0 p L = []
  · exact grown_none x L 0 p g o n c e w hn (by omega) hB hE h0
  · have hcf := ContainsFunc_any g o n c (p * n) L w (by omega) hB
    have ha : anyD L (p * n) n = true := by rw [anyD_iff, hn, und_any]; exact h0
    rw [ha] at hcf
    have e1 : n = 1 := hn
    subst e1
    obtain ⟨v, gj, c0, hrs⟩ := hB 0 (by omega)
    rw [Nat.add_zero, Nat.mul_one] at hrs
    rw [Nat.add_zero] at c0
    have hbh := BucketHash_any v gj 0 _ x w hrs (und_small hsm) hT
    have HN : Hid (∀ W, Below w.heap.size w W → NT x L (W.alloc (.cells #[.string (bhB x (TR.und idxL 0 p L))] 323)) 0 p (.iface 321 (.pointer (some ⟨W.heap.size, 0, none⟩))) ∧ Below w.heap.size w (W.alloc (.cells #[.string (bhB x (TR.und idxL 0 p L))] 323))) := fun W hW => by
      refine ⟨.inr ⟨W.heap.size, rfl, ?_⟩, hW.alloc hW.size _⟩
      rw [World.cell?_alloc_at _ _ _ _ rfl]
      rfl
    obtain ⟨ge, rfl, _⟩ := hE.made
    obtain ⟨av, cv, rfl, _⟩ := hrs
    generalize bhB x (TR.und idxL 0 p L) = T at *
    clear hB hE h0 ha hn hT hsm hL
    go_enter Tryz.func271, Tryz.ntmps271
    go_wp2_with fail
    refine hcf.mono ?_
    rintro e w1 ⟨rfl, rfl⟩
    clear hcf
    go_wp2_with fail
    refine hbh.mono ?_
    rintro e w2 ⟨rfl, hb2⟩
    clear hbh
    go_wp2
    go_ret
    exact ⟨_, rfl, HN.out _ hb2⟩

set_option maxRecDepth 100000 in
set_option maxHeartbeats 2000000 in
theorem grown_fork (x : Int) (L : List Le) (k : Nat) (ih : GrC x L k) : GrC x L (k + 1) := by
  intro p g o n c e w hn hnc hc hB hE hT
  by_cases h0 : TR.und idxL (k + 1) p L = []
  · exact grown_none x L (k + 1) p g o n c e w hn (by omega) hB hE h0
  · have hcf := ContainsFunc_any g o n c (p * n) L w (by omega) hB
    have ha : anyD L (p * n) n = true := by rw [anyD_iff, hn, und_any]; exact h0
    rw [ha] at hcf
    obtain ⟨h, hh⟩ : ∃ h, 2 ^ k = h := ⟨_, rfl⟩
    have hpos : 1 ≤ h := by rw [← hh]; exact Nat.one_le_two_pow
    have hnh : n = h + h := by rw [hn, Nat.pow_succ, hh]; omega
    have HH : Hid (h = 2 ^ k) := hh.symm
    obtain ⟨ge, be, rfl, ce, c1, hbe⟩ := hE
    have HL : Hid (∀ W, Below w.heap.size w W → Calls Tryz.prog 271 #[.slice (some ⟨g, o, none⟩) h c, be, .int .i64 x] W fun e w' => ∃ v, e = .returned v ∧ NT x L w' k (2 * p) v ∧ Below W.heap.size W w') := fun W hW => by
      refine ih (2 * p) g o h c be W HH.out (by omega) hc ?_ (hbe.later hW) (hT.later hW)
      have h1 := hB.later hW
      have e1 : 2 * p * h = p * n := by rw [hnh, Nat.mul_comm 2 p, Nat.mul_assoc]; congr 1; omega
      rw [e1]
      exact fun j hj => h1 j (by omega)
    have HR : Hid (∀ W, Below w.heap.size w W → Calls Tryz.prog 271 #[.slice (some ⟨g, o + h, none⟩) (n - h) (c - h), be, .int .i64 x] W fun e w' => ∃ v, e = .returned v ∧ NT x L w' k (2 * p + 1) v ∧ Below W.heap.size W w') := fun W hW => by
      have e0 : n - h = h := by omega
      rw [e0]
      refine ih (2 * p + 1) g (o + h) h (c - h) be W HH.out (by omega) (by omega) ?_ (hbe.later hW) (hT.later hW)
      have h1 := hB.later hW
      have e1 : (2 * p + 1) * h = p * n + h := by rw [hnh, Nat.add_mul, Nat.one_mul, Nat.mul_comm 2 p, Nat.mul_assoc]; congr 2; omega
      intro j hj
      obtain ⟨v, gj, h2, h3⟩ := h1 (h + j) (by omega)
      refine ⟨v, gj, ?_, ?_⟩
      · rw [Nat.add_assoc]; exact h2
      · rw [e1, Nat.add_assoc]; exact h3
    have hge : ge < w.heap.size := lt_of_cell ce
    have HT : Hid (Tb w) := hT
    have q1 : ((n : Int) == 1) = false := by simp; omega
    have q2 : (n : Int) / 2 = (h : Int) := by omega
    have i1 : (h : Int) ≤ (c : Int) := by omega
    have i2 : (0 : Int) ≤ (h : Int) := by omega
    have i3 : (h : Int) ≤ (n : Int) := by omega
    have i4 : (n : Int) ≤ (c : Int) := by omega
    have hch : ¬ c = h := by omega
    have hn256 : n ≤ 256 := by omega
    clear hB hT ih hnh hh h0 ha hn c1 hbe HH
    go_enter Tryz.func271, Tryz.ntmps271
    go_wp2_with fail
    refine hcf.mono ?_
    rintro e w1 ⟨rfl, rfl⟩
    clear hcf
    go_wp2_with fail
    have HL1 : Hid (Calls Tryz.prog 271 #[.slice (some ⟨g, o, none⟩) h c, be, .int .i64 x] w1.drew fun e w' => ∃ v, e = .returned v ∧ NT x L w' k (2 * p) v ∧ Below w1.heap.size w1 w') := (HL.out w1.drew ((Below.refl _ _).drew)).mono fun e w' ⟨v, h1, h2, h3⟩ => ⟨v, h1, h2, (Below.refl _ _).drew.trans h3⟩
    go_region_held3 (fun W => W.cell? ⟨ge, 0, none⟩ = some be) (first | go_keep | exact (hb2.cell (p := ⟨ge, 0, none⟩) hge).trans ce) ((go_at_call 271; with_reducible refine HL1.out.mono ?_; rintro e w2 ⟨v1, rfl, hN1, hb2⟩))
    have ce2 : w2.cell? ⟨ge, 0, none⟩ = some be := (hb2.cell (p := ⟨ge, 0, none⟩) hge).trans ce
    have hge2 : ge < w2.heap.size := lt_of_cell ce2
    have HR1 : Hid (Calls Tryz.prog 271 #[.slice (some ⟨g, o + h, none⟩) (n - h) (c - h), be, .int .i64 x] w2.drew fun e w' => ∃ v, e = .returned v ∧ NT x L w' k (2 * p + 1) v ∧ Below w2.heap.size w2 w') := (HR.out w2.drew (hb2.trans (Below.refl _ _).drew)).mono fun e w' ⟨v, h1, h2, h3⟩ => ⟨v, h1, h2, (Below.refl _ _).drew.trans h3⟩
    have HN1 : Hid (NT x L w2 k (2 * p) v1) := hN1
    have HB2 : Hid (Below w1.heap.size w1 w2) := hb2
    clear HL HL1 hN1 hb2 ce hge HR
    go_wp2_with fail
    go_region_held3 (fun W => W.cell? ⟨ge, 0, none⟩ = some be) (first | go_keep | exact (hb3.cell (p := ⟨ge, 0, none⟩) hge2).trans ce2) ((go_at_call 271; with_reducible refine HR1.out.mono ?_; rintro e w3 ⟨v2, rfl, hN2, hb3⟩))
    have HN2 : Hid (NT x L w3 k (2 * p) v1 ∧ NT x L w3 k (2 * p + 1) v2 ∧ Below w1.heap.size w1 w3) := ⟨HN1.out.later hb3, hN2, HB2.out.trans (hb3.mono HB2.out.size)⟩
    have hA := HN2.out.1.hash
    have hBb := HN2.out.2.1.hash
    have HT3 : Hid (Tb w3) := HT.out.later HN2.out.2.2
    have htr : hashB 3 [trB x k (2 * p) L, trB x k (2 * p + 1) L] x = trB x (k + 1) p L := rfl
    have ht := taggedHash_w x 3 [trB x k (2 * p) L, trB x k (2 * p + 1) L] 2 #[.string (trB x k (2 * p) L), .string (trB x k (2 * p + 1) L)] w3 _ rfl rfl (by omega) rfl HT3.out
    rw [htr] at ht
    have HF : Hid (∀ W, Below w3.heap.size w3 W → NT x L (W.alloc (.cells #[v1, v2, .string (trB x (k + 1) p L)] 282)) (k + 1) p (.iface 279 (.pointer (some ⟨W.heap.size, 0, none⟩))) ∧ Below w1.heap.size w1 (W.alloc (.cells #[v1, v2, .string (trB x (k + 1) p L)] 282))) := fun W hW => by
      have hb0 : Below w1.heap.size w1 W := HN2.out.2.2.trans (hW.mono HN2.out.2.2.size)
      have hba := hW.alloc hW.size (.cells #[v1, v2, .string (trB x (k + 1) p L)] 282)
      refine ⟨.inr ⟨W.heap.size, v1, v2, rfl, ?_, ?_, ?_, HN2.out.1.later hba, HN2.out.2.1.later hba⟩, hb0.alloc hb0.size _⟩
      · rw [World.cell?_alloc_at _ _ _ _ rfl]; rfl
      · rw [World.cell?_alloc_at _ _ _ _ rfl]; rfl
      · rw [World.cell?_alloc_at _ _ _ _ rfl]; rfl
    generalize trB x (k + 1) p L = T at *
    generalize trB x k (2 * p) L = T1 at *
    generalize trB x k (2 * p + 1) L = T2 at *
    have HA : Hid (HsN w3 v1 T1) := hA
    have HBB : Hid (HsN w3 v2 T2) := hBb
    obtain ⟨Ta, pa, rfl, _⟩ := hA
    obtain ⟨Tb', pb, rfl, _⟩ := hBb
    clear HN1 HB2 HR1 hN2 hb3 HN2 HT3 htr HT ce2 hge2
    go_wp2_with (first | (refine wp_hash rfl _ rfl _ T1 rfl HA.out ?_) | (refine wp_hash rfl _ rfl _ T2 rfl HBB.out ?_))
    refine ht.out.mono ?_
    rintro e w4 ⟨rfl, hb4⟩
    clear ht HA HBB
    go_wp2_with fail
    go_ret
    exact ⟨_, rfl, HF.out _ hb4⟩

theorem grown_any (x : Int) (L : List Le) (hL : LV.LOk L) (hsm : SmallL L) : ∀ k, GrC x L k
  | 0 => grown_zero x L hL hsm
  | k + 1 => grown_fork x L k (grown_any x L hL hsm k)

end Go.Proofs.YtfojmagcoipbnaaGreatDoor
/-
  The program's buckets of a list, and the node over them.
-/
namespace Go.Proofs.YtfojmagcoipbnaaGreatDoor
open Go.RowKit Go.BigFrame Go.Sort
set_option linter.unusedVariables false
set_option linter.unusedSimpArgs false

/-- an array of so many nil slices -/
def zB : Array Value := (List.replicate 256 (Value.slice none 0 0)).toArray
theorem zeroBk : (Tryz.prog.info? 286).map (fun i => (i.zero, i.size)) = some (some (.agg zB), 256) := by kernel_rfl
theorem zB_at (j : Nat) (h : j < 256) : zB[j]? = some (.slice none 0 0) := by
  unfold zB
  rw [List.getElem?_toArray, List.getElem?_replicate, if_pos h]
section
variable {w : World} {ops : Array Oper} {rest : List Oper} {o : Oper} {a : Act} {Q : Exit → Act → World → Prop}
theorem wp_allocB (hgd : o.guard = none) (ho : o.op = .alloc 286)
    (h : wpList Tryz.prog ops Q rest (a.put o.dst (.pointer (some ⟨w.heap.size, 0, none⟩))) (w.alloc (.cells zB 286))) : wpList Tryz.prog ops Q (o :: rest) a w := by
  refine wpList_plain hgd fun K hK => ?_
  have h1 := (zero_of_info zeroBk).1
  have hr : (Instr.alloc 286 true (.tuple #[])).run Tryz.prog w = .ok (.pointer (some ⟨w.heap.size, 0, none⟩)) (w.alloc (.cells zB 286)) := by
    unfold Instr.alloc
    simp [h1, newVar, newRow, Value.cells]
  unfold Oper.wp
  simp [execOp, ho, hr, Result.andThen]
  exact hK _ _ h
end

/-- block g is the array of the slices F -/
def BA (w : World) (g : Nat) (F : Nat → Value) : Prop := ∃ cur, w.heap[g]? = some (.cells cur 286 (0, 0)) ∧ cur.size = 256 ∧ ∀ j, j < 256 → cur[j]? = some (F j)
theorem BA.cell {w : World} {g : Nat} {F : Nat → Value} (h : BA w g F) (j : Nat) (hj : j < 256) : w.cell? ⟨g, j, none⟩ = some (F j) := by
  obtain ⟨cur, h1, _, h3⟩ := h
  rw [cell_of_row w g j cur _ (0, 0) h1]
  exact h3 j hj
theorem BA.frozen {w : World} {g : Nat} {F : Nat → Value} (h : BA w g F) (j : Nat) : w.frozen? ⟨g, j, none⟩ = false := by
  obtain ⟨cur, h1, _⟩ := h
  simp [World.frozen?, h1]
theorem BA.lt {w : World} {g : Nat} {F : Nat → Value} (h : BA w g F) : g < w.heap.size := by
  obtain ⟨cur, h1, _⟩ := h
  exact (Array.getElem?_eq_some_iff.1 h1).1
theorem BA.keep {w w' : World} {g : Nat} {F : Nat → Value} (h : BA w g F) (he : w'.heap[g]? = w.heap[g]?) : BA w' g F := by
  obtain ⟨cur, h1, h2⟩ := h
  exact ⟨cur, by rw [he]; exact h1, h2⟩
theorem BA.set {w : World} {g : Nat} {F : Nat → Value} (h : BA w g F) (i : Nat) (hi : i < 256) (v : Value) : BA (w.setCell ⟨g, i, none⟩ v) g (fun j => if j = i then v else F j) := by
  obtain ⟨cur, h1, h2, h3⟩ := h
  refine ⟨_, heap_setCell_same w g i cur _ _ h1, by simpa using h2, fun j hj => ?_⟩
  rw [Array.getElem?_setIfInBounds]
  by_cases he : i = j
  · subst he
    simp [h2, hi]
  · rw [if_neg he, h3 j hj]
    show some (F j) = some (if j = i then v else F j)
    rw [if_neg (fun e : j = i => he e.symm)]

theorem OL.setOther {B : Nat} {w0 w : World} {v : Value} {l : List Le} {g : Nat} (h : OL B w0 w v l) (hg : B ≤ g) (hne : v.ownBlock ≠ some g) (i : Nat) (x : Value) : OL B w0 (w.setCell ⟨g, i, none⟩ x) v l := by
  refine ⟨⟨h.1.1, ?_⟩, h.2.1.setCell (p := ⟨g, i, none⟩) hg _, by rw [World.size_setCell]; exact h.2.2⟩
  rcases h.1.2 with hn | ⟨q, cap, cur, hv, hbq, hq, rest⟩
  · exact .inl hn
  · refine .inr ⟨q, cap, cur, hv, hbq, ?_, rest⟩
    rw [heap_setCell_other w ⟨g, i, none⟩ q x (fun e => hne (by rw [hv, e]; rfl))]
    exact hq

/-- the buckets of the leaves l, in the array at g -/
def GB (B : Nat) (w0 w : World) (g : Nat) (F : Nat → Value) (l : List Le) : Prop :=
  BA w g F ∧ B ≤ g ∧ (∀ i, i < 256 → OL B w0 w (F i) (TR.und idxL 0 i l)) ∧ (∀ i, i < 256 → (F i).ownBlock ≠ some g) ∧ ∀ i j, i < 256 → j < 256 → i ≠ j → ∀ q, (F i).ownBlock = some q → (F j).ownBlock ≠ some q
theorem GB.later {B : Nat} {w0 w w' : World} {g : Nat} {F : Nat → Value} {l : List Le} (h : GB B w0 w g F l) (hb : Below w.heap.size w w') : GB B w0 w' g F l :=
  ⟨h.1.keep (hb.block g h.1.lt), h.2.1, fun i hi => (h.2.2.1 i hi).later hb, h.2.2.2⟩
theorem GB.below {B : Nat} {w0 w : World} {g : Nat} {F : Nat → Value} {l : List Le} (h : GB B w0 w g F l) : Below B w0 w := (h.2.2.1 0 (by omega)).2.1
theorem GB.made (w : World) : GB w.heap.size w (w.alloc (.cells zB 286)) w.heap.size (fun _ => .slice none 0 0) [] := by
  have hb : Below w.heap.size w (w.alloc (.cells zB 286)) := (Below.refl _ _).alloc (Nat.le_refl _) _
  have hz : zB.size = 256 := by
    unfold zB
    rw [List.size_toArray, List.length_replicate]
  exact ⟨⟨zB, Go.heap_alloc_new w _, hz, fun j hj => zB_at j hj⟩, Nat.le_refl _, fun i hi => ⟨World.ownsRow_nil _ _ _ _, hb, by simp⟩, fun i hi => by simp [Value.ownBlock], fun i j _ _ _ q h => by simp [Value.ownBlock] at h⟩
/-- behind the append the array is as it was -/
theorem GB.app1 {B : Nat} {w0 w w5 : World} {g : Nat} {F : Nat → Value} {l : List Le} {i : Nat} (h : GB B w0 w g F l) (hi : i < 256) (hg : w.grownBy w5 (F i).ownBlock) : BA w5 g F :=
  h.1.keep (hg.block g h.1.lt (fun e => h.2.2.2.1 i hi e.symm))
/-- a leaf appended to its bucket, and the bucket stored -/
theorem GB.app {B : Nat} {w0 w w5 : World} {g g5 n cap5 i : Nat} {F : Nat → Value} {l : List Le} {X : Le} (h : GB B w0 w g F l) (hi : i < 256) (hx : idxL X = i) (ho : OL B w0 w5 (.slice (some ⟨g5, 0, none⟩) n cap5) (TR.und idxL 0 i l ++ [X])) (hg : w.grownBy w5 (F i).ownBlock) (hl : (F i).ownBlock = some g5 ∨ g5 = w.heap.size) :
    GB B w0 (w5.setCell ⟨g, i, none⟩ (.slice (some ⟨g5, 0, none⟩) n cap5)) g (fun j => if j = i then .slice (some ⟨g5, 0, none⟩) n cap5 else F j) (l ++ [X]) := by
  have hba := h.app1 hi hg
  have hg5 : g5 ≠ g := by
    rcases hl with e | e
    · intro e2
      subst e2
      exact h.2.2.2.1 i hi e
    · have := h.1.lt
      omega
  have hown : ∀ j, j < 256 → j ≠ i → (F j).ownBlock ≠ some g5 := by
    intro j hj hji e
    rcases hl with e2 | e2
    · exact h.2.2.2.2 j i hj hi hji g5 e e2
    · have := ((h.2.2.1 j hj).1.lt g5 e).2
      omega
  have hund : ∀ j, TR.und idxL 0 j (l ++ [X]) = if j = i then TR.und idxL 0 i l ++ [X] else TR.und idxL 0 j l := by
    intro j
    unfold TR.und
    rw [List.filter_append]
    by_cases e : j = i
    · subst e
      rw [if_pos rfl]
      simp [hx]
    · rw [if_neg e]
      have : idxL X / 2 ^ 0 ≠ j := by simpa [hx] using fun h => e h.symm
      simp only [List.filter_cons, decide_eq_false this]
      simp
  refine ⟨hba.set i hi _, h.2.1, fun j hj => ?_, fun j hj => ?_, fun a b ha hb hab q hq => ?_⟩
  · rw [hund j]
    show OL B w0 _ (if j = i then _ else F j) _
    by_cases e : j = i
    · rw [if_pos e, if_pos e]
      exact ho.setOther h.2.1 (fun e2 => hg5 (by simpa [Value.ownBlock] using e2)) i _
    · rw [if_neg e, if_neg e]
      have h1 : OL B w0 w5 (F j) (TR.und idxL 0 j l) := (h.2.2.1 j hj).grown hg (fun q hq => ⟨((h.2.2.1 i hi).1.lt q hq).1, fun e2 => h.2.2.2.2 i j hi hj (fun e3 => e e3.symm) q hq e2⟩)
      exact h1.setOther h.2.1 (h.2.2.2.1 j hj) i _
  · show (if j = i then Value.slice (some ⟨g5, 0, none⟩) n cap5 else F j).ownBlock ≠ some g
    by_cases e : j = i
    · rw [if_pos e]
      exact fun e2 => hg5 (by simpa [Value.ownBlock] using e2)
    · rw [if_neg e]
      exact h.2.2.2.1 j hj
  · have hq' : (if a = i then Value.slice (some ⟨g5, 0, none⟩) n cap5 else F a).ownBlock = some q := hq
    show (if b = i then Value.slice (some ⟨g5, 0, none⟩) n cap5 else F b).ownBlock ≠ some q
    by_cases ea : a = i
    · rw [if_pos ea] at hq'
      have e5 : g5 = q := by simpa [Value.ownBlock] using hq'
      rw [if_neg (fun e => hab (ea.trans e.symm)), ← e5]
      exact hown b hb (fun e => hab (ea.trans e.symm))
    · rw [if_neg ea] at hq'
      by_cases eb : b = i
      · rw [if_pos eb]
        intro e2
        have e5 : g5 = q := by simpa [Value.ownBlock] using e2
        rw [← e5] at hq'
        exact hown a ha ea hq'
      · rw [if_neg eb]
        exact h.2.2.2.2 a b ha hb hab q hq'
/-- as grown wants them -/
theorem GB.row {B : Nat} {w0 w : World} {g : Nat} {F : Nat → Value} {l : List Le} (h : GB B w0 w g F l) (hl : l.length ≤ 24) (b n : Nat) (hb : b + n ≤ 256) : BkW w g b l b n := by
  intro j hj
  obtain ⟨gj, hrw, _, _⟩ := (h.2.2.1 (b + j) (by omega)).rw (Nat.le_trans (und_len 0 (b + j) l) (by omega))
  exact ⟨F (b + j), gj, h.1.cell (b + j) (by omega), hrw.1⟩

section
variable {w : World} {ops : Array Oper} {o : Oper} {a : Act} {K : Act → World → Prop} {Q : Exit → Act → World → Prop}
/-- a leaf appended, and where the row lies then: as one step of a region that draws its order -/
theorem step_leafL {E : Prop} (hgd : o.guard = none) (s x : Operand)
    (ho : o.op = .call { callee := .builtin .append, args := #[s, x], argTypes := #[24, 24] })
    (B : Nat) (w0 : World) (u : Value) (l : List Le) (f : Le) (hs : a.eval s = u) (h : OL B w0 w u l) (p : Nat) (hx : a.eval x = .slice (some ⟨p, 0, none⟩) 1 1)
    (hnews : w.rangeAt p 0 (lcs f)) (hlen : l.length + 1 ≤ 1000000)
    (hk : ∀ g cap w', OL B w0 w' (.slice (some ⟨g, 0, none⟩) (l.length + 1) cap) (l ++ [f]) → w.grownBy w' u.ownBlock → (u.ownBlock = some g ∨ g = w.heap.size) → K (a.put o.dst (.slice (some ⟨g, 0, none⟩) (l.length + 1) cap)) w') : if Region.wanted o (yielded ops a.tmps) = true then Oper.wp Tryz.prog o a w K Q else E := by
  obtain ⟨i0, hi, hz0, hz1, hz2⟩ := info_parts Tryz.infoLeaf
  refine step_append_lies w hgd s x 24 ho B 121 i0 _ 2 32 Tryz.underlying24 hi hz0 hz1 hz2 rfl (by decide) u l.length (l.flatMap lcs) hs h.1 ⟨p, 0, none⟩ 1 1 (lcs f) hx rfl ?_
    (fun u hu => by simp [lcs] at hu; rcases hu with rfl | rfl <;> rfl) (by omega) (by unfold maxLen; omega) (by omega) h.2.2 w.heap.size rfl ?_
  · intro j u hj
    have := hnews j u hj
    rw [Addr.add_mid]
    exact this
  · intro g cap w' h1 h2 h3 _
    exact hk _ _ _ ⟨by rw [List.flatMap_append, List.flatMap_singleton, List.length_append]; exact h1, h.2.1.grown h2 h.2.2 (fun k hk => (h.1.lt k hk).1), Nat.le_trans h.2.2 h2.size⟩ h2 h3
end

theorem index_bk (g N : Nat) (h : (N : Int) < 256) (h0 : (0 : Int) ≤ N) (W : World) : (Instr.indexAt 286 (.pointer (some ⟨g, 0, none⟩)) (.int .i64 (N : Int))).run Tryz.prog W = .ok (.pointer (some ⟨g, N, none⟩)) W := by
  go_simp
theorem slice_bk (g b c N : Nat) (hc : c = b + N) (h : c ≤ 256) (hN : 0 < N) (W : World) : (Instr.sliceAt 286 (.pointer (some ⟨g, 0, none⟩)) (some (.int .i64 (b : Int))) (some (.int .i64 (c : Int))) none).run Tryz.prog W = .ok (.slice (some ⟨g, b, none⟩) N (256 - b)) W := by
  have e1 : Tryz.prog.arrayLen 286 = 256 := by kernel_rfl
  have e2 : Tryz.prog.elem 286 = 24 := by kernel_rfl
  have ht : Tryz.prog.underlying 286 = some (.array (Tryz.prog.arrayLen 286) (Tryz.prog.elem 286)) := by rw [e1, e2]; exact Tryz.underlying286
  have h4 : ¬ (256 : Nat) = b := by omega
  have h5 : c - b = N := by omega
  have hz : (sizeOf 24).run Tryz.prog W = .ok 1 W := by go_simp
  rw [run_sliceAt_array_lh W 286 ⟨g, 0, none⟩ ht .i64 .i64 (b : Int) (c : Int) (by omega) (by omega) (by rw [e1]; omega), e1, e2, hz]
  simp only [Result.andThen, slicedAt, Int.toNat_natCast, if_neg h4, h5, Nat.mul_one, Addr.add_mid, Nat.zero_add]
def NxR (w : World) (L : List Le) (i : Value) (wr : World) : Prop := ∃ (m : Nat) (F : Nat → Value), m ≤ L.length ∧ i = .int .i64 m ∧ Hid (GB w.heap.size w wr w.heap.size F (L.take m))

set_option maxRecDepth 100000 in
set_option maxHeartbeats 2000000 in
theorem nodeAt_any (v : Value) (ga oa : Nat) (L : List Le) (l p : Nat) (x : Int) (w : World) (hv : RS 2 lcs w v ga oa L) (hsm : SmallL L) (hL : LV.LOk L) (hl8 : l ≤ 8) (hp : p < 2 ^ l) (hT : Tb w) :
    Calls Tryz.prog 183 #[v, .int .i64 (l : Int), .int .i64 (p : Int), .int .i64 x] w fun e w' => ∃ u, e = .returned u ∧ NT x L w' (8 - l) p u ∧ Below w.heap.size w w' := by
  have HV : Hid (RS 2 lcs w v ga oa L ∧ SmallL L ∧ LV.LOk L ∧ Tb w) := ⟨hv, hsm, hL, hT⟩
  obtain ⟨a, cap, rfl, hl, hA, _⟩ := hv
  obtain ⟨n, hn⟩ : ∃ n, L.length = n := ⟨_, rfl⟩
  have HA : Hid (0 < n → a = some ⟨ga, oa, none⟩) := by rw [← hn]; exact fun h => (hA h).1
  have HN : Hid (L.length = n) := hn
  have hl24 : L.length ≤ 24 := hL.1
  rw [hn] at hl hl24 HV ⊢
  clear hA hsm hn hL hT
  have HST : Hid (NxR w L (.int .i64 0) (w.alloc (.cells zB 286))) := ⟨0, _, by omega, rfl, GB.made w⟩
  go_enter Tryz.func183, Tryz.ntmps183
  go_wp2_with (first | (refine wp_allocB rfl rfl ?_))
  go_loopw [16] (fun i wr => NxR w L i wr) (fun i _ => n - (intOf i).toNat)
  case atStart => exact HST.out
  case round =>
    obtain ⟨m, F, hm, rfl, HI⟩ := hrel
    clear HST
    rw [HN.out] at hm
    by_cases hlt : m < n
    · have ea := HA.out (by omega)
      subst ea
      have hbw := HI.out.below
      obtain ⟨c0, c1⟩ := (HV.out.1.later hbw).leaf m (by rw [HN.out]; exact hlt)
      have hxs := HV.out.2.1 (L[m]'(by rw [HN.out]; exact hlt)) (List.getElem_mem _)
      have hst : L.take (m + 1) = L.take m ++ [L[m]'(by rw [HN.out]; exact hlt)] := List.take_succ_eq_append_getElem _
      generalize L[m]'(by rw [HN.out]; exact hlt) = X at *
      have i1 : (m : Int) < (n : Int) := by omega
      have i2 : (0 : Int) ≤ (m : Int) := by omega
      have hba : Below wr.heap.size wr (wr.alloc (.cells #[.string X.n, .string X.v] 121)) := (Below.refl _ _).alloc (Nat.le_refl _) _
      have hT1 := (HV.out.2.2.2.later hbw).later hba
      have hix := IndexOf_any X.n _ hxs.1 hT1.1 hT1.2
      change Calls Tryz.prog 77 _ _ (fun e w' => e = .returned (.int .i64 (idxN X.n : Int)) ∧ Below _ _ w') at hix
      have hN256 : idxN X.n < 256 := UInt8.toNat_lt _
      have HX : Hid (idxL X = idxN X.n) := rfl
      generalize idxN X.n = N at *
      have HIa : Hid (GB w.heap.size w (wr.alloc (.cells #[.string X.n, .string X.v] 121)) w.heap.size F (L.take m)) := HI.out.later hba
      have x0 : (wr.alloc (.cells #[.string X.n, .string X.v] 121)).cell? ⟨wr.heap.size, 0, none⟩ = some (.string X.n) := by rw [World.cell?_alloc_at _ _ _ _ rfl]; rfl
      have x1 : (wr.alloc (.cells #[.string X.n, .string X.v] 121)).cell? ⟨wr.heap.size, 1, none⟩ = some (.string X.v) := by rw [World.cell?_alloc_at _ _ _ _ rfl]; rfl
      have HXX : Hid ((wr.alloc (.cells #[.string X.n, .string X.v] 121)).cell? ⟨wr.heap.size, 0, none⟩ = some (.string X.n) ∧ (wr.alloc (.cells #[.string X.n, .string X.v] 121)).cell? ⟨wr.heap.size, 1, none⟩ = some (.string X.v)) := ⟨x0, x1⟩
      clear x0 x1 HI hba hT1 hbw HA
      go_wp2_with fail
      refine hix.mono ?_
      rintro e w1 ⟨rfl, hb1⟩
      have HI1 : Hid (GB w.heap.size w w1 w.heap.size F (L.take m)) := HIa.out.later hb1
      have x0 := cell_later HXX.out.1 hb1
      have x1 := cell_later HXX.out.2 hb1
      clear HIa HXX hix hb1 c0 c1
      have hbb : Below w1.heap.size w1 (w1.alloc (.cells #[.string X.n, .string X.v] 121)).drew := ((Below.refl _ _).alloc (Nat.le_refl _) _).drew
      have HI2 : Hid (GB w.heap.size w (w1.alloc (.cells #[.string X.n, .string X.v] 121)).drew w.heap.size F (L.take m)) := HI1.out.later hbb
      have HRN : Hid ((w1.alloc (.cells #[.string X.n, .string X.v] 121)).drew.rangeAt w1.heap.size 0 (lcs X)) := range_new w1 [.string X.n, .string X.v] 121
      have d0 := HI1.out.1.cell N hN256
      have d1 : (w1.alloc (.cells #[.string X.n, .string X.v] 121)).cell? ⟨w.heap.size, N, none⟩ = some (F N) := HI2.out.1.cell N hN256
      have HLN : Hid ((TR.und idxL 0 N (L.take m)).length + 1 ≤ 1000000) := by
        show (TR.und idxL 0 N (L.take m)).length + 1 ≤ 1000000
        have h1 := und_len 0 N (L.take m)
        rw [List.length_take] at h1
        omega
      have HSV : Hid (∀ W G, GB w.heap.size w W w.heap.size G (L.take m ++ [X]) → NxR w L (.int .i64 ((m : Int) + 1)) W) := by
        rw [← hst]
        exact fun W G hG => ⟨m + 1, G, by rw [HN.out]; omega, by congr 1, hG⟩
      have hj1 : (N : Int) < 256 := by omega
      have hj0 : (0 : Int) ≤ (N : Int) := by omega
      obtain ⟨FN, hFN⟩ : ∃ FN, F N = FN := ⟨_, rfl⟩
      have HFN : Hid (F N = FN) := hFN
      rw [hFN] at d0 d1
      clear hst hFN HV
      generalize L.take m = l0 at *
      have hIX := index_bk w.heap.size N hj1 hj0
      clear hj1 hj0
      go_wp2
      go_region_law ((refine step_leafL rfl _ _ rfl w.heap.size w FN (TR.und idxL 0 N l0) X (by rfl) (by have h := HI2.out.2.2.1 N hN256; rw [HFN.out] at h; exact h) _ (by rfl) HRN.out HLN.out ?_; intro g8 cap8 w9 ho9 hg9 hl9; have hs9 := HI2.out.app1 hN256 (by rw [HFN.out]; exact hg9); have e1 := hs9.cell N hN256; have f1 := hs9.frozen N))
      all_goals
        have HN2 : Hid (NxR w L (.int .i64 ((m : Int) + 1)) (w9.setCell ⟨w.heap.size, N, none⟩ (.slice (some ⟨g8, 0, none⟩) ((TR.und idxL 0 N l0).length + 1) cap8))) := HSV.out _ _ (HI2.out.app hN256 HX.out ho9 (by rw [HFN.out]; exact hg9) (by rw [HFN.out]; exact hl9))
        clear hs9 e1 f1 ho9 hg9 hl9 HI1 HI2 HRN HSV HFN d0 d1 x0 x1 hIX
        go_wp2
        go_roundw
        case rel => exact HN2.out
        case measure => simp [intOf]; omega
    · have hme : m = n := by omega
      have e : L.take m = L := List.take_of_length_le (by rw [HN.out]; omega)
      rw [e] at HI
      subst hme
      clear e HA HN
      obtain ⟨N, hN⟩ : ∃ N, 2 ^ (8 - l) = N := ⟨_, rfl⟩
      have hNpos : 0 < N := by rw [← hN]; exact Nat.two_pow_pos _
      have h256 : 2 ^ l * N = 256 := by
        rw [← hN, ← Nat.pow_add, show l + (8 - l) = 8 by omega]
      have hq : (256 : Int) / 2 ^ l = (N : Int) := by
        have e1 : ((2 ^ l : Nat) : Int) = (2 : Int) ^ l := by simp
        have e3 : (256 : Int) = ((2 ^ l * N : Nat) : Int) := by rw [h256]; rfl
        rw [← e1, e3]
        have e2 : ((2 ^ l * N : Nat) : Int) / ((2 ^ l : Nat) : Int) = ((2 ^ l * N / 2 ^ l : Nat) : Int) := by simp
        rw [e2, Nat.mul_div_cancel_left _ (Nat.two_pow_pos l)]
      obtain ⟨b, hb⟩ : ∃ b, p * N = b := ⟨_, rfl⟩
      have hbc : b + N ≤ 256 := by
        have h1 : (p + 1) * N ≤ 2 ^ l * N := Nat.mul_le_mul_right N hp
        rw [h256, Nat.add_mul, Nat.one_mul, hb] at h1
        exact h1
      have hpl : p ≤ 256 := by
        have h1 : 2 ^ l ≤ 2 ^ 8 := Nat.pow_le_pow_right (by omega) hl8
        omega
      obtain ⟨c, hc⟩ : ∃ c, b + N = c := ⟨_, rfl⟩
      have m1 : (p : Int) * (N : Int) = (b : Int) := by rw [← hb]; simp
      have m2 : ((p : Int) + 1) * (N : Int) = (c : Int) := by rw [Int.add_mul, m1, ← hc]; simp
      have a1 : IntKind.i64.wrap ((p : Int) * (N : Int)) = (b : Int) := by rw [m1]; exact IntWalk.i64_in _ (by omega)
      have a2 : IntKind.i64.wrap ((p : Int) + 1) = (p : Int) + 1 := IntWalk.i64_in _ (by omega)
      have a3 : IntKind.i64.wrap (((p : Int) + 1) * (N : Int)) = (c : Int) := by rw [m2]; exact IntWalk.i64_in _ (by omega)
      have hSL := slice_bk w.heap.size b c N hc.symm (by omega) hNpos
      have hE : Hid (Calls Tryz.prog 272 #[.int .i64 (l : Int), .int .i64 x] wr.drew fun e w' => ∃ v, e = .returned v ∧ EmN x w' (8 - l) v ∧ Below wr.heap.size wr w') :=
        (emptyAt_any x (8 - l) (l : Int) wr.drew (by omega) (by omega) (HV.out.2.2.2.later (HI.out.below.trans (Below.refl _ _).drew))).mono fun e w' ⟨v, h1, h2, h3⟩ => ⟨v, h1, h2, (Below.refl _ _).drew.trans h3⟩
      have HG : Hid (∀ W v, Below wr.heap.size wr W → EmN x W (8 - l) v → Calls Tryz.prog 271 #[.slice (some ⟨w.heap.size, b, none⟩) N (256 - b), v, .int .i64 x] W fun e w' => ∃ u, e = .returned u ∧ NT x L w' (8 - l) p u ∧ Below w.heap.size w w') := fun W v hW hEm => by
        have hbw : Below w.heap.size w W := HI.out.below.trans (hW.mono HI.out.below.size)
        have h1 := grown_any x L HV.out.2.2.1 HV.out.2.1 (8 - l) p w.heap.size b N (256 - b) v W hN.symm (by omega) (by omega) (by rw [hb]; exact (HI.out.later hW).row HV.out.2.2.1.1 b N hbc) hEm (HV.out.2.2.2.later hbw)
        exact h1.mono fun e w' ⟨u, h2, h3, h4⟩ => ⟨u, h2, h3, hbw.trans (h4.mono hbw.size)⟩
      clear HI HV hb hc hN h256 hbc m1 m2 hp
      go_wp2_with fail
      clear hq
      go_region_held3 (fun _ => True) (exact trivial) ((first | (go_at_call 272; with_reducible refine hE.out.mono ?_; rintro e w5 ⟨v5, rfl, hEm, hb5⟩) | (go_at_call 271; with_reducible refine (HG.out _ _ hb5 hEm).mono ?_; rintro e w6 ⟨u6, rfl, hNT, hb6⟩)))
      have HF : Hid (∃ u, Ending.returned u6 = .returned u ∧ NT x L w6 (8 - l) p u ∧ Below w.heap.size w w6) := ⟨_, rfl, hNT, hb6⟩
      clear hE HG hEm hb5 hNT hb6 hSL
      go_wp2
      go_ret
      exact HF.out

end Go.Proofs.YtfojmagcoipbnaaGreatDoor
/-
  What NodeHash, RootOf and SidesOf answer: the program's.
-/
namespace Go.Proofs.YtfojmagcoipbnaaGreatDoor
open Go.RowKit Go.BigFrame Go.Sort
set_option linter.unusedVariables false
set_option linter.unusedSimpArgs false

end Go.Proofs.YtfojmagcoipbnaaGreatDoor
