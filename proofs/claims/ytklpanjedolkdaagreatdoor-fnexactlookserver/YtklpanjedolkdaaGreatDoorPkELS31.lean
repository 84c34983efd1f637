/-
  Texts laid together: Pw, Gr, Gn.
-/
import Derived.Test.YtklpanjedolkdaaGreatDoorPkELS30
/-
  Proofs: when they are right: the specification's answer.
-/
namespace Go.Proofs.YtklpanjedolkdaaGreatDoor
open Go.RowKit Go.BigFrame Go.Sort
set_option linter.unusedVariables false
set_option linter.unusedSimpArgs false

/-- is it a proof? -/
noncomputable def pfOk (nm : ByteArray) (B : List Le) (S : List ByteArray) (x : Int) : Bool := okB nameB nm && LV.leavesB B && decide (S.length ≤ 8) && wideB S x && B.all (fun f => decide (idxN f.n = idxN nm))
theorem pfOk_yes {nm : ByteArray} {B : List Le} {S : List ByteArray} {x : Int} (h1 : okB nameB nm = true) (h2 : LV.leavesB B = true) (h3 : S.length ≤ 8) (h4 : wideB S x = true) : pfOk nm B S x = B.all (fun f => decide (idxN f.n = idxN nm)) := by
  unfold pfOk
  rw [h1, h2, h4, decide_eq_true h3]
  rfl

def PkR (w : World) (B : List Le) (N : Nat) (i : Value) (wr : World) : Prop := ∃ m : Nat, m ≤ B.length ∧ i = .int .i64 m ∧ Hid (Below w.heap.size w wr ∧ ∀ j (h : j < B.length), j < m → idxN B[j].n = N)

end Go.Proofs.YtklpanjedolkdaaGreatDoor
/-
  Rows of buckets looked through; nodes and their hashes.
-/
namespace Go.Proofs.YtklpanjedolkdaaGreatDoor
open Go.RowKit Go.BigFrame Go.Sort
set_option linter.unusedVariables false
set_option linter.unusedSimpArgs false

theorem hasLeaves_any (a : Option Addr) (n c : Nat) (w : World) : Calls Tryz.prog 223 #[.slice a n c] w fun e w' => e = .returned (.bool (decide (0 < n))) ∧ w' = w := by
  go_enter Tryz.func223, Tryz.ntmps223
  go_wp2
  go_ret
  exact ⟨by simp, rfl⟩

/-- the buckets of the 2 ^ k indexes under place p, from offset o of block g on -/
def BkW (w : World) (g o : Nat) (L : List Le) (b n : Nat) : Prop := ∀ j, j < n → ∃ v gj, w.cell? ⟨g, o + j, none⟩ = some v ∧ RS 2 lcs w v gj 0 (TR.und idxL 0 (b + j) L)
theorem BkW.later {w w' : World} {g o : Nat} {L : List Le} {b n : Nat} (h : BkW w g o L b n) (hb : Below w.heap.size w w') : BkW w' g o L b n := fun j hj => by
  obtain ⟨v, gj, h1, h2⟩ := h j hj
  exact ⟨v, gj, cell_later h1 hb, h2.later hb⟩
/-- is one of the first m of them not empty? -/
def anyB (L : List Le) (b m : Nat) : Prop := ∃ j, j < m ∧ 0 < (TR.und idxL 0 (b + j) L).length

def IxfR (L : List Le) (b n : Nat) (w : World) (i : Value) (wr : World) : Prop := ∃ m : Nat, m ≤ n ∧ i = .int .i64 m ∧ wr = w ∧ ¬ anyB L b m

set_option maxRecDepth 100000 in
set_option maxHeartbeats 1000000 in
theorem IndexFunc_any (g o n c b : Nat) (L : List Le) (w : World) (hn : n ≤ 256) (hB : BkW w g o L b n) :
    Calls Tryz.prog 232 #[.slice (some ⟨g, o, none⟩) n c, .func (Fn.func 223) #[] #[]] w fun e w' => (∃ r : Int, e = .returned (.int .i64 r) ∧ (0 ≤ r ↔ anyB L b n) ∧ -1 ≤ r ∧ r ≤ 256) ∧ w' = w := by
  have HB : Hid (BkW w g o L b n) := hB
  have HST : Hid (IxfR L b n w (.int .i64 0) w) := ⟨0, by omega, rfl, rfl, fun ⟨j, h, _⟩ => by omega⟩
  clear hB
  go_enter Tryz.func232, Tryz.ntmps232
  go_wp2
  go_loopw [8] (fun i wr => IxfR L b n w i wr) (fun i _ => n - (intOf i).toNat)
  case atStart => exact HST.out
  case round =>
    obtain ⟨m, hm, rfl, rfl, hna⟩ := hrel
    clear HST
    have HNA : Hid (¬ anyB L b m) := hna
    clear hna
    by_cases hlt : m < n
    · obtain ⟨v, gj, c0, hrs⟩ := HB.out m hlt
      obtain ⟨av, cv, hv, _⟩ := hrs
      subst hv
      have i1 : (m : Int) < (n : Int) := by omega
      have i2 : (0 : Int) ≤ (m : Int) := by omega
      obtain ⟨u, hu⟩ : ∃ u, (TR.und idxL 0 (b + m) L).length = u := ⟨_, rfl⟩
      have HU : Hid ((TR.und idxL 0 (b + m) L).length = u) := hu
      rw [hu] at c0
      clear hu
      by_cases hp : 0 < u
      · have d1 : decide (0 < u) = true := by simpa using hp
        have HF : Hid (∃ r : Int, Ending.returned (.int .i64 (m : Int)) = .returned (.int .i64 r) ∧ (0 ≤ r ↔ anyB L b n) ∧ -1 ≤ r ∧ r ≤ 256) := ⟨_, rfl, ⟨fun _ => ⟨m, hlt, by rw [HU.out]; exact hp⟩, fun _ => i2⟩, by omega, by omega⟩
        go_wp2_with fail
        refine (hasLeaves_any _ _ _ _).mono ?_
        rintro e w1 ⟨rfl, rfl⟩
        rw [d1]
        go_wp2
        go_ret
        exact ⟨HF.out, rfl⟩
      · have d1 : decide (0 < u) = false := by simpa using hp
        have HN2 : Hid (¬ anyB L b (m + 1)) := fun ⟨j, h1, h2⟩ => by
          rcases Nat.lt_or_ge j m with h3 | h3
          · exact HNA.out ⟨j, h3, h2⟩
          · have : j = m := by omega
            subst this
            rw [HU.out] at h2
            exact hp h2
        clear HNA HU hp
        go_wp2_with fail
        refine (hasLeaves_any _ _ _ _).mono ?_
        rintro e w1 ⟨rfl, rfl⟩
        rw [d1]
        go_wp2
        go_roundw
        case rel => exact ⟨m + 1, by omega, by go_num, rfl, HN2.out⟩
        case measure => simp [intOf]; omega
    · have hme : m = n := by omega
      have HF : Hid (∃ r : Int, Ending.returned (.int .i64 (-1)) = .returned (.int .i64 r) ∧ (0 ≤ r ↔ anyB L b n) ∧ -1 ≤ r ∧ r ≤ 256) := ⟨_, rfl, ⟨fun h => by omega, fun h => absurd (hme ▸ h) HNA.out⟩, by omega, by omega⟩
      clear HNA HB
      go_wp2
      go_ret
      exact ⟨HF.out, rfl⟩

open Classical in
noncomputable def anyD (L : List Le) (b n : Nat) : Bool := decide (anyB L b n)
theorem anyD_iff {L : List Le} {b n : Nat} : anyD L b n = true ↔ anyB L b n := by simp [anyD]
theorem ContainsFunc_any (g o n c b : Nat) (L : List Le) (w : World) (hn : n ≤ 256) (hB : BkW w g o L b n) :
    Calls Tryz.prog 222 #[.slice (some ⟨g, o, none⟩) n c, .func (Fn.func 223) #[] #[]] w fun e w' => e = .returned (.bool (anyD L b n)) ∧ w' = w := by
  have hc := IndexFunc_any g o n c b L w hn hB
  have HA : Hid (∀ r : Int, (0 ≤ r ↔ anyB L b n) → decide (0 ≤ r) = anyD L b n) := fun r hr => by
    rw [Bool.eq_iff_iff, anyD_iff, decide_eq_true_iff]
    exact hr
  clear hB
  go_enter Tryz.func222, Tryz.ntmps222
  go_wp2_with fail
  refine hc.mono ?_
  rintro e w1 ⟨⟨r, rfl, hr, h1, h2⟩, rfl⟩
  have hd := HA.out r hr
  clear hc HA hr
  go_wp2
  go_ret
  exact ⟨rfl, rfl⟩

/-! the method hash, of each kind of node -/
theorem hashE_any (g : Nat) (t : ByteArray) (w : World) (h : w.cell? ⟨g, 1, none⟩ = some (.string t)) : Calls Tryz.prog 196 #[.pointer (some ⟨g, 0, none⟩)] w fun e w' => e = .returned (.string t) ∧ w' = w := by
  go_enter Tryz.func196, Tryz.ntmps196
  go_wp2
  go_ret
  exact ⟨rfl, rfl⟩
theorem hashK_any (g : Nat) (t : ByteArray) (w : World) (h : w.cell? ⟨g, 0, none⟩ = some (.string t)) : Calls Tryz.prog 301 #[.pointer (some ⟨g, 0, none⟩)] w fun e w' => e = .returned (.string t) ∧ w' = w := by
  go_enter Tryz.func301, Tryz.ntmps301
  go_wp2
  go_ret
  exact ⟨rfl, rfl⟩
theorem hashF_any (g : Nat) (t : ByteArray) (w : World) (h : w.cell? ⟨g, 2, none⟩ = some (.string t)) : Calls Tryz.prog 289 #[.pointer (some ⟨g, 0, none⟩)] w fun e w' => e = .returned (.string t) ∧ w' = w := by
  go_enter Tryz.func289, Tryz.ntmps289
  go_wp2
  go_ret
  exact ⟨rfl, rfl⟩
theorem invE (g : Nat) (w : World) : (invoke (.fn (.method "loop.example/g00284/impl.hash") #[]) #[.iface 232 (.pointer (some ⟨g, 0, none⟩))]).run Tryz.prog w = .ok (.enter 196 #[.pointer (some ⟨g, 0, none⟩)]) w := by kernel_rfl
theorem invK (g : Nat) (w : World) : (invoke (.fn (.method "loop.example/g00284/impl.hash") #[]) #[.iface 267 (.pointer (some ⟨g, 0, none⟩))]).run Tryz.prog w = .ok (.enter 301 #[.pointer (some ⟨g, 0, none⟩)]) w := by kernel_rfl
theorem invF (g : Nat) (w : World) : (invoke (.fn (.method "loop.example/g00284/impl.hash") #[]) #[.iface 227 (.pointer (some ⟨g, 0, none⟩))]).run Tryz.prog w = .ok (.enter 289 #[.pointer (some ⟨g, 0, none⟩)]) w := by kernel_rfl

/-- v is a node whose hash is t -/
def HsN (w : World) (v : Value) (t : ByteArray) : Prop := ∃ T g, v = .iface T (.pointer (some ⟨g, 0, none⟩)) ∧ ((T = 232 ∧ w.cell? ⟨g, 1, none⟩ = some (.string t)) ∨ (T = 267 ∧ w.cell? ⟨g, 0, none⟩ = some (.string t)) ∨ (T = 227 ∧ w.cell? ⟨g, 2, none⟩ = some (.string t)))
theorem HsN.later {w w' : World} {v : Value} {t : ByteArray} (h : HsN w v t) (hb : Below w.heap.size w w') : HsN w' v t := by
  obtain ⟨T, g, hv, h⟩ := h
  refine ⟨T, g, hv, ?_⟩
  rcases h with ⟨h1, h2⟩ | ⟨h1, h2⟩ | ⟨h1, h2⟩
  · exact .inl ⟨h1, cell_later h2 hb⟩
  · exact .inr (.inl ⟨h1, cell_later h2 hb⟩)
  · exact .inr (.inr ⟨h1, cell_later h2 hb⟩)
/-- what the call of hash comes to -/
theorem HsN.inv {w : World} {v : Value} {t : ByteArray} (h : HsN w v t) : ∃ F q, (invoke (.fn (.method "loop.example/g00284/impl.hash") #[]) #[v]).run Tryz.prog w = .ok (.enter F #[q]) w ∧ Calls Tryz.prog F #[q] w fun e w' => e = .returned (.string t) ∧ w' = w := by
  obtain ⟨T, g, rfl, h⟩ := h
  rcases h with ⟨rfl, h2⟩ | ⟨rfl, h2⟩ | ⟨rfl, h2⟩
  · exact ⟨_, _, invE g w, hashE_any g t w h2⟩
  · exact ⟨_, _, invK g w, hashK_any g t w h2⟩
  · exact ⟨_, _, invF g w, hashF_any g t w h2⟩
section
variable {w : World} {ops : Array Oper} {o : Oper} {a : Act} {K : Act → World → Prop} {Q : Exit → Act → World → Prop}
theorem oper_hash (r : Operand) (ho : o.op = .call { callee := .invoke r "loop.example/g00284/impl.hash", args := #[], argTypes := #[] })
    (v : Value) (t : ByteArray) (hv : a.eval r = v) (hN : HsN w v t) (hk : K (a.put o.dst (.string t)) w) : Oper.wp Tryz.prog o a w K Q := by
  obtain ⟨F, q, h1, h2⟩ := hN.inv
  unfold Oper.wp
  have e : (execOp a.eval o).run Tryz.prog w = .ok (.enter F #[q]) w := by
    simp [execOp, ho, resolve, hv, h1]
  rw [e, Oper.upon_enter]
  refine h2.mono ?_
  rintro e w1 ⟨rfl, rfl⟩
  exact hk
/-- hash of a node, in a plain region -/
theorem wp_hash {rest : List Oper} (hgd : o.guard = none) (r : Operand) (ho : o.op = .call { callee := .invoke r "loop.example/g00284/impl.hash", args := #[], argTypes := #[] })
    (v : Value) (t : ByteArray) (hv : a.eval r = v) (hN : HsN w v t) (h : wpList Tryz.prog ops Q rest (a.put o.dst (.string t)) w) : wpList Tryz.prog ops Q (o :: rest) a w :=
  wpList_plain hgd fun K hK => oper_hash r ho v t hv hN (hK _ _ h)
end

end Go.Proofs.YtklpanjedolkdaaGreatDoor
/-
  The tree that the program grows over its buckets.
-/
namespace Go.Proofs.YtklpanjedolkdaaGreatDoor
open Go.RowKit Go.BigFrame Go.Sort
set_option linter.unusedVariables false
set_option linter.unusedSimpArgs false

/-- v is the node of place p, k levels above the buckets -/
def NT (x : Int) (L : List Le) (w : World) : Nat → Nat → Value → Prop
  | 0, p, v => (∃ q, v = .iface 232 q ∧ EmN x w 0 q ∧ TR.und idxL 0 p L = []) ∨ ∃ g, v = .iface 267 (.pointer (some ⟨g, 0, none⟩)) ∧ w.cell? ⟨g, 0, none⟩ = some (.string (trB x 0 p L))
  | k + 1, p, v => (∃ q, v = .iface 232 q ∧ EmN x w (k + 1) q ∧ TR.und idxL (k + 1) p L = []) ∨ ∃ g a b, v = .iface 227 (.pointer (some ⟨g, 0, none⟩)) ∧ w.cell? ⟨g, 0, none⟩ = some a ∧ w.cell? ⟨g, 1, none⟩ = some b ∧ w.cell? ⟨g, 2, none⟩ = some (.string (trB x (k + 1) p L)) ∧ NT x L w k (2 * p) a ∧ NT x L w k (2 * p + 1) b
theorem NT.later {x : Int} {L : List Le} {w w' : World} (hb : Below w.heap.size w w') : ∀ {k p : Nat} {v : Value}, NT x L w k p v → NT x L w' k p v
  | 0, p, v, h => by
    rcases h with ⟨q, h1, h2, h3⟩ | ⟨g, h1, h2⟩
    · exact .inl ⟨q, h1, h2.later hb, h3⟩
    · exact .inr ⟨g, h1, cell_later h2 hb⟩
  | k + 1, p, v, h => by
    rcases h with ⟨q, h1, h2, h3⟩ | ⟨g, a, b, h1, h2, h3, h4, h5, h6⟩
    · exact .inl ⟨q, h1, h2.later hb, h3⟩
    · exact .inr ⟨g, a, b, h1, cell_later h2 hb, cell_later h3 hb, cell_later h4 hb, NT.later hb h5, NT.later hb h6⟩
theorem NT.empty {x : Int} {L : List Le} {w : World} : ∀ {k p : Nat} {q : Value}, EmN x w k q → TR.und idxL k p L = [] → NT x L w k p (.iface 232 q)
  | 0, p, q, h, h0 => .inl ⟨q, rfl, h, h0⟩
  | k + 1, p, q, h, h0 => .inl ⟨q, rfl, h, h0⟩
theorem NT.hash {x : Int} {L : List Le} {w : World} : ∀ {k p : Nat} {v : Value}, NT x L w k p v → HsN w v (trB x k p L)
  | 0, p, v, h => by
    rcases h with ⟨q, h1, h2, h3⟩ | ⟨g, h1, h2⟩
    · obtain ⟨g, rfl, hc⟩ := h2.made
      exact ⟨_, g, h1, .inl ⟨rfl, by rw [tr_emp h3]; exact hc⟩⟩
    · exact ⟨_, g, h1, .inr (.inl ⟨rfl, h2⟩)⟩
  | k + 1, p, v, h => by
    rcases h with ⟨q, h1, h2, h3⟩ | ⟨g, a, b, h1, h2, h3, h4, h5, h6⟩
    · obtain ⟨g, rfl, hc⟩ := h2.made
      exact ⟨_, g, h1, .inl ⟨rfl, by rw [tr_emp h3]; exact hc⟩⟩
    · exact ⟨_, g, h1, .inr (.inr ⟨rfl, h4⟩)⟩
/-- nothing lies under a place where nothing lies below it -/
theorem und_any (L : List Le) (k p : Nat) : anyB L (p * 2 ^ k) (2 ^ k) ↔ TR.und idxL k p L ≠ [] := by
  constructor
  · rintro ⟨j, hj, h⟩ h0
    have h1 : (p * 2 ^ k + j) / 2 ^ k = p := by
      rw [Nat.mul_comm, Nat.mul_add_div (Nat.two_pow_pos k), Nat.div_eq_of_lt hj, Nat.add_zero]
    have h2 := TR.und_down (idx := idxL) (k := 0) (j := k) (p := p) (q := p * 2 ^ k + j) (l := L) h1 (by rw [Nat.zero_add]; exact h0)
    rw [h2] at h
    simp at h
  · intro h
    obtain ⟨f, hf⟩ := List.exists_mem_of_ne_nil _ h
    unfold TR.und at hf
    have hq : idxL f / 2 ^ k = p := by simpa using (List.mem_filter.1 hf).2
    have hfL := (List.mem_filter.1 hf).1
    refine ⟨idxL f % 2 ^ k, Nat.mod_lt _ (Nat.two_pow_pos k), List.length_pos_of_mem (a := f) ?_⟩
    unfold TR.und
    rw [List.mem_filter]
    refine ⟨hfL, ?_⟩
    have : p * 2 ^ k + idxL f % 2 ^ k = idxL f := by rw [← hq, Nat.mul_comm]; exact Nat.div_add_mod _ _
    rw [this]
    simp
theorem leaves_und {L : List Le} (h : LV.LOk L) (k p : Nat) : LV.leavesB (TR.und idxL k p L) = true := by
  refine LV.leavesB_iff.2 ⟨Nat.le_trans (und_len k p L) h.1, fun f hf => h.2.1 f ?_, List.Pairwise.filter _ h.2.2⟩
  unfold TR.und at hf
  exact (List.mem_filter.1 hf).1

/-- what grown answers at this height -/
def GrC (x : Int) (L : List Le) (k : Nat) : Prop := ∀ (p g o n c : Nat) (e : Value) (w : World), n = 2 ^ k → n ≤ c → c ≤ 256 → BkW w g o L (p * n) n → EmN x w k e → Tb w →
    Calls Tryz.prog 197 #[.slice (some ⟨g, o, none⟩) n c, e, .int .i64 x] w fun e w' => ∃ v, e = .returned v ∧ NT x L w' k p v ∧ Below w.heap.size w w'

set_option maxRecDepth 100000 in
set_option maxHeartbeats 1000000 in
theorem grown_none (x : Int) (L : List Le) (k p g o n c : Nat) (e : Value) (w : World) (hn : n = 2 ^ k) (hc : n ≤ 256) (hB : BkW w g o L (p * n) n) (hE : EmN x w k e) (h0 : TR.und idxL k p L = []) :
    Calls Tryz.prog 197 #[.slice (some ⟨g, o, none⟩) n c, e, .int .i64 x] w fun e w' => ∃ v, e = .returned v ∧ NT x L w' k p v ∧ Below w.heap.size w w' := by
  have hcf := ContainsFunc_any g o n c (p * n) L w hc hB
  have ha : anyD L (p * n) n = false := by
    rw [← Bool.not_eq_true, anyD_iff, hn, und_any]
    simpa using h0
  rw [ha] at hcf
  have HN : Hid (NT x L w k p (.iface 232 e)) := NT.empty hE h0
  obtain ⟨ge, rfl, _⟩ := hE.made
  clear hB hE h0 ha hn
  go_enter Tryz.func197, Tryz.ntmps197
  go_wp2_with fail
  refine hcf.mono ?_
  rintro e w1 ⟨rfl, rfl⟩
  clear hcf
  go_wp2
  go_ret
  exact ⟨_, rfl, HN.out, Below.refl _ _⟩

set_option maxRecDepth 100000 in
set_option maxHeartbeats 1000000 in
theorem grown_zero (x : Int) (L : List Le) (hL : LV.LOk L) (hsm : SmallL L) : GrC x L 0 := by
  intro p g o n c e w hn hnc hc hB hE hT
  by_cases h0 : TR.und idxL 0 p L = []
  · exact grown_none x L 0 p g o n c e w hn (by omega) hB hE h0
  · have hcf := ContainsFunc_any g o n c (p * n) L w (by omega) hB
    have ha : anyD L (p * n) n = true := by rw [anyD_iff, hn, und_any]; exact h0
    rw [ha] at hcf
    have e1 : n = 1 := hn
    subst e1
    obtain ⟨v, gj, c0, hrs⟩ := hB 0 (by omega)
    rw [Nat.add_zero, Nat.mul_one] at hrs
    rw [Nat.add_zero] at c0
    have hbh := BucketHash_any v gj 0 _ x w hrs (und_small hsm) hT
    have HN : Hid (∀ W, Below w.heap.size w W → NT x L (W.alloc (.cells #[.string (bhB x (TR.und idxL 0 p L))] 269)) 0 p (.iface 267 (.pointer (some ⟨W.heap.size, 0, none⟩))) ∧ Below w.heap.size w (W.alloc (.cells #[.string (bhB x (TR.und idxL 0 p L))] 269))) := fun W hW => by
      refine ⟨.inr ⟨W.heap.size, rfl, ?_⟩, hW.alloc hW.size _⟩
      rw [World.cell?_alloc_at _ _ _ _ rfl]
      rfl
    obtain ⟨ge, rfl, _⟩ := hE.made
    obtain ⟨av, cv, rfl, _⟩ := hrs
    generalize bhB x (TR.und idxL 0 p L) = T at *
    clear hB hE h0 ha hn hT hsm hL
    go_enter Tryz.func197, Tryz.ntmps197
    go_wp2_with fail
    refine hcf.mono ?_
    rintro e w1 ⟨rfl, rfl⟩
    clear hcf
    go_wp2_with fail
    refine hbh.mono ?_
    rintro e w2 ⟨rfl, hb2⟩
    clear hbh
    go_wp2
    go_ret
    exact ⟨_, rfl, HN.out _ hb2⟩

set_option maxRecDepth 100000 in
set_option maxHeartbeats 2000000 in
theorem grown_fork (x : Int) (L : List Le) (k : Nat) (ih : GrC x L k) : GrC x L (k + 1) := by
  intro p g o n c e w hn hnc hc hB hE hT
  by_cases h0 : TR.und idxL (k + 1) p L = []
  · exact grown_none x L (k + 1) p g o n c e w hn (by omega) hB hE h0
  · have hcf := ContainsFunc_any g o n c (p * n) L w (by omega) hB
    have ha : anyD L (p * n) n = true := by rw [anyD_iff, hn, und_any]; exact h0
    rw [ha] at hcf
    obtain ⟨h, hh⟩ : ∃ h, 2 ^ k = h := ⟨_, rfl⟩
    have hpos : 1 ≤ h := by rw [← hh]; exact Nat.one_le_two_pow
    have hnh : n = h + h := by rw [hn, Nat.pow_succ, hh]; omega
    have HH : Hid (h = 2 ^ k) := hh.symm
    obtain ⟨ge, be, rfl, ce, c1, hbe⟩ := hE
    have HL : Hid (∀ W, Below w.heap.size w W → Calls Tryz.prog 197 #[.slice (some ⟨g, o, none⟩) h c, be, .int .i64 x] W fun e w' => ∃ v, e = .returned v ∧ NT x L w' k (2 * p) v ∧ Below W.heap.size W w') := fun W hW => by
      refine ih (2 * p) g o h c be W HH.out (by omega) hc ?_ (hbe.later hW) (hT.later hW)
      have h1 := hB.later hW
      have e1 : 2 * p * h = p * n := by rw [hnh, Nat.mul_comm 2 p, Nat.mul_assoc]; congr 1; omega
      rw [e1]
      exact fun j hj => h1 j (by omega)
    have HR : Hid (∀ W, Below w.heap.size w W → Calls Tryz.prog 197 #[.slice (some ⟨g, o + h, none⟩) (n - h) (c - h), be, .int .i64 x] W fun e w' => ∃ v, e = .returned v ∧ NT x L w' k (2 * p + 1) v ∧ Below W.heap.size W w') := fun W hW => by
      have e0 : n - h = h := by omega
      rw [e0]
      refine ih (2 * p + 1) g (o + h) h (c - h) be W HH.out (by omega) (by omega) ?_ (hbe.later hW) (hT.later hW)
      have h1 := hB.later hW
      have e1 : (2 * p + 1) * h = p * n + h := by rw [hnh, Nat.add_mul, Nat.one_mul, Nat.mul_comm 2 p, Nat.mul_assoc]; congr 2; omega
      intro j hj
      obtain ⟨v, gj, h2, h3⟩ := h1 (h + j) (by omega)
      refine ⟨v, gj, ?_, ?_⟩
      · rw [Nat.add_assoc]; exact h2
      · rw [e1, Nat.add_assoc]; exact h3
    have hge : ge < w.heap.size := lt_of_cell ce
    have HT : Hid (Tb w) := hT
    have q1 : ((n : Int) == 1) = false := by simp; omega
    have q2 : (n : Int) / 2 = (h : Int) := by omega
    have i1 : (h : Int) ≤ (c : Int) := by omega
    have i2 : (0 : Int) ≤ (h : Int) := by omega
    have i3 : (h : Int) ≤ (n : Int) := by omega
    have i4 : (n : Int) ≤ (c : Int) := by omega
    have hch : ¬ c = h := by omega
    have hn256 : n ≤ 256 := by omega
    clear hB hT ih hnh hh h0 ha hn c1 hbe HH
    go_enter Tryz.func197, Tryz.ntmps197
    go_wp2_with fail
    refine hcf.mono ?_
    rintro e w1 ⟨rfl, rfl⟩
    clear hcf
    go_wp2_with fail
    have HL1 : Hid (Calls Tryz.prog 197 #[.slice (some ⟨g, o, none⟩) h c, be, .int .i64 x] w1.drew fun e w' => ∃ v, e = .returned v ∧ NT x L w' k (2 * p) v ∧ Below w1.heap.size w1 w') := (HL.out w1.drew ((Below.refl _ _).drew)).mono fun e w' ⟨v, h1, h2, h3⟩ => ⟨v, h1, h2, (Below.refl _ _).drew.trans h3⟩
    go_region_held3 (fun W => W.cell? ⟨ge, 0, none⟩ = some be) (first | go_keep | exact (hb2.cell (p := ⟨ge, 0, none⟩) hge).trans ce) ((go_at_call 197; with_reducible refine HL1.out.mono ?_; rintro e w2 ⟨v1, rfl, hN1, hb2⟩))
    have ce2 : w2.cell? ⟨ge, 0, none⟩ = some be := (hb2.cell (p := ⟨ge, 0, none⟩) hge).trans ce
    have hge2 : ge < w2.heap.size := lt_of_cell ce2
    have HR1 : Hid (Calls Tryz.prog 197 #[.slice (some ⟨g, o + h, none⟩) (n - h) (c - h), be, .int .i64 x] w2.drew fun e w' => ∃ v, e = .returned v ∧ NT x L w' k (2 * p + 1) v ∧ Below w2.heap.size w2 w') := (HR.out w2.drew (hb2.trans (Below.refl _ _).drew)).mono fun e w' ⟨v, h1, h2, h3⟩ => ⟨v, h1, h2, (Below.refl _ _).drew.trans h3⟩
    have HN1 : Hid (NT x L w2 k (2 * p) v1) := hN1
    have HB2 : Hid (Below w1.heap.size w1 w2) := hb2
    clear HL HL1 hN1 hb2 ce hge HR
    go_wp2_with fail
    go_region_held3 (fun W => W.cell? ⟨ge, 0, none⟩ = some be) (first | go_keep | exact (hb3.cell (p := ⟨ge, 0, none⟩) hge2).trans ce2) ((go_at_call 197; with_reducible refine HR1.out.mono ?_; rintro e w3 ⟨v2, rfl, hN2, hb3⟩))
    have HN2 : Hid (NT x L w3 k (2 * p) v1 ∧ NT x L w3 k (2 * p + 1) v2 ∧ Below w1.heap.size w1 w3) := ⟨HN1.out.later hb3, hN2, HB2.out.trans (hb3.mono HB2.out.size)⟩
    have hA := HN2.out.1.hash
    have hBb := HN2.out.2.1.hash
    have HT3 : Hid (Tb w3) := HT.out.later HN2.out.2.2
    have htr : hashB 3 [trB x k (2 * p) L, trB x k (2 * p + 1) L] x = trB x (k + 1) p L := rfl
    have ht := taggedHash_w x 3 [trB x k (2 * p) L, trB x k (2 * p + 1) L] 2 #[.string (trB x k (2 * p) L), .string (trB x k (2 * p + 1) L)] w3 _ rfl rfl (by omega) rfl HT3.out
    rw [htr] at ht
    have HF : Hid (∀ W, Below w3.heap.size w3 W → NT x L (W.alloc (.cells #[v1, v2, .string (trB x (k + 1) p L)] 231)) (k + 1) p (.iface 227 (.pointer (some ⟨W.heap.size, 0, none⟩))) ∧ Below w1.heap.size w1 (W.alloc (.cells #[v1, v2, .string (trB x (k + 1) p L)] 231))) := fun W hW => by
      have hb0 : Below w1.heap.size w1 W := HN2.out.2.2.trans (hW.mono HN2.out.2.2.size)
      have hba := hW.alloc hW.size (.cells #[v1, v2, .string (trB x (k + 1) p L)] 231)
      refine ⟨.inr ⟨W.heap.size, v1, v2, rfl, ?_, ?_, ?_, HN2.out.1.later hba, HN2.out.2.1.later hba⟩, hb0.alloc hb0.size _⟩
      · rw [World.cell?_alloc_at _ _ _ _ rfl]; rfl
      · rw [World.cell?_alloc_at _ _ _ _ rfl]; rfl
      · rw [World.cell?_alloc_at _ _ _ _ rfl]; rfl
    generalize trB x (k + 1) p L = T at *
    generalize trB x k (2 * p) L = T1 at *
    generalize trB x k (2 * p + 1) L = T2 at *
    have HA : Hid (HsN w3 v1 T1) := hA
    have HBB : Hid (HsN w3 v2 T2) := hBb
    obtain ⟨Ta, pa, rfl, _⟩ := hA
    obtain ⟨Tb', pb, rfl, _⟩ := hBb
    clear HN1 HB2 HR1 hN2 hb3 HN2 HT3 htr HT ce2 hge2
    go_wp2_with (first | (refine wp_hash rfl _ rfl _ T1 rfl HA.out ?_) | (refine wp_hash rfl _ rfl _ T2 rfl HBB.out ?_))
    refine ht.out.mono ?_
    rintro e w4 ⟨rfl, hb4⟩
    clear ht HA HBB
    go_wp2_with fail
    go_ret
    exact ⟨_, rfl, HF.out _ hb4⟩

theorem grown_any (x : Int) (L : List Le) (hL : LV.LOk L) (hsm : SmallL L) : ∀ k, GrC x L k
  | 0 => grown_zero x L hL hsm
  | k + 1 => grown_fork x L k (grown_any x L hL hsm k)

end Go.Proofs.YtklpanjedolkdaaGreatDoor
