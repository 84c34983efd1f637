/-
  Rows of buckets looked through; nodes and their hashes.
-/
import Derived.Test.YtmhoilliaeefcaaDoorNh
namespace Go.Proofs.YtmhoilliaeefcaaDoor
open Go.RowKit Go.BigFrame Go.Sort
set_option linter.unusedVariables false
set_option linter.unusedSimpArgs false

theorem hasLeaves_any (a : Option Addr) (n c : Nat) (w : World) : Calls Tryd.prog 109 #[.slice a n c] w fun e w' => e = .returned (.bool (decide (0 < n))) ∧ w' = w := by
  go_enter Tryd.func109, Tryd.ntmps109
  go_wp2
  go_ret
  exact ⟨by simp, rfl⟩

/-- the buckets of the 2 ^ k indexes under place p, from offset o of block g on -/
def BkW (w : World) (g o : Nat) (L : List Le) (b n : Nat) : Prop := ∀ j, j < n → ∃ v gj, w.cell? ⟨g, o + j, none⟩ = some v ∧ RS 2 lcs w v gj 0 (TR.und idxL 0 (b + j) L)
theorem BkW.later {w w' : World} {g o : Nat} {L : List Le} {b n : Nat} (h : BkW w g o L b n) (hb : Below w.heap.size w w') : BkW w' g o L b n := fun j hj => by
  obtain ⟨v, gj, h1, h2⟩ := h j hj
  exact ⟨v, gj, cell_later h1 hb, h2.later hb⟩
/-- is one of the first m of them not empty? -/
def anyB (L : List Le) (b m : Nat) : Prop := ∃ j, j < m ∧ 0 < (TR.und idxL 0 (b + j) L).length

def IxfR (L : List Le) (b n : Nat) (w : World) (i : Value) (wr : World) : Prop := ∃ m : Nat, m ≤ n ∧ i = .int .i64 m ∧ wr = w ∧ ¬ anyB L b m

set_option maxRecDepth 100000 in
set_option maxHeartbeats 1000000 in
theorem IndexFunc_any (g o n c b : Nat) (L : List Le) (w : World) (hn : n ≤ 256) (hB : BkW w g o L b n) :
    Calls Tryd.prog 117 #[.slice (some ⟨g, o, none⟩) n c, .func (Fn.func 109) #[] #[]] w fun e w' => (∃ r : Int, e = .returned (.int .i64 r) ∧ (0 ≤ r ↔ anyB L b n) ∧ -1 ≤ r ∧ r ≤ 256) ∧ w' = w := by
  have HB : Hid (BkW w g o L b n) := hB
  have HST : Hid (IxfR L b n w (.int .i64 0) w) := ⟨0, by omega, rfl, rfl, fun ⟨j, h, _⟩ => by omega⟩
  clear hB
  go_enter Tryd.func117, Tryd.ntmps117
  go_wp2
  go_loopw [8] (fun i wr => IxfR L b n w i wr) (fun i _ => n - (intOf i).toNat)
  case atStart => exact HST.out
  case round =>
    obtain ⟨m, hm, rfl, rfl, hna⟩ := hrel
    clear HST
    have HNA : Hid (¬ anyB L b m) := hna
    clear hna
    by_cases hlt : m < n
    · obtain ⟨v, gj, c0, hrs⟩ := HB.out m hlt
      obtain ⟨av, cv, hv, _⟩ := hrs
      subst hv
      have i1 : (m : Int) < (n : Int) := by omega
      have i2 : (0 : Int) ≤ (m : Int) := by omega
      obtain ⟨u, hu⟩ : ∃ u, (TR.und idxL 0 (b + m) L).length = u := ⟨_, rfl⟩
      have HU : Hid ((TR.und idxL 0 (b + m) L).length = u) := hu
      rw [hu] at c0
      clear hu
      by_cases hp : 0 < u
      · have d1 : decide (0 < u) = true := by simpa using hp
        have HF : Hid (∃ r : Int, Ending.returned (.int .i64 (m : Int)) = .returned (.int .i64 r) ∧ (0 ≤ r ↔ anyB L b n) ∧ -1 ≤ r ∧ r ≤ 256) := ⟨_, rfl, ⟨fun _ => ⟨m, hlt, by rw [HU.out]; exact hp⟩, fun _ => i2⟩, by omega, by omega⟩
        go_wp2_with fail
        refine (hasLeaves_any _ _ _ _).mono ?_
        rintro e w1 ⟨rfl, rfl⟩
        rw [d1]
        go_wp2
        go_ret
        exact ⟨HF.out, rfl⟩
      · have d1 : decide (0 < u) = false := by simpa using hp
        have HN2 : Hid (¬ anyB L b (m + 1)) := fun ⟨j, h1, h2⟩ => by
          rcases Nat.lt_or_ge j m with h3 | h3
          · exact HNA.out ⟨j, h3, h2⟩
          · have : j = m := by omega
            subst this
            rw [HU.out] at h2
            exact hp h2
        clear HNA HU hp
        go_wp2_with fail
        refine (hasLeaves_any _ _ _ _).mono ?_
        rintro e w1 ⟨rfl, rfl⟩
        rw [d1]
        go_wp2
        go_roundw
        case rel => exact ⟨m + 1, by omega, by go_num, rfl, HN2.out⟩
        case measure => simp [intOf]; omega
    · have hme : m = n := by omega
      have HF : Hid (∃ r : Int, Ending.returned (.int .i64 (-1)) = .returned (.int .i64 r) ∧ (0 ≤ r ↔ anyB L b n) ∧ -1 ≤ r ∧ r ≤ 256) := ⟨_, rfl, ⟨fun h => by omega, fun h => absurd (hme ▸ h) HNA.out⟩, by omega, by omega⟩
      clear HNA HB
      go_wp2
      go_ret
      exact ⟨HF.out, rfl⟩

open Classical in
noncomputable def anyD (L : List Le) (b n : Nat) : Bool := decide (anyB L b n)
theorem anyD_iff {L : List Le} {b n : Nat} : anyD L b n = true ↔ anyB L b n := by simp [anyD]
theorem ContainsFunc_any (g o n c b : Nat) (L : List Le) (w : World) (hn : n ≤ 256) (hB : BkW w g o L b n) :
    Calls Tryd.prog 108 #[.slice (some ⟨g, o, none⟩) n c, .func (Fn.func 109) #[] #[]] w fun e w' => e = .returned (.bool (anyD L b n)) ∧ w' = w := by
  have hc := IndexFunc_any g o n c b L w hn hB
  have HA : Hid (∀ r : Int, (0 ≤ r ↔ anyB L b n) → decide (0 ≤ r) = anyD L b n) := fun r hr => by
    rw [Bool.eq_iff_iff, anyD_iff, decide_eq_true_iff]
    exact hr
  clear hB
  go_enter Tryd.func108, Tryd.ntmps108
  go_wp2_with fail
  refine hc.mono ?_
  rintro e w1 ⟨⟨r, rfl, hr, h1, h2⟩, rfl⟩
  have hd := HA.out r hr
  clear hc HA hr
  go_wp2
  go_ret
  exact ⟨rfl, rfl⟩

/-! the method hash, of each kind of node -/
theorem hashE_any (g : Nat) (t : ByteArray) (w : World) (h : w.cell? ⟨g, 1, none⟩ = some (.string t)) : Calls Tryd.prog 72 #[.pointer (some ⟨g, 0, none⟩)] w fun e w' => e = .returned (.string t) ∧ w' = w := by
  go_enter Tryd.func72, Tryd.ntmps72
  go_wp2
  go_ret
  exact ⟨rfl, rfl⟩
theorem hashK_any (g : Nat) (t : ByteArray) (w : World) (h : w.cell? ⟨g, 0, none⟩ = some (.string t)) : Calls Tryd.prog 137 #[.pointer (some ⟨g, 0, none⟩)] w fun e w' => e = .returned (.string t) ∧ w' = w := by
  go_enter Tryd.func137, Tryd.ntmps137
  go_wp2
  go_ret
  exact ⟨rfl, rfl⟩
theorem hashF_any (g : Nat) (t : ByteArray) (w : World) (h : w.cell? ⟨g, 2, none⟩ = some (.string t)) : Calls Tryd.prog 136 #[.pointer (some ⟨g, 0, none⟩)] w fun e w' => e = .returned (.string t) ∧ w' = w := by
  go_enter Tryd.func136, Tryd.ntmps136
  go_wp2
  go_ret
  exact ⟨rfl, rfl⟩
theorem invE (g : Nat) (w : World) : (invoke (.fn (.method "loop.example/g00284/impl.hash") #[]) #[.iface 88 (.pointer (some ⟨g, 0, none⟩))]).run Tryd.prog w = .ok (.enter 72 #[.pointer (some ⟨g, 0, none⟩)]) w := by kernel_rfl
theorem invK (g : Nat) (w : World) : (invoke (.fn (.method "loop.example/g00284/impl.hash") #[]) #[.iface 131 (.pointer (some ⟨g, 0, none⟩))]).run Tryd.prog w = .ok (.enter 137 #[.pointer (some ⟨g, 0, none⟩)]) w := by kernel_rfl
theorem invF (g : Nat) (w : World) : (invoke (.fn (.method "loop.example/g00284/impl.hash") #[]) #[.iface 115 (.pointer (some ⟨g, 0, none⟩))]).run Tryd.prog w = .ok (.enter 136 #[.pointer (some ⟨g, 0, none⟩)]) w := by kernel_rfl

/-- v is a node whose hash is t -/
def HsN (w : World) (v : Value) (t : ByteArray) : Prop := ∃ T g, v = .iface T (.pointer (some ⟨g, 0, none⟩)) ∧ ((T = 88 ∧ w.cell? ⟨g, 1, none⟩ = some (.string t)) ∨ (T = 131 ∧ w.cell? ⟨g, 0, none⟩ = some (.string t)) ∨ (T = 115 ∧ w.cell? ⟨g, 2, none⟩ = some (.string t)))
theorem HsN.later {w w' : World} {v : Value} {t : ByteArray} (h : HsN w v t) (hb : Below w.heap.size w w') : HsN w' v t := by
  obtain ⟨T, g, hv, h⟩ := h
  refine ⟨T, g, hv, ?_⟩
  rcases h with ⟨h1, h2⟩ | ⟨h1, h2⟩ | ⟨h1, h2⟩
  · exact .inl ⟨h1, cell_later h2 hb⟩
  · exact .inr (.inl ⟨h1, cell_later h2 hb⟩)
  · exact .inr (.inr ⟨h1, cell_later h2 hb⟩)
/-- what the call of hash comes to -/
theorem HsN.inv {w : World} {v : Value} {t : ByteArray} (h : HsN w v t) : ∃ F q, (invoke (.fn (.method "loop.example/g00284/impl.hash") #[]) #[v]).run Tryd.prog w = .ok (.enter F #[q]) w ∧ Calls Tryd.prog F #[q] w fun e w' => e = .returned (.string t) ∧ w' = w := by
  obtain ⟨T, g, rfl, h⟩ := h
  rcases h with ⟨rfl, h2⟩ | ⟨rfl, h2⟩ | ⟨rfl, h2⟩
  · exact ⟨_, _, invE g w, hashE_any g t w h2⟩
  · exact ⟨_, _, invK g w, hashK_any g t w h2⟩
  · exact ⟨_, _, invF g w, hashF_any g t w h2⟩
section
variable {w : World} {ops : Array Oper} {o : Oper} {a : Act} {K : Act → World → Prop} {Q : Exit → Act → World → Prop}
theorem oper_hash (r : Operand) (ho : o.op = .call { callee := .invoke r "loop.example/g00284/impl.hash", args := #[], argTypes := #[] })
    (v : Value) (t : ByteArray) (hv : a.eval r = v) (hN : HsN w v t) (hk : K (a.put o.dst (.string t)) w) : Oper.wp Tryd.prog o a w K Q := by
  obtain ⟨F, q, h1, h2⟩ := hN.inv
  unfold Oper.wp
  have e : (execOp a.eval o).run Tryd.prog w = .ok (.enter F #[q]) w := by
    simp [execOp, ho, resolve, hv, h1]
  rw [e, Oper.upon_enter]
  refine h2.mono ?_
  rintro e w1 ⟨rfl, rfl⟩
  exact hk
/-- hash of a node, in a plain region -/
theorem wp_hash {rest : List Oper} (hgd : o.guard = none) (r : Operand) (ho : o.op = .call { callee := .invoke r "loop.example/g00284/impl.hash", args := #[], argTypes := #[] })
    (v : Value) (t : ByteArray) (hv : a.eval r = v) (hN : HsN w v t) (h : wpList Tryd.prog ops Q rest (a.put o.dst (.string t)) w) : wpList Tryd.prog ops Q (o :: rest) a w :=
  wpList_plain hgd fun K hK => oper_hash r ho v t hv hN (hK _ _ h)
end

end Go.Proofs.YtmhoilliaeefcaaDoor
