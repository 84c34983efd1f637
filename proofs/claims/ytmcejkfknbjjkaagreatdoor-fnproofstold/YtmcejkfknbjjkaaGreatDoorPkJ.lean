/-
  Texts laid together: Ra, Lm, Lw, Lk, Cs, Lc, Lo, Lg, Op, La, Na, Bkd, Ll, Lit, Tbl.
-/
import Derived.Test.YtmcejkfknbjjkaaGreatDoorRshort
import Derived.Test.YtmcejkfknbjjkaaGreatDoorPkD
import Derived.Test.YtmcejkfknbjjkaaGreatDoorPkI
import Derived.Lib.QuietBelow
import Derived.Shelf.Small.Strs
import Derived.Test.YtmcejkfknbjjkaaGreatDoorProg
import Derived.BigQuiet
import Derived.Laws.Cover1
import Derived.Lib.SmallJoins
import Derived.Deep.Strs
import Derived.Deep.Slices
import Derived.ProofKit
import Derived.ChangeSame
import Derived.Deep.AppendLies
import Derived.Deep.RegionLaw
import Derived.OwnWalk
import Derived.Deep.RegionHeld3
import Derived.Test.YtmcejkfknbjjkaaGreatDoorPkG
/-
  What was read of a text stands there just as it is written.
-/
namespace Go.Proofs.YtmcejkfknbjjkaaGreatDoor
open Go.RowKit
set_option linter.unusedVariables false
namespace LV

theorem rv_past (s : List UInt8) (p : Nat) : ∀ (f i n a q : Nat), M.rv s p f i n = some (a, q) → p + i < q
  | 0, _, _, _, _, h => by simp [M.rv] at h
  | f + 1, i, n, a, q, h => by
    rw [M.rv] at h
    cases hb : s[p + i]? with
    | none => rw [hb] at h; simp at h
    | some b =>
      rw [hb] at h
      simp only at h
      split at h
      · have := rv_past s p f (i + 1) _ a q h
        omega
      · split at h
        · simp at h
        · simp at h
          omega
theorem read_past (s : List UInt8) (p n q : Nat) (h : M.readVar s p = some (n, q)) : p < q := by
  have := rv_past s p 5 0 0 n q h
  omega

/-- a piece of a list -/
def cutL (l : List UInt8) (a b : Nat) : List UInt8 := (l.drop a).take (b - a)
theorem extract_cut (s : ByteArray) (a b : Nat) : (s.extract a b).data.toList = cutL s.data.toList a b := by
  unfold cutL
  simp [ByteArray.data_extract, List.extract_eq_take_drop]
theorem cutL_join (l : List UInt8) (a b c : Nat) (h1 : a ≤ b) (h2 : b ≤ c) : cutL l a b ++ cutL l b c = cutL l a c := by
  unfold cutL
  have e : c - a = (b - a) + (c - b) := by omega
  rw [e, List.take_add, List.drop_drop]
  have e2 : a + (b - a) = b := by omega
  rw [e2]
theorem cutL_len (l : List UInt8) (a b : Nat) (h1 : a ≤ b) (h2 : b ≤ l.length) : (cutL l a b).length = b - a := by
  unfold cutL
  rw [List.length_take, List.length_drop]
  omega

/-- what was read stands there just as it is written -/
theorem rv_canon (s : ByteArray) (p : Nat) : ∀ (f k N n q : Nat), f + k = 5 → p + k ≤ s.size → (∀ b ∈ got s p k, 127 < b.toNat) → N = M.val (got s p k) → M.rv s.data.toList p f k N = some (n, q) → cutL s.data.toList p q = M.varL n
  | 0, _, _, _, _, _, _, _, _, h => by simp [M.rv] at h
  | f + 1, k, N, n, q, hf, hk, ha, hN, h => by
    rw [M.rv] at h
    cases hb : s.data.toList[p + k]? with
    | none => rw [hb] at h; simp at h
    | some b =>
      have hlt : p + k < s.size := by
        obtain ⟨h1, _⟩ := List.getElem?_eq_some_iff.1 hb
        rw [Array.length_toList] at h1
        exact h1
      have hbb : b = s[p + k] := by
        have := get_l s (p + k) hlt
        rw [hb] at this
        exact Option.some.inj this
      rw [hb] at h
      simp only at h
      have hv : M.val (got s p (k + 1)) = N + b.toNat % 128 * 128 ^ k := by
        rw [got_succ s p k hlt, val_snoc, got_len s p k (by omega), ← hN, hbb]
      split at h
      · rename_i h1
        refine rv_canon s p f (k + 1) _ n q (by omega) (by omega) ?_ hv.symm h
        rw [got_succ s p k hlt]
        intro x hx
        rcases List.mem_append.1 hx with h2 | h2
        · exact ha x h2
        · simp at h2
          subst h2
          rw [← hbb]
          omega
      · rename_i h1
        split at h
        · simp at h
        · rename_i h2
          simp only [Option.some.injEq, Prod.mk.injEq] at h
          obtain ⟨rfl, rfl⟩ := h
          have hc := M.canon 9 (got s p k ++ [s[p + k]]) (shaped_snoc _ _ ha (by rw [← hbb]; omega)) (by simp [got_len s p k (by omega)]; omega)
          rw [← got_succ s p k hlt, hv] at hc
          have h3 := hc.2 (by
            by_cases hk0 : k = 0
            · left
              rw [got_len s p (k + 1) (by omega)]
              omega
            · right
              rw [got_succ s p k hlt]
              simp only [List.getLast?_append, List.getLast?_singleton, Option.some_or, ne_eq, Option.some.injEq]
              intro h0
              apply h2
              left
              rw [hbb, h0]
              exact ⟨rfl, by omega⟩)
          have e : cutL s.data.toList p (p + k + 1) = got s p (k + 1) := by
            unfold cutL got
            have : p + k + 1 - p = k + 1 := by omega
            rw [this]
          rw [e]
          exact h3.symm
theorem read_canon {s : ByteArray} {p n q : Nat} (hp : p ≤ s.size) (h : M.readVar s.data.toList p = some (n, q)) : cutL s.data.toList p q = M.varL n :=
  rv_canon s p 5 0 0 n q rfl (by omega) (by simp [got]) (by simp [got, M.val]) h

theorem piece_len (s : ByteArray) (q n : Nat) (h : q + n ≤ s.size) : (piece s q n).size = n := by
  unfold piece
  rw [ByteArray.size_extract]
  omega
end LV
end Go.Proofs.YtmcejkfknbjjkaaGreatDoor
/-
  Leaves as plain lists: when they are right, what putting and dropping makes of them, their text and what is read of a text.
-/
namespace Go.Proofs.YtmcejkfknbjjkaaGreatDoor
set_option linter.unusedVariables false

structure Le where
  n : ByteArray
  v : ByteArray

namespace LV
open F (ltN ltN_eq ltN_irrefl ltN_trans ltN_tri ltN_ne ltN_asymm)

def leB (f : Le) : Bool := okB nameB f.n && okB valB f.v
def Srt (L : List Le) : Prop := L.Pairwise fun f g => ltN f.n g.n = true
def LOk (L : List Le) : Prop := L.length ≤ 24 ∧ (∀ f ∈ L, leB f = true) ∧ Srt L
open Classical in
noncomputable def leavesB (L : List Le) : Bool := decide (LOk L)
theorem leavesB_iff {L : List Le} : leavesB L = true ↔ LOk L := by simp [leavesB]
theorem leavesB_no {L : List Le} : leavesB L = false ↔ ¬ LOk L := by simp [leavesB]

/-- the first m leaves are right -/
def Upto (L : List Le) (m : Nat) : Prop := ∀ j (h : j < L.length), j < m → leB L[j] = true ∧ ∀ h0 : 0 < j, ltN (L[j - 1]'(by omega)).n L[j].n = true
theorem Upto.zero (L : List Le) : Upto L 0 := fun j _ h => by omega
theorem Upto.step {L : List Le} {m : Nat} (h : Upto L m) (hm : m < L.length) (h1 : leB L[m] = true) (h2 : ∀ h0 : 0 < m, ltN (L[m - 1]'(by omega)).n L[m].n = true) : Upto L (m + 1) := by
  intro j hj hlt
  rcases Nat.lt_or_ge j m with h3 | h3
  · exact h j hj h3
  · have : j = m := by omega
    subst this
    exact ⟨h1, h2⟩
theorem srt_of_adj {L : List Le} (h : ∀ j (hj : j < L.length) (h0 : 0 < j), ltN (L[j - 1]'(by omega)).n L[j].n = true) : Srt L := by
  unfold Srt
  rw [List.pairwise_iff_getElem]
  intro i j hi hj hij
  induction j with
  | zero => omega
  | succ j ih =>
    have h1 := h (j + 1) hj (by omega)
    rcases Nat.lt_or_ge i j with h2 | h2
    · exact ltN_trans (ih (by omega) h2) h1
    · have : i = j := by omega
      subst this
      exact h1
theorem Upto.ok {L : List Le} (h : Upto L L.length) (hl : L.length ≤ 24) : LOk L := by
  refine ⟨hl, fun f hf => ?_, srt_of_adj fun j hj h0 => (h j hj hj).2 h0⟩
  obtain ⟨j, hj, rfl⟩ := List.getElem_of_mem hf
  exact (h j hj hj).1
theorem LOk.srt_at {L : List Le} (h : Srt L) (i j : Nat) (hi : i < L.length) (hj : j < L.length) (hij : i < j) : ltN L[i].n L[j].n = true := by
  unfold Srt at h
  rw [List.pairwise_iff_getElem] at h
  exact h i j hi hj hij
theorem not_ok_le {L : List Le} {m : Nat} (hm : m < L.length) (h : leB L[m] = false) : ¬ LOk L := fun hd => by
  have := hd.2.1 L[m] (List.getElem_mem _)
  rw [h] at this
  cases this
theorem not_ok_adj {L : List Le} {m : Nat} (hm : m < L.length) (h0 : 0 < m) (h : ltN (L[m - 1]'(by omega)).n L[m].n = false) : ¬ LOk L := fun hd => by
  have := LOk.srt_at hd.2.2 (m - 1) m (by omega) hm (by omega)
  rw [h] at this
  cases this

/-! what is made of leaves -/
def put (L : List Le) (f : Le) : List Le := L.filter (fun g => ltN g.n f.n) ++ f :: L.filter (fun g => ltN f.n g.n)
def wout (L : List Le) (x : ByteArray) : List Le := L.filter fun g => !decide (g.n = x)
def find (L : List Le) (x : ByteArray) : Option Le := L.find? fun g => decide (g.n = x)

theorem find_some {L : List Le} {x : ByteArray} {f : Le} (h : find L x = some f) : f ∈ L ∧ f.n = x := ⟨List.mem_of_find?_eq_some h, by simpa using List.find?_some h⟩
theorem find_none {L : List Le} {x : ByteArray} (h : find L x = none) : ∀ f ∈ L, f.n ≠ x := by
  intro f hf
  have := List.find?_eq_none.1 h f hf
  simpa using this
theorem srt_inj {L : List Le} (h : Srt L) {f g : Le} (hf : f ∈ L) (hg : g ∈ L) (e : f.n = g.n) : f = g := by
  obtain ⟨i, hi, rfl⟩ := List.getElem_of_mem hf
  obtain ⟨j, hj, rfl⟩ := List.getElem_of_mem hg
  rcases Nat.lt_trichotomy i j with h1 | h1 | h1
  · exact absurd e (ltN_ne (LOk.srt_at h i j hi hj h1))
  · subst h1; rfl
  · exact absurd e.symm (ltN_ne (LOk.srt_at h j i hj hi h1))
theorem mem_put {L : List Le} {f g : Le} : g ∈ put L f ↔ g = f ∨ (g ∈ L ∧ g.n ≠ f.n) := by
  simp only [put, List.mem_append, List.mem_cons, List.mem_filter]
  constructor
  · rintro (⟨h1, h2⟩ | rfl | ⟨h1, h2⟩)
    · exact .inr ⟨h1, ltN_ne h2⟩
    · exact .inl rfl
    · exact .inr ⟨h1, (ltN_ne h2).symm⟩
  · rintro (rfl | ⟨h1, h2⟩)
    · exact .inr (.inl rfl)
    · rcases ltN_tri g.n f.n with h3 | h3 | h3
      · exact .inl ⟨h1, h3⟩
      · exact absurd h3 h2
      · exact .inr (.inr ⟨h1, h3⟩)
theorem mem_wout {L : List Le} {x : ByteArray} {g : Le} : g ∈ wout L x ↔ g ∈ L ∧ g.n ≠ x := by simp [wout]
theorem srt_wout {L : List Le} (h : Srt L) (x : ByteArray) : Srt (wout L x) := h.filter _
theorem srt_put {L : List Le} (h : Srt L) (f : Le) : Srt (put L f) := by
  unfold Srt put
  rw [List.pairwise_append]
  refine ⟨List.Pairwise.filter _ h, List.pairwise_cons.2 ⟨fun g hg => (List.mem_filter.1 hg).2, List.Pairwise.filter _ h⟩, ?_⟩
  intro a ha b hb
  have h1 := (List.mem_filter.1 ha).2
  rcases List.mem_cons.1 hb with rfl | hb
  · exact h1
  · exact ltN_trans h1 (List.mem_filter.1 hb).2
theorem len_split (L : List Le) (x : ByteArray) : (L.filter fun g => ltN g.n x).length + (L.filter fun g => ltN x g.n).length = (wout L x).length := by
  unfold wout
  induction L with
  | nil => rfl
  | cons g r ih =>
    simp only [List.filter_cons]
    rcases ltN_tri g.n x with h | h | h
    · rw [if_pos h, if_neg (by rw [ltN_asymm h]; simp), if_pos (by simpa using ltN_ne h)]
      simp only [List.length_cons]; omega
    · rw [h, if_neg (by rw [ltN_irrefl]; simp), if_neg (by rw [ltN_irrefl]; simp), if_neg (by simp)]
      exact ih
    · rw [if_neg (by rw [ltN_asymm h]; simp), if_pos h, if_pos (by simpa using (ltN_ne h).symm)]
      simp only [List.length_cons]; omega
theorem len_put (L : List Le) (f : Le) : (put L f).length = (wout L f.n).length + 1 := by
  have := len_split L f.n
  simp only [put, List.length_append, List.length_cons]
  omega
theorem wout_id {L : List Le} {x : ByteArray} (h : ∀ f ∈ L, f.n ≠ x) : wout L x = L := List.filter_eq_self.2 fun f hf => by simpa using h f hf
theorem len_wout_le (L : List Le) (x : ByteArray) : (wout L x).length ≤ L.length := List.length_filter_le _ _
theorem len_wout_lt {L : List Le} {x : ByteArray} {f : Le} (hf : f ∈ L) (hx : f.n = x) : (wout L x).length < L.length := by
  unfold wout
  refine List.length_filter_lt_length_iff_exists.2 ⟨f, hf, by simp [hx]⟩
theorem len_wout_eq : ∀ {L : List Le}, Srt L → ∀ {f : Le}, f ∈ L → (wout L f.n).length + 1 = L.length
  | [], _, f, hf => by simp at hf
  | g :: r, h, f, hf => by
    obtain ⟨h1, h2⟩ := List.pairwise_cons.1 h
    by_cases e : g.n = f.n
    · have hr : wout r f.n = r := wout_id fun x hx => by rw [← e]; exact (ltN_ne (h1 x hx)).symm
      have : wout (g :: r) f.n = wout r f.n := by unfold wout; rw [List.filter_cons, if_neg (by simp [e])]
      rw [this, hr]; rfl
    · have hfr : f ∈ r := by
        rcases List.mem_cons.1 hf with rfl | h3
        · exact absurd rfl e
        · exact h3
      have ih := len_wout_eq h2 hfr
      have : wout (g :: r) f.n = g :: wout r f.n := by unfold wout; rw [List.filter_cons, if_pos (by simp [e])]
      rw [this]
      simp only [List.length_cons]; omega
theorem srt_nodup {L : List Le} (h : Srt L) : L.Nodup := h.imp fun {a b} hab e => by subst e; rw [ltN_irrefl] at hab; cases hab
/-- two sorted lists of the same leaves are one -/
theorem srt_ext {L M : List Le} (hL : Srt L) (hM : Srt M) (h : ∀ f, f ∈ L ↔ f ∈ M) : L = M := by
  refine List.Perm.eq_of_pairwise (le := fun (f g : Le) => ltN f.n g.n = true) (fun a b _ _ h1 h2 => ?_) hL hM ((List.perm_ext_iff_of_nodup (srt_nodup hL) (srt_nodup hM)).2 h)
  rw [ltN_asymm h1] at h2
  cases h2

theorem ok_put {L : List Le} (h : Srt L) (hall : ∀ g ∈ L, leB g = true) (f : Le) (hf : leB f = true) (hl : (put L f).length ≤ 24) : LOk (put L f) := by
  refine ⟨hl, fun g hg => ?_, srt_put h f⟩
  rcases mem_put.1 hg with rfl | ⟨h1, _⟩
  · exact hf
  · exact hall g h1
theorem ok_wout {L : List Le} (h : LOk L) (x : ByteArray) : LOk (wout L x) := ⟨Nat.le_trans (len_wout_le _ _) h.1, fun g hg => h.2.1 g (mem_wout.1 hg).1, srt_wout h.2.2 x⟩
theorem len_put_in {L : List Le} (h : Srt L) {x : ByteArray} {f g : Le} (hf : find L x = some f) (hg : g.n = x) : (put L g).length = L.length := by
  obtain ⟨h1, h2⟩ := find_some hf
  rw [len_put, hg, ← h2]
  exact len_wout_eq h h1
theorem len_put_new {L : List Le} {x : ByteArray} {g : Le} (hf : find L x = none) (hg : g.n = x) : (put L g).length = L.length + 1 := by
  rw [len_put, hg, wout_id (find_none hf)]
theorem leB_of {L : List Le} {f : Le} (h : LOk (put L f)) : leB f = true := h.2.1 f (mem_put.2 (.inl rfl))

/-- may this leaf be put? -/
noncomputable def putB (L : List Le) (f : Le) : Bool := leavesB L && (leB f && ((find L f.n).isSome || decide (L.length < 24)))
/-- what is left of it -/
noncomputable def putR (L : List Le) (f : Le) : List Le := if putB L f then put L f else L
theorem putB_spec (L : List Le) (f : Le) : putB L f = (leavesB L && leavesB (put L f)) := by
  unfold putB
  cases h : leavesB L
  · rfl
  · have hok := leavesB_iff.1 h
    rw [Bool.true_and, Bool.true_and]
    by_cases hf : leB f = true
    · rw [hf, Bool.true_and]
      cases hq : find L f.n with
      | some g =>
        have hl := len_put_in hok.2.2 hq (g := f) rfl
        have := leavesB_iff.2 (ok_put hok.2.2 hok.2.1 f hf (by rw [hl]; exact hok.1))
        rw [this]
        rfl
      | none =>
        have hl := len_put_new hq (g := f) rfl
        rw [Option.isSome_none, Bool.false_or]
        by_cases hn : L.length < 24
        · rw [decide_eq_true hn, leavesB_iff.2 (ok_put hok.2.2 hok.2.1 f hf (by omega))]
        · rw [decide_eq_false hn]
          symm
          rw [leavesB_no]
          intro hd
          have := hd.1
          omega
    · have hf' : leB f = false := by simpa using hf
      rw [hf', Bool.false_and]
      symm
      rw [leavesB_no]
      intro hd
      rw [leB_of hd] at hf'
      cases hf'
theorem putB_ok {L : List Le} {f : Le} (h : putB L f = true) : LOk (put L f) := by
  rw [putB_spec, Bool.and_eq_true] at h
  exact leavesB_iff.1 h.2
noncomputable def dropB (L : List Le) (x : ByteArray) : Bool := leavesB L && (find L x).isSome
noncomputable def dropR (L : List Le) (x : ByteArray) : List Le := if dropB L x then wout L x else L
def getV (L : List Le) (x : ByteArray) : ByteArray := ((find L x).map Le.v).getD ⟨#[]⟩
def getB (L : List Le) (x : ByteArray) : Bool := (find L x).isSome

/-! their text -/
def leL (f : Le) : List UInt8 := M.varL f.n.size ++ (f.n.data.toList ++ (M.varL f.v.size ++ f.v.data.toList))
def ltL (L : List Le) : List UInt8 := L.flatMap leL
def lvL (L : List Le) : List UInt8 := M.varL L.length ++ ltL L
theorem ltL_snoc (L : List Le) (f : Le) : ltL (L ++ [f]) = ltL L ++ leL f := by simp [ltL]
theorem okB_size {p : UInt8 → Bool} {s : ByteArray} (h : okB p s = true) : 1 ≤ s.size ∧ s.size ≤ 12 := by
  unfold okB at h
  rw [Bool.and_eq_true] at h
  exact of_decide_eq_true h.1
theorem leB_sizes {f : Le} (h : leB f = true) : (1 ≤ f.n.size ∧ f.n.size ≤ 12) ∧ (1 ≤ f.v.size ∧ f.v.size ≤ 12) := by
  unfold leB at h
  rw [Bool.and_eq_true] at h
  exact ⟨okB_size h.1, okB_size h.2⟩
theorem leL_len {f : Le} (h : leB f = true) : (leL f).length ≤ 44 := by
  have h1 := leB_sizes h
  have h2 := M.varL_len f.n.size
  have h3 := M.varL_len f.v.size
  have h4 : f.n.data.toList.length = f.n.size := Array.length_toList
  have h5 : f.v.data.toList.length = f.v.size := Array.length_toList
  simp only [leL, List.length_append]
  omega
theorem ltL_len : ∀ {L : List Le}, (∀ f ∈ L, leB f = true) → (ltL L).length ≤ 44 * L.length
  | [], _ => by simp [ltL]
  | f :: r, h => by
    have h1 := leL_len (h f (by simp))
    have h2 := ltL_len (L := r) (fun g hg => h g (by simp [hg]))
    simp only [ltL, List.flatMap_cons, List.length_append, List.length_cons] at *
    omega

/-! what is read of a text -/
def shortAt (s : ByteArray) (p : Nat) : Option (ByteArray × Nat) :=
  match M.readVar s.data.toList p with
  | none => none
  | some (n, q) => if n ≤ 20000 ∧ q + n ≤ s.size then some (piece s q n, q + n) else none
def leafAt (s : ByteArray) (p : Nat) : Option (Le × Nat) :=
  match shortAt s p with
  | none => none
  | some (n, q) => match shortAt s q with
    | none => none
    | some (v, r) => some (⟨n, v⟩, r)
def leavesF (s : ByteArray) : Nat → Nat → Option (List Le × Nat)
  | 0, p => some ([], p)
  | k + 1, p => match leafAt s p with
    | none => none
    | some (f, q) => match leavesF s k q with
      | none => none
      | some (l, r) => some (f :: l, r)
theorem shortAt_some {s : ByteArray} {p q : Nat} {t : ByteArray} (hp : p ≤ s.size) (h : shortAt s p = some (t, q)) : p < q ∧ q ≤ s.size ∧ cutL s.data.toList p q = M.varL t.size ++ t.data.toList := by
  unfold shortAt at h
  cases hv : M.readVar s.data.toList p with
  | none => rw [hv] at h; simp at h
  | some x =>
    obtain ⟨n, b⟩ := x
    rw [hv] at h
    simp only at h
    split at h
    · rename_i hc
      simp only [Option.some.injEq, Prod.mk.injEq] at h
      obtain ⟨rfl, rfl⟩ := h
      have h1 := read_past _ _ _ _ hv
      refine ⟨by omega, hc.2, ?_⟩
      rw [piece_len s b n hc.2, ← read_canon hp hv]
      unfold piece
      rw [extract_cut, cutL_join _ p b (b + n) (by omega) (by omega)]
    · simp at h
theorem leafAt_some {s : ByteArray} {p q : Nat} {f : Le} (hp : p ≤ s.size) (h : leafAt s p = some (f, q)) : p < q ∧ q ≤ s.size ∧ cutL s.data.toList p q = leL f := by
  unfold leafAt at h
  cases h1 : shortAt s p with
  | none => rw [h1] at h; simp at h
  | some x =>
    obtain ⟨n, b⟩ := x
    rw [h1] at h
    simp only at h
    obtain ⟨a1, a2, a3⟩ := shortAt_some hp h1
    cases h2 : shortAt s b with
    | none => rw [h2] at h; simp at h
    | some y =>
      obtain ⟨v, r⟩ := y
      rw [h2] at h
      simp only [Option.some.injEq, Prod.mk.injEq] at h
      obtain ⟨rfl, rfl⟩ := h
      obtain ⟨b1, b2, b3⟩ := shortAt_some a2 h2
      refine ⟨by omega, b2, ?_⟩
      rw [← cutL_join _ p b r (by omega) (by omega), a3, b3]
      simp [leL]
theorem leavesF_some {s : ByteArray} : ∀ {k p q : Nat} {l : List Le}, p ≤ s.size → leavesF s k p = some (l, q) → p ≤ q ∧ q ≤ s.size ∧ l.length = k ∧ cutL s.data.toList p q = ltL l
  | 0, p, q, l, hp, h => by
    simp only [leavesF, Option.some.injEq, Prod.mk.injEq] at h
    obtain ⟨rfl, rfl⟩ := h
    exact ⟨Nat.le_refl _, hp, rfl, by simp [cutL, ltL]⟩
  | k + 1, p, q, l, hp, h => by
    rw [leavesF] at h
    cases h1 : leafAt s p with
    | none => rw [h1] at h; simp at h
    | some x =>
      obtain ⟨f, b⟩ := x
      rw [h1] at h
      simp only at h
      obtain ⟨a1, a2, a3⟩ := leafAt_some hp h1
      cases h2 : leavesF s k b with
      | none => rw [h2] at h; simp at h
      | some y =>
        obtain ⟨m, r⟩ := y
        rw [h2] at h
        simp only [Option.some.injEq, Prod.mk.injEq] at h
        obtain ⟨rfl, rfl⟩ := h
        obtain ⟨b1, b2, b3, b4⟩ := leavesF_some a2 h2
        refine ⟨by omega, b2, by simp [b3], ?_⟩
        rw [← cutL_join _ p b r (by omega) (by omega), a3, b4]
        simp [ltL]
/-- one more behind -/
theorem leavesF_snoc (s : ByteArray) : ∀ (k p : Nat), leavesF s (k + 1) p = match leavesF s k p with
    | none => none
    | some (l, q) => match leafAt s q with
      | none => none
      | some (f, r) => some (l ++ [f], r)
  | 0, p => by
    rw [leavesF]
    cases h : leafAt s p with
    | none => simp [leavesF, h]
    | some x => obtain ⟨f, q⟩ := x; simp [leavesF, h]
  | k + 1, p => by
    rw [leavesF]
    cases h : leafAt s p with
    | none => simp [leavesF, h]
    | some x =>
      obtain ⟨f, q⟩ := x
      simp only
      rw [leavesF_snoc s k q]
      rw [leavesF, h]
      simp only
      cases h2 : leavesF s k q with
      | none => simp
      | some y =>
        obtain ⟨l, r⟩ := y
        simp only
        cases h3 : leafAt s r with
        | none => simp
        | some z => obtain ⟨g, t⟩ := z; simp
/-- once a leaf fails, none more are read -/
theorem leavesF_none {s : ByteArray} {m p : Nat} (h : leavesF s m p = none) : ∀ k, m ≤ k → leavesF s k p = none := by
  intro k hk
  induction k with
  | zero =>
    have : m = 0 := by omega
    subst this
    exact h
  | succ k ih =>
    rcases Nat.lt_or_ge k m with h1 | h1
    · have : m = k + 1 := by omega
      subst this
      exact h
    · rw [leavesF_snoc, ih h1]

open Classical in
/-- the leaves that a text tells, with the place behind them -/
noncomputable def atL (s : ByteArray) (p : Nat) : Option (List Le × Nat) :=
  match M.readVar s.data.toList p with
  | none => none
  | some (n, q) => if 24 < n then none else
    match leavesF s n q with
    | none => none
    | some (l, e) => if LOk l then some (l, e) else none
noncomputable def readL (s : ByteArray) : Option (List Le) :=
  match atL s 0 with
  | none => none
  | some (l, e) => if e = s.size then some l else none

end LV
end Go.Proofs.YtmcejkfknbjjkaaGreatDoor
/-
  What the laws' own helpers do with leaves: taken over, compared, weighed.
-/
namespace Go.Proofs.YtmcejkfknbjjkaaGreatDoor
open Go.RowKit Go.BigFrame Go.Sort
set_option linter.unusedVariables false
set_option linter.unusedSimpArgs false

def lcs (f : Le) : List Value := [.string f.n, .string f.v]
theorem lcs_len (f : Le) : (lcs f).length = 2 := rfl
theorem RS.leaf {w : World} {v : Value} {g o : Nat} {l : List Le} (h : RS 2 lcs w v g o l) (j : Nat) (hj : j < l.length) :
    w.cell? ⟨g, o + j * 2, none⟩ = some (.string l[j].n) ∧ w.cell? ⟨g, o + j * 2 + 1, none⟩ = some (.string l[j].v) := by
  obtain ⟨a, c, _, _, _, hc⟩ := h
  exact ⟨hc j hj 0 _ rfl, hc j hj 1 _ rfl⟩
theorem range2 {w : World} {g o : Nat} {u1 u2 : Value} (h1 : w.cell? ⟨g, o, none⟩ = some u1) (h2 : w.cell? ⟨g, o + 1, none⟩ = some u2) : w.rangeAt g o [u1, u2] := fun j v hv => by
  match j, hv with
  | 0, hv => simp at hv; subst hv; exact h1
  | 1, hv => simp at hv; subst hv; exact h2
theorem there2 {w : World} {g o : Nat} (h : w.there g o 2) : (∃ u, w.cell? ⟨g, o, none⟩ = some u) ∧ (∃ u, w.cell? ⟨g, o + 1, none⟩ = some u) ∧ w.frozen? ⟨g, o, none⟩ = false ∧ w.frozen? ⟨g, o + 1, none⟩ = false :=
  ⟨Option.isSome_iff_exists.1 (h 0 (by omega)).1, Option.isSome_iff_exists.1 (h 1 (by omega)).1, (h 0 (by omega)).2, (h 1 (by omega)).2⟩
theorem sizeLeaf : (Tryz.prog.info? 34).map (·.size) = some 2 := by kernel_rfl

theorem Tryz.infoLeaf : (Tryz.prog.info? 34).map (fun i => (i.zero, i.size, i.bytes)) = some (some (.agg #[.string ByteArray.empty, .string ByteArray.empty]), 2, 32) := by kernel_rfl
theorem there_new2 {W : World} {cs : Array Value} {T n : Nat} (h : cs.size = n * 2) (j : Nat) (hj : j < n) : (W.alloc (.cells cs T)).there W.heap.size (j * 2) 2 := by
  intro i hi
  have hg := Go.heap_alloc_new W (.cells cs T)
  refine ⟨?_, by unfold World.frozen?; simp only [hg]; simp⟩
  rw [cell_of_row _ W.heap.size (j * 2 + i) cs T (0, 0) hg, Array.getElem?_eq_getElem (by omega)]
  rfl
theorem made_leaves (n : Nat) (h : n ≤ 1100000) (W : World) : ∃ w', (Instr.makeSlice 24 (.int .i64 (n : Int)) (.int .i64 (n : Int))).run Tryz.prog W = .ok (.slice (some ⟨W.heap.size, 0, none⟩) n n) w' ∧ (∀ j, j < n → w'.there W.heap.size (j * 2) 2) ∧ Below W.heap.size W w' ∧ w'.heap.size = W.heap.size + 1 := by
  obtain ⟨i0, hi, hz0, hz1, hz2⟩ := info_parts Tryz.infoLeaf
  have h1 := run_make (P := Tryz.prog) W 24 34 i0 _ Tryz.underlying24 hi hz0 .i64 .i64 (n : Int) (n : Int) (by omega) (by omega) (by rw [hz2]; omega) (by omega)
  refine ⟨_, by simpa using h1, fun j hj => there_new2 ?_ j hj, (Below.refl _ _).alloc (Nat.le_refl _) _, by simp⟩
  rw [size_madeCells, hz1]

/-- the first m records of a new row are written -/
def ToL (w : World) (l : List Le) (B g : Nat) (i : Value) (wr : World) : Prop := ∃ m : Nat, m ≤ l.length ∧ i = .int .i64 m ∧ (∀ j (h : j < l.length), j < m → wr.rangeAt g (j * 2) (lcs l[j])) ∧ (∀ j, j < l.length → wr.there g (j * 2) 2) ∧ Below B w wr
theorem ToL.set {w wr : World} {l : List Le} {g m B : Nat} (hm : m < l.length) (hB : B ≤ g) (h1 : ∀ j (h : j < l.length), j < m → wr.rangeAt g (j * 2) (lcs l[j])) (h2 : ∀ j, j < l.length → wr.there g (j * 2) 2) (h3 : Below B w wr) :
    (∀ j (h : j < l.length), j < m + 1 → (wr.setCells g (m * 2) (lcs l[m])).rangeAt g (j * 2) (lcs l[j])) ∧ (∀ j, j < l.length → (wr.setCells g (m * 2) (lcs l[m])).there g (j * 2) 2) ∧ Below B w (wr.setCells g (m * 2) (lcs l[m])) := by
  refine ⟨fun j hj hlt => ?_, fun j hj => World.there_setCells (h2 j hj) _ _ _, ?_⟩
  · rcases Nat.lt_or_ge j m with h4 | h4
    · exact World.rangeAt_setCells_apart (h1 j hj h4) _ _ _ (.inr (.inl (by rw [lcs_len]; omega)))
    · have : j = m := by omega
      subst this
      exact World.rangeAt_setCells_same _ _ _ _ (h2 j hj)
  · exact below_setCells hB _ _ _ h3

def ElR (n : Nat) (w : World) (i : Value) (wr : World) : Prop := ∃ m : Nat, m ≤ n ∧ i = .int .i64 m ∧ Below w.heap.size w wr

/-- a row of leaves that was handed in, great or small: if it is small, it is l -/
def IsRowL (w : World) (v : Value) (g o : Nat) (l : List Le) : Prop := ∃ a n cap, v = .slice a n cap ∧ n ≤ 9223372036854775807 ∧ (n ≤ 1100000 → l.length = n ∧ RS 2 lcs w v g o l ∧ ∀ f ∈ l, f.n.size ≤ 9223372036854775807 ∧ f.v.size ≤ 9223372036854775807)
theorem IsRowL.later {w w' : World} {v : Value} {g o : Nat} {l : List Le} (h : IsRowL w v g o l) (hb : Below w.heap.size w w') : IsRowL w' v g o l := by
  obtain ⟨a, n, cap, hv, hn, hr⟩ := h
  exact ⟨a, n, cap, hv, hn, fun hl => ⟨(hr hl).1, (hr hl).2.1.later hb, (hr hl).2.2⟩⟩
/-- no text of it is great -/
def SmallL (l : List Le) : Prop := ∀ f ∈ l, f.n.size ≤ 1048576 ∧ f.v.size ≤ 1048576

def SzL (l : List Le) (x0 : Int) (w : World) (x i : Value) (wr : World) : Prop := ∃ (m : Nat) (y : Int), m ≤ l.length ∧ i = .int .i64 m ∧ x = .int .i64 y ∧ 0 ≤ y ∧ y ≤ x0 ∧ Hid (∀ j (h : j < l.length), j < m → l[j].n.size ≤ 1048576 ∧ l[j].v.size ≤ 1048576) ∧ Below w.heap.size w wr

end Go.Proofs.YtmcejkfknbjjkaaGreatDoor
/-
  What the laws' own helpers write into a row of leaves, and find there again.
-/
namespace Go.Proofs.YtmcejkfknbjjkaaGreatDoor
open Go.RowKit Go.BigFrame Go.Sort
set_option linter.unusedVariables false
set_option linter.unusedSimpArgs false

def lmk (k0 j : Nat) : Le := ⟨markB (k0 + 2 * j), markB (k0 + 2 * j + 1)⟩
def lmarks (k0 n : Nat) : List Le := (List.range n).map (lmk k0)
theorem lmarks_len (k0 n : Nat) : (lmarks k0 n).length = n := by simp [lmarks]
theorem lmarks_at (k0 n j : Nat) (h : j < (lmarks k0 n).length) : (lmarks k0 n)[j] = lmk k0 j := by simp [lmarks]

/-- the first m leaves bear marks, and all may be written -/
def MlI (w : World) (g : Nat) (l : List Le) (k0 m : Nat) (wr : World) : Prop := (∀ j, j < m → wr.rangeAt g (j * 2) (lcs (lmk k0 j))) ∧ (∀ j, j < l.length → wr.there g (j * 2) 2) ∧ w.grownBy wr (rowF g l.length)
theorem MlI.below {w wr wr' : World} {g : Nat} {l : List Le} {k0 m : Nat} (h : MlI w g l k0 m wr) (hg : g < wr.heap.size) (hb : Below wr.heap.size wr wr') : MlI w g l k0 m wr' :=
  ⟨fun j hj => range_kept (h.1 j hj) (hb.block g hg), fun j hj => there_kept (h.2.1 j hj) (hb.block g hg), h.2.2.trans ((grown_below hb))⟩
theorem MlI.set {w wr : World} {g : Nat} {l : List Le} {k0 m : Nat} (h : MlI w g l k0 m wr) (hm : m < l.length) (o : Nat) (ho : m * 2 ≤ o) (v : Value) : MlI w g l k0 m (wr.setCell ⟨g, o, none⟩ v) :=
  ⟨fun j hj => set_range (h.1 j hj) (by rw [lcs_len]; omega) v, fun j hj => set_there o (h.2.1 j hj) v, by
    have h3 := h.2.2
    rw [rowF_some (by omega)] at h3 ⊢
    exact h3.trans (grown_set wr g o v)⟩

def MlR (w : World) (g : Nat) (l : List Le) (k0 : Nat) (x i : Value) (wr : World) : Prop := ∃ m : Nat, m ≤ l.length ∧ i = .int .i64 m ∧ x = .int .i64 (k0 + 2 * m : Nat) ∧ Hid (MlI w g l k0 m wr)

def HlR (k0 n : Nat) (w : World) (x i : Value) (wr : World) : Prop := ∃ m : Nat, m ≤ n ∧ i = .int .i64 m ∧ x = .int .i64 (k0 + 2 * m : Nat) ∧ Below w.heap.size w wr

end Go.Proofs.YtmcejkfknbjjkaaGreatDoor
/-
  The library's own contract on strings.Compare, laid at this program: a table of numbers and one theorem.
-/
namespace Go.Proofs
open Go.Shelf
def Tryz.cmpStr_ren : Go.Shelf.Ren := ⟨fun | 106 => 92 | 213 => 140 | 265 => 168 | n => n, fun | 9 => 9 | 3 => 3 | n => n, fun | n => n⟩
theorem Tryz.cmpStr : Go.Proofs.Lays.n106 Tryz.prog Tryz.cmpStr_ren := {
  mixed := by kernel_rfl
  f106 := Tryz.func92.trans (congrArg some (by kernel_rfl))
  f213 := Tryz.func140.trans (congrArg some (by kernel_rfl))
  f265 := Tryz.func168.trans (congrArg some (by kernel_rfl))
  t3 := Tryz.underlying3
  a3 := Tryz.isAgg3
  z3 := Tryz.sizeOf3
  v3 := Tryz.zeroValue3
  t9 := Tryz.underlying9
  a9 := Tryz.isAgg9
  z9 := Tryz.sizeOf9
  v9 := Tryz.zeroValue9 }
end Go.Proofs
/-
  Two names compared; one leaf looked at, and copied.
-/
namespace Go.Proofs.YtmcejkfknbjjkaaGreatDoor
open Go.RowKit Go.BigFrame Go.Sort Go.Shelf
set_option linter.unusedVariables false
set_option linter.unusedSimpArgs false

namespace LV
theorem cmp_lt : ∀ (x y : List UInt8), Lib.compareBytes x y < 0 ↔ x < y
  | [], [] => by simp [Lib.compareBytes]
  | [], b :: y => by simp [Lib.compareBytes]
  | a :: x, [] => by simp [Lib.compareBytes]
  | a :: x, b :: y => by
    rw [Lib.compareBytes, List.cons_lt_cons_iff]
    by_cases h1 : a < b
    · simp [h1]
    · by_cases h2 : b < a
      · have h3 : a ≠ b := fun e => by subst e; exact h1 h2
        simp [h1, h2, h3]
      · have h3 : a = b := by
          have : a.toNat = b.toNat := by
            rw [UInt8.lt_iff_toNat_lt] at h1 h2
            omega
          exact UInt8.toNat_inj.1 this
        subst h3
        simp [h1, cmp_lt x y]
/-- how two names compare -/
def cmpN (a b : ByteArray) : Int := Lib.compareBytes a.data.toList b.data.toList
theorem cmpN_lt (a b : ByteArray) : cmpN a b < 0 ↔ F.ltN a b = true := by
  rw [F.ltN_eq, decide_eq_true_eq, F.toList_data, F.toList_data]
  exact cmp_lt _ _
theorem cmpN_ge (a b : ByteArray) : 0 ≤ cmpN a b ↔ F.ltN a b = false := by
  have := cmpN_lt a b
  cases h : F.ltN a b
  · rw [h] at this
    constructor
    · intro _; rfl
    · intro _
      rcases Int.lt_or_le (cmpN a b) 0 with h1 | h1
      · exact absurd (this.1 h1) (by simp)
      · exact h1
  · rw [h] at this
    have := this.2 rfl
    constructor
    · intro h1; omega
    · intro h1; cases h1
end LV

theorem Compare_any (a b : ByteArray) (w : World) : Calls Tryz.prog 92 #[.string a, .string b] w fun e w' => e = .returned (.int .i64 (LV.cmpN a b)) ∧ w' = w := by
  have h := Any.strings_Compare Tryz.cmpStr a b w
  exact h

set_option maxHeartbeats 400000 in
/-- two blocks are laid: the leaves' boxes -/
theorem compareNames_grow (a b : Le) (W : World) : Calls Tryz.prog 43 #[.agg #[.string a.n, .string a.v], .agg #[.string b.n, .string b.v]] W fun e w' => e = .returned (.int .i64 (LV.cmpN a.n b.n)) ∧ ∃ q os', w' = grow (W.drewN q) os' := by
  obtain ⟨an, av⟩ := a
  obtain ⟨bn, bv⟩ := b
  have hcon := fun W' => Compare_any an bn W'
  simp only
  generalize LV.cmpN an bn = r at hcon ⊢
  go_enter Tryz.func43, Tryz.ntmps43
  go_wp2_with (go_at_call 92; refine (hcon _).mono ?_; rintro e w' ⟨rfl, rfl⟩)
  go_ret
  exact ⟨rfl, 0, _, by rw [alloc_eq_grow, alloc_eq_grow, grow_grow]; rfl⟩
theorem below_grow (W : World) (q : Nat) (os : Array Obj) : RowKit.Below W.heap.size W (grow (W.drewN q) os) := by
  have h : RowKit.Below W.heap.size W (W.drewN q) := ⟨rfl, rfl, rfl, Nat.le_refl _, fun _ _ => rfl⟩
  exact h.trans (below_regrown (W.drewN q) _ os)
theorem compareNames_any (a b : Le) (W : World) : Calls Tryz.prog 43 #[.agg #[.string a.n, .string a.v], .agg #[.string b.n, .string b.v]] W fun e w' => e = .returned (.int .i64 (LV.cmpN a.n b.n)) ∧ Below W.heap.size W w' :=
  (compareNames_grow a b W).mono fun e w' ⟨he, q, os, hw⟩ => ⟨he, hw ▸ below_grow W q os⟩

set_option maxHeartbeats 400000 in
theorem leafOk_any (f : Le) (w : World) (hn : f.n.size ≤ 1048576) (hv : f.v.size ≤ 1048576) : Calls Tryz.prog 93 #[.agg #[.string f.n, .string f.v]] w fun e w' => e = .returned (.bool (LV.leB f)) ∧ Below w.heap.size w w' := by
  obtain ⟨x, t⟩ := f
  have HB : Hid (Below w.heap.size w (w.alloc (.cells #[.string x, .string t] 34))) := (Below.refl _ _).alloc (Nat.le_refl _) _
  obtain ⟨b, hb⟩ : ∃ b, okB nameB x = b := ⟨_, rfl⟩
  obtain ⟨b2, hb2⟩ : ∃ b2, okB valB t = b2 := ⟨_, rfl⟩
  have HN : Hid (∀ W, Calls Tryz.prog 66 #[.string x] W fun e w' => e = .returned (.bool b) ∧ w' = W) := fun W => hb ▸ NameOk_any x W hn
  have HV : Hid (∀ W, Calls Tryz.prog 141 #[.string t] W fun e w' => e = .returned (.bool b2) ∧ w' = W) := fun W => hb2 ▸ ValueOk_any t W hv
  have HF : Hid (LV.leB ⟨x, t⟩ = (b && b2)) := by rw [← hb, ← hb2]; rfl
  rw [HF.out]
  clear HF hb hb2 hn hv
  go_enter Tryz.func93, Tryz.ntmps93
  go_wp2_with fail
  refine (HN.out _).mono ?_
  rintro e w1 ⟨rfl, rfl⟩
  clear HN
  cases b
  · go_wp2
    go_ret
    exact ⟨rfl, HB.out⟩
  · go_wp2_with fail
    refine (HV.out _).mono ?_
    rintro e w1 ⟨rfl, rfl⟩
    go_wp2
    go_ret
    exact ⟨rfl, HB.out⟩

end Go.Proofs.YtmcejkfknbjjkaaGreatDoor
/-
  When leaves are right: the program's and the specification's answers.
-/
namespace Go.Proofs.YtmcejkfknbjjkaaGreatDoor
open Go.RowKit Go.BigFrame Go.Sort
set_option linter.unusedVariables false
set_option linter.unusedSimpArgs false

def LoR (L : List Le) (w : World) (i : Value) (wr : World) : Prop := ∃ m : Nat, m ≤ L.length ∧ i = .int .i64 m ∧ Hid (LV.Upto L m) ∧ Below w.heap.size w wr

set_option maxRecDepth 100000 in
set_option maxHeartbeats 1000000 in
theorem LeavesOk_any (v : Value) (ga oa : Nat) (L : List Le) (w : World) (hv : RS 2 lcs w v ga oa L) (hsm : SmallL L) :
    Calls Tryz.prog 44 #[v] w fun e w' => e = .returned (.bool (LV.leavesB L)) ∧ Below w.heap.size w w' := by
  obtain ⟨R, hR⟩ : ∃ R, LV.leavesB L = R := ⟨_, rfl⟩
  have HVV : Hid (RS 2 lcs w v ga oa L) := hv
  obtain ⟨a, cap, rfl, hl, hA, hc⟩ := hv
  obtain ⟨n, hn⟩ : ∃ n, L.length = n := ⟨_, rfl⟩
  have HA : Hid (0 < n → a = some ⟨ga, oa, none⟩) := by rw [← hn]; exact fun h => (hA h).1
  have HSM : Hid (SmallL L) := hsm
  have HR : Hid (LV.leavesB L = R) := hR
  have HST : Hid (LoR L w (.int .i64 0) w) := ⟨0, by omega, rfl, LV.Upto.zero L, Below.refl _ _⟩
  rw [hR]
  rw [hn] at hl ⊢
  clear hc hA hR hsm
  by_cases h24 : 24 < n
  · have q : (24 : Int) < (n : Int) := by omega
    have hF : R = false := by rw [← HR.out, LV.leavesB_no]; exact fun h => by have := h.1; omega
    subst hF
    go_enter Tryz.func44, Tryz.ntmps44
    go_wp2
    go_ret
    exact ⟨rfl, Below.refl _ _⟩
  have q : ¬ (24 : Int) < (n : Int) := by omega
  go_enter Tryz.func44, Tryz.ntmps44
  go_wp2
  go_loopw [10] (fun i wr => LoR L w i wr) (fun i _ => n - (intOf i).toNat)
  case atStart => exact HST.out
  case round =>
    obtain ⟨m, hm, rfl, HU, hbel⟩ := hrel
    rw [hn] at hm
    clear HST
    by_cases hlt : m < n
    · have ea := HA.out (by omega)
      subst ea
      have hrs := HVV.out.later hbel
      obtain ⟨c0, c1⟩ := hrs.leaf m (by omega)
      have i1 : (m : Int) < (n : Int) := by omega
      have i2 : (0 : Int) ≤ (m : Int) := by omega
      have hgs : ga < wr.heap.size := lt_of_cell c0
      obtain ⟨X, hX⟩ : ∃ X, L[m]'(by omega) = X := ⟨_, rfl⟩
      rw [hX] at c0 c1
      have hxs := HSM.out X (by rw [← hX]; exact List.getElem_mem _)
      obtain ⟨b, hb⟩ : ∃ b, LV.leB X = b := ⟨_, rfl⟩
      have HOK : Hid (∀ W, Calls Tryz.prog 93 #[.agg #[.string X.n, .string X.v]] W fun e w' => e = .returned (.bool b) ∧ Below W.heap.size W w') := fun W => hb ▸ leafOk_any X W hxs.1 hxs.2
      have HX : Hid (L[m]'(by omega) = X ∧ LV.leB X = b) := ⟨hX, hb⟩
      have HBW : Hid (Below w.heap.size w (wr.alloc (.cells #[.string X.n, .string X.v] 34))) := hbel.alloc hbel.size _
      have HBS : w.heap.size ≤ (wr.alloc (.cells #[.string X.n, .string X.v] 34)).heap.size := HBW.out.size
      clear hX hb hbel hxs
      have z0 : (wr.alloc (.cells #[.string X.n, .string X.v] 34)).cell? ⟨wr.heap.size, 0, none⟩ = some (.string X.n) := by simp
      have z1 : (wr.alloc (.cells #[.string X.n, .string X.v] 34)).cell? ⟨wr.heap.size, 1, none⟩ = some (.string X.v) := by simp
      cases b
      · have hF : R = false := by rw [← HR.out, LV.leavesB_no]; exact LV.not_ok_le (m := m) (by omega) (by rw [HX.out.1]; exact HX.out.2)
        subst hF
        clear hrs HVV HX HU HA HR HSM
        go_wp2
        have kq0 := cell_regrown (w := (wr.alloc (.cells #[.string X.n, .string X.v] 34))) z0
        have kq1 := cell_regrown (w := (wr.alloc (.cells #[.string X.n, .string X.v] 34))) z1
        have cq0 := fun d os => Calls.regrown_of (w := (wr.alloc (.cells #[.string X.n, .string X.v] 34))) (d := d) (os := os) (HOK.out _)
        refine wp_region_quiet_below (by kernel_rfl) (by kernel_rfl) ?_
        repeat (go_big_quiet_step (first | exact cq0 _ _))
        refine wpQuiet_nil ?_
        rintro _ ⟨⟨dq, osq⟩, rfl⟩
        have hb6 := below_regrown ((wr.alloc (.cells #[.string X.n, .string X.v] 34))) dq osq
        generalize grow (redrawn ((wr.alloc (.cells #[.string X.n, .string X.v] 34))) dq) osq = w6 at *
        clear kq0 kq1 cq0
        have hb7 := HBW.out.trans (hb6.mono HBS)
        go_wp2
        try rw [Exit.noGoto_ret]
        go_ret
        exact ⟨rfl, hb7⟩
      · by_cases h0 : m = 0
        · have HU2 : Hid (LV.Upto L (m + 1)) := HU.out.step (by omega) (by rw [HX.out.1]; exact HX.out.2) (fun h => by omega)
          have q0 : ¬ (0 : Int) < (m : Int) := by omega
          have q0' : decide (0 < m) = false := decide_eq_false (by omega)
          clear hrs HVV HX HU HA HR h0 HSM
          go_wp2
          have kq0 := cell_regrown (w := (wr.alloc (.cells #[.string X.n, .string X.v] 34))) z0
          have kq1 := cell_regrown (w := (wr.alloc (.cells #[.string X.n, .string X.v] 34))) z1
          have cq0 := fun d os => Calls.regrown_of (w := (wr.alloc (.cells #[.string X.n, .string X.v] 34))) (d := d) (os := os) (HOK.out _)
          refine wp_region_quiet_below (by kernel_rfl) (by kernel_rfl) ?_
          repeat (go_big_quiet_step (first | exact cq0 _ _))
          refine wpQuiet_nil ?_
          rintro _ ⟨⟨dq, osq⟩, rfl⟩
          have hb6 := below_regrown ((wr.alloc (.cells #[.string X.n, .string X.v] 34))) dq osq
          generalize grow (redrawn ((wr.alloc (.cells #[.string X.n, .string X.v] 34))) dq) osq = w6 at *
          clear kq0 kq1 cq0
          have hb7 := HBW.out.trans (hb6.mono HBS)
          go_wp2
          go_roundw
          case rel => exact ⟨m + 1, by omega, by go_num, HU2, hb7⟩
          case measure => simp [intOf]; omega
        · obtain ⟨p, rfl⟩ : ∃ p, m = p + 1 := ⟨m - 1, by omega⟩
          obtain ⟨e0, e1⟩ := hrs.leaf p (by omega)
          obtain ⟨Y, hY⟩ : ∃ Y, (L[p]'(by omega)) = Y := ⟨_, rfl⟩
          rw [hY] at e0 e1
          have HY : Hid ((L[p]'(by omega)) = Y) := hY
          clear hY
          have z4 : (wr.alloc (.cells #[.string X.n, .string X.v] 34)).cell? ⟨ga, oa + p * 2, none⟩ = some (.string Y.n) := (cell_kept (Below.heap_alloc _ _ ga hgs)).trans e0
          have z5 : (wr.alloc (.cells #[.string X.n, .string X.v] 34)).cell? ⟨ga, oa + p * 2 + 1, none⟩ = some (.string Y.v) := (cell_kept (Below.heap_alloc _ _ ga hgs)).trans e1
          have q0 : (0 : Int) < ((p + 1 : Nat) : Int) := by omega
          have q0' : decide ((0 : Int) < ((p + 1 : Nat) : Int)) = true := decide_eq_true q0
          have q0'' : decide ((0 : Int) < (p : Int) + 1) = true := decide_eq_true (by omega)
          have j1' : IntKind.i64.wrap (p : Int) = (p : Int) := IntWalk.i64_in _ (by omega)
          have j2 : (0 : Int) ≤ (p : Int) := by omega
          have j3 : (p : Int) < (n : Int) := by omega
          obtain ⟨C, hC⟩ : ∃ C, LV.cmpN Y.n X.n = C := ⟨_, rfl⟩
          have HCM : Hid (∀ W, Calls Tryz.prog 43 #[.agg #[.string Y.n, .string Y.v], .agg #[.string X.n, .string X.v]] W fun e w' => e = .returned (.int .i64 C) ∧ Below W.heap.size W w') := fun W => hC ▸ compareNames_any Y X W
          have hge := LV.cmpN_ge Y.n X.n
          rw [hC] at hge
          clear hC
          cases hlt2 : F.ltN Y.n X.n
          · have hF : R = false := by rw [← HR.out, LV.leavesB_no]; exact LV.not_ok_adj (m := p + 1) (by omega) (by omega) (by rw [HX.out.1]; show F.ltN (L[p]'(by omega)).n X.n = false; rw [HY.out]; exact hlt2)
            subst hF
            have q4 : 0 ≤ C := hge.2 hlt2
            have q5 : decide (0 ≤ C) = true := decide_eq_true q4
            clear hrs HVV HX HU HA HR hge hlt2 HSM
            go_wp2
            have kq0 := cell_regrown (w := (wr.alloc (.cells #[.string X.n, .string X.v] 34))) z0
            have kq1 := cell_regrown (w := (wr.alloc (.cells #[.string X.n, .string X.v] 34))) z1
            have kq2 := cell_regrown (w := (wr.alloc (.cells #[.string X.n, .string X.v] 34))) z4
            have kq3 := cell_regrown (w := (wr.alloc (.cells #[.string X.n, .string X.v] 34))) z5
            have cq0 := fun d os => Calls.regrown_of (w := (wr.alloc (.cells #[.string X.n, .string X.v] 34))) (d := d) (os := os) (HOK.out _)
            have cq1 := fun d os => Calls.regrown_of (w := (wr.alloc (.cells #[.string X.n, .string X.v] 34))) (d := d) (os := os) (HCM.out _)
            refine wp_region_quiet_below (by kernel_rfl) (by kernel_rfl) ?_
            repeat (go_big_quiet_step (first | exact cq0 _ _ | exact cq1 _ _))
            refine wpQuiet_nil ?_
            rintro _ ⟨⟨dq, osq⟩, rfl⟩
            have hb6 := below_regrown ((wr.alloc (.cells #[.string X.n, .string X.v] 34))) dq osq
            generalize grow (redrawn ((wr.alloc (.cells #[.string X.n, .string X.v] 34))) dq) osq = w6 at *
            clear kq0 kq1 kq2 kq3 cq0 cq1
            have hb7 := HBW.out.trans (hb6.mono HBS)
            go_wp2
            try rw [Exit.noGoto_ret]
            go_ret
            exact ⟨rfl, hb7⟩
          · have HU2 : Hid (LV.Upto L (p + 1 + 1)) := HU.out.step (by omega) (by rw [HX.out.1]; exact HX.out.2) (fun h => by rw [HX.out.1]; show F.ltN (L[p]'(by omega)).n X.n = true; rw [HY.out]; exact hlt2)
            have q4 : ¬ 0 ≤ C := fun h => by rw [hge.1 h] at hlt2; cases hlt2
            have q5 : decide (0 ≤ C) = false := decide_eq_false q4
            clear hrs HVV HX HU HA HR hge hlt2 HSM
            go_wp2
            have kq0 := cell_regrown (w := (wr.alloc (.cells #[.string X.n, .string X.v] 34))) z0
            have kq1 := cell_regrown (w := (wr.alloc (.cells #[.string X.n, .string X.v] 34))) z1
            have kq2 := cell_regrown (w := (wr.alloc (.cells #[.string X.n, .string X.v] 34))) z4
            have kq3 := cell_regrown (w := (wr.alloc (.cells #[.string X.n, .string X.v] 34))) z5
            have cq0 := fun d os => Calls.regrown_of (w := (wr.alloc (.cells #[.string X.n, .string X.v] 34))) (d := d) (os := os) (HOK.out _)
            have cq1 := fun d os => Calls.regrown_of (w := (wr.alloc (.cells #[.string X.n, .string X.v] 34))) (d := d) (os := os) (HCM.out _)
            refine wp_region_quiet_below (by kernel_rfl) (by kernel_rfl) ?_
            repeat (go_big_quiet_step (first | exact cq0 _ _ | exact cq1 _ _))
            refine wpQuiet_nil ?_
            rintro _ ⟨⟨dq, osq⟩, rfl⟩
            have hb6 := below_regrown ((wr.alloc (.cells #[.string X.n, .string X.v] 34))) dq osq
            generalize grow (redrawn ((wr.alloc (.cells #[.string X.n, .string X.v] 34))) dq) osq = w6 at *
            clear kq0 kq1 kq2 kq3 cq0 cq1
            have hb7 := HBW.out.trans (hb6.mono HBS)
            go_wp2
            go_roundw
            case rel => exact ⟨p + 1 + 1, by omega, by go_num, HU2, hb7⟩
            case measure => simp [intOf]; omega
    · have hme : m = n := by omega
      have hF : R = true := by rw [← HR.out, LV.leavesB_iff]; exact LV.Upto.ok (by rw [hn, ← hme]; exact HU.out) (by omega)
      subst hF
      subst hme
      clear HU HR HVV HA HSM
      go_wp2
      go_ret
      exact ⟨rfl, hbel⟩

set_option maxRecDepth 100000 in
set_option maxHeartbeats 1000000 in
theorem sLeavesOk_any (v : Value) (ga oa : Nat) (L : List Le) (w : World) (hv : RS 2 lcs w v ga oa L) (hsm : SmallL L) :
    Calls Tryz.prog 70 #[v] w fun e w' => e = .returned (.bool (LV.leavesB L)) ∧ Below w.heap.size w w' := by
  obtain ⟨R, hR⟩ : ∃ R, LV.leavesB L = R := ⟨_, rfl⟩
  have HVV : Hid (RS 2 lcs w v ga oa L) := hv
  obtain ⟨a, cap, rfl, hl, hA, hc⟩ := hv
  obtain ⟨n, hn⟩ : ∃ n, L.length = n := ⟨_, rfl⟩
  have HA : Hid (0 < n → a = some ⟨ga, oa, none⟩) := by rw [← hn]; exact fun h => (hA h).1
  have HSM : Hid (SmallL L) := hsm
  have HR : Hid (LV.leavesB L = R) := hR
  have HST : Hid (LoR L w (.int .i64 0) w) := ⟨0, by omega, rfl, LV.Upto.zero L, Below.refl _ _⟩
  rw [hR]
  rw [hn] at hl ⊢
  clear hc hA hR hsm
  go_enter Tryz.func70, Tryz.ntmps70
  go_wp2
  go_loopw [3] (fun i wr => LoR L w i wr) (fun i _ => n - (intOf i).toNat)
  case atStart => exact HST.out
  case round =>
    obtain ⟨m, hm, rfl, HU, hbel⟩ := hrel
    rw [hn] at hm
    clear HST
    by_cases hlt : m < n
    · have ea := HA.out (by omega)
      subst ea
      have hrs := HVV.out.later hbel
      obtain ⟨c0, c1⟩ := hrs.leaf m (by omega)
      have i1 : (m : Int) < (n : Int) := by omega
      have i2 : (0 : Int) ≤ (m : Int) := by omega
      obtain ⟨X, hX⟩ : ∃ X, L[m]'(by omega) = X := ⟨_, rfl⟩
      rw [hX] at c0 c1
      have hxs := HSM.out X (by rw [← hX]; exact List.getElem_mem _)
      obtain ⟨b, hb⟩ : ∃ b, okB nameB X.n = b := ⟨_, rfl⟩
      obtain ⟨b2, hb2⟩ : ∃ b2, okB valB X.v = b2 := ⟨_, rfl⟩
      have HNM : Hid (∀ W, Calls Tryz.prog 69 #[.string X.n] W fun e w' => e = .returned (.bool b) ∧ Below W.heap.size W w') := fun W => hb ▸ (sNameOk_any X.n W hxs.1).mono fun e w' ⟨he, hw⟩ => ⟨he, hw ▸ Below.refl _ _⟩
      have HVL : Hid (∀ W, Calls Tryz.prog 120 #[.string X.v] W fun e w' => e = .returned (.bool b2) ∧ Below W.heap.size W w') := fun W => hb2 ▸ (sValueOk_any X.v W hxs.2).mono fun e w' ⟨he, hw⟩ => ⟨he, hw ▸ Below.refl _ _⟩
      have HX : Hid (L[m]'(by omega) = X ∧ LV.leB X = (b && b2)) := ⟨hX, by rw [← hb, ← hb2]; rfl⟩
      clear hX hb hb2 hxs
      have HBW : Hid (Below w.heap.size w wr) := hbel
      have HBS : w.heap.size ≤ wr.heap.size := hbel.size
      clear hbel
      cases hfl : LV.leB X
      · have hF : R = false := by rw [← HR.out, LV.leavesB_no]; exact LV.not_ok_le (m := m) (by omega) (by rw [HX.out.1]; exact hfl)
        subst hF
        rw [HX.out.2] at hfl
        clear hrs HVV HX HU HA HR HSM
        cases b
        · clear hfl
          go_wp2
          have kq0 := cell_regrown (w := wr) c0
          have kq1 := cell_regrown (w := wr) c1
          have cq0 := fun d os => Calls.regrown_of (w := wr) (d := d) (os := os) (HNM.out _)
          have cq1 := fun d os => Calls.regrown_of (w := wr) (d := d) (os := os) (HVL.out _)
          refine wp_region_quiet_below (by kernel_rfl) (by kernel_rfl) ?_
          repeat (go_big_quiet_step (first | exact cq0 _ _ | exact cq1 _ _))
          refine wpQuiet_nil ?_
          rintro _ ⟨⟨dq, osq⟩, rfl⟩
          have hb6 := below_regrown (wr) dq osq
          generalize grow (redrawn (wr) dq) osq = w6 at *
          clear kq0 kq1 cq0 cq1
          have hb7 := HBW.out.trans (hb6.mono HBS)
          go_wp2
          try rw [Exit.noGoto_ret]
          go_ret
          exact ⟨rfl, hb7⟩
        · obtain rfl : b2 = false := by simpa using hfl
          clear hfl
          go_wp2
          have kq0 := cell_regrown (w := wr) c0
          have kq1 := cell_regrown (w := wr) c1
          have cq0 := fun d os => Calls.regrown_of (w := wr) (d := d) (os := os) (HNM.out _)
          have cq1 := fun d os => Calls.regrown_of (w := wr) (d := d) (os := os) (HVL.out _)
          refine wp_region_quiet_below (by kernel_rfl) (by kernel_rfl) ?_
          repeat (go_big_quiet_step (first | exact cq0 _ _ | exact cq1 _ _))
          refine wpQuiet_nil ?_
          rintro _ ⟨⟨dq, osq⟩, rfl⟩
          have hb6 := below_regrown (wr) dq osq
          generalize grow (redrawn (wr) dq) osq = w6 at *
          clear kq0 kq1 cq0 cq1
          have hb7 := HBW.out.trans (hb6.mono HBS)
          go_wp2
          try rw [Exit.noGoto_ret]
          go_ret
          exact ⟨rfl, hb7⟩
      · have hfl2 := hfl
        rw [HX.out.2, Bool.and_eq_true] at hfl2
        obtain ⟨rfl, rfl⟩ := hfl2
        by_cases h0 : m = 0
        · have HU2 : Hid (LV.Upto L (m + 1)) := HU.out.step (by omega) (by rw [HX.out.1]; exact hfl) (fun h => by omega)
          have q0 : ¬ (0 : Int) < (m : Int) := by omega
          have q0' : decide (0 < m) = false := decide_eq_false (by omega)
          clear hrs HVV HX HU HA HR h0 HSM hfl
          go_wp2
          have kq0 := cell_regrown (w := wr) c0
          have kq1 := cell_regrown (w := wr) c1
          have cq0 := fun d os => Calls.regrown_of (w := wr) (d := d) (os := os) (HNM.out _)
          have cq1 := fun d os => Calls.regrown_of (w := wr) (d := d) (os := os) (HVL.out _)
          refine wp_region_quiet_below (by kernel_rfl) (by kernel_rfl) ?_
          repeat (go_big_quiet_step (first | exact cq0 _ _ | exact cq1 _ _))
          refine wpQuiet_nil ?_
          rintro _ ⟨⟨dq, osq⟩, rfl⟩
          have hb6 := below_regrown (wr) dq osq
          generalize grow (redrawn (wr) dq) osq = w6 at *
          clear kq0 kq1 cq0 cq1
          have hb7 := HBW.out.trans (hb6.mono HBS)
          go_wp2
          go_roundw
          case rel => exact ⟨m + 1, by omega, by go_num, HU2, hb7⟩
          case measure => simp [intOf]; omega
        · obtain ⟨p, rfl⟩ : ∃ p, m = p + 1 := ⟨m - 1, by omega⟩
          obtain ⟨e0, _⟩ := hrs.leaf p (by omega)
          obtain ⟨Y, hY⟩ : ∃ Y, (L[p]'(by omega)).n = Y := ⟨_, rfl⟩
          rw [hY] at e0
          have HY : Hid ((L[p]'(by omega)).n = Y) := hY
          clear hY
          have q0 : (0 : Int) < ((p + 1 : Nat) : Int) := by omega
          have q0' : decide ((0 : Int) < ((p + 1 : Nat) : Int)) = true := decide_eq_true q0
          have q0'' : decide ((0 : Int) < (p : Int) + 1) = true := decide_eq_true (by omega)
          have j1' : IntKind.i64.wrap (p : Int) = (p : Int) := IntWalk.i64_in _ (by omega)
          have j2 : (0 : Int) ≤ (p : Int) := by omega
          have j3 : (p : Int) < (n : Int) := by omega
          cases hlt2 : F.ltN Y X.n
          · have hF : R = false := by rw [← HR.out, LV.leavesB_no]; exact LV.not_ok_adj (m := p + 1) (by omega) (by omega) (by rw [HX.out.1]; show F.ltN (L[p]'(by omega)).n X.n = false; rw [HY.out]; exact hlt2)
            subst hF
            have q4 : Op.bytesLess Y.toList X.n.toList = false := hlt2
            clear hrs HVV HX HU HA HR HSM hfl
            go_wp2
            have kq0 := cell_regrown (w := wr) c0
            have kq1 := cell_regrown (w := wr) c1
            have kq2 := cell_regrown (w := wr) e0
            have cq0 := fun d os => Calls.regrown_of (w := wr) (d := d) (os := os) (HNM.out _)
            have cq1 := fun d os => Calls.regrown_of (w := wr) (d := d) (os := os) (HVL.out _)
            refine wp_region_quiet_below (by kernel_rfl) (by kernel_rfl) ?_
            repeat (go_big_quiet_step (first | exact cq0 _ _ | exact cq1 _ _))
            refine wpQuiet_nil ?_
            rintro _ ⟨⟨dq, osq⟩, rfl⟩
            have hb6 := below_regrown (wr) dq osq
            generalize grow (redrawn (wr) dq) osq = w6 at *
            clear kq0 kq1 kq2 cq0 cq1
            have hb7 := HBW.out.trans (hb6.mono HBS)
            go_wp2
            try rw [Exit.noGoto_ret]
            go_ret
            exact ⟨rfl, hb7⟩
          · have HU2 : Hid (LV.Upto L (p + 1 + 1)) := HU.out.step (by omega) (by rw [HX.out.1]; exact hfl) (fun h => by rw [HX.out.1]; show F.ltN (L[p]'(by omega)).n X.n = true; rw [HY.out]; exact hlt2)
            have q4 : Op.bytesLess Y.toList X.n.toList = true := hlt2
            clear hrs HVV HX HU HA HR HSM hfl
            go_wp2
            have kq0 := cell_regrown (w := wr) c0
            have kq1 := cell_regrown (w := wr) c1
            have kq2 := cell_regrown (w := wr) e0
            have cq0 := fun d os => Calls.regrown_of (w := wr) (d := d) (os := os) (HNM.out _)
            have cq1 := fun d os => Calls.regrown_of (w := wr) (d := d) (os := os) (HVL.out _)
            refine wp_region_quiet_below (by kernel_rfl) (by kernel_rfl) ?_
            repeat (go_big_quiet_step (first | exact cq0 _ _ | exact cq1 _ _))
            refine wpQuiet_nil ?_
            rintro _ ⟨⟨dq, osq⟩, rfl⟩
            have hb6 := below_regrown (wr) dq osq
            generalize grow (redrawn (wr) dq) osq = w6 at *
            clear kq0 kq1 kq2 cq0 cq1
            have hb7 := HBW.out.trans (hb6.mono HBS)
            go_wp2
            go_roundw
            case rel => exact ⟨p + 1 + 1, by omega, by go_num, HU2, hb7⟩
            case measure => simp [intOf]; omega
    · have hme : m = n := by omega
      by_cases h24 : n ≤ 24
      · have hF : R = true := by rw [← HR.out, LV.leavesB_iff]; exact LV.Upto.ok (by rw [hn, ← hme]; exact HU.out) (by omega)
        subst hF
        subst hme
        have q : (m : Int) ≤ 24 := by omega
        clear HU HR HVV HA HSM
        go_wp2
        go_ret
        exact ⟨rfl, hbel⟩
      · have hF : R = false := by rw [← HR.out, LV.leavesB_no]; exact fun h => by have := h.1; omega
        subst hF
        subst hme
        have q : ¬ (m : Int) ≤ 24 := by omega
        clear HU HR HVV HA HSM
        go_wp2
        go_ret
        exact ⟨rfl, hbel⟩

end Go.Proofs.YtmcejkfknbjjkaaGreatDoor
/-
  A leaf looked for, a leaf and a row of leaves copied: the program's and the specification's answers.
-/
namespace Go.Proofs.YtmcejkfknbjjkaaGreatDoor
open Go.RowKit Go.BigFrame Go.Sort
set_option linter.unusedVariables false
set_option linter.unusedSimpArgs false

namespace LV
/-- none of the first m has this name -/
def NotIn (L : List Le) (x : ByteArray) (m : Nat) : Prop := ∀ j (h : j < L.length), j < m → L[j].n ≠ x
theorem NotIn.zero (L : List Le) (x : ByteArray) : NotIn L x 0 := fun j _ h => by omega
theorem NotIn.step {L : List Le} {x : ByteArray} {m : Nat} (h : NotIn L x m) (hm : m < L.length) (hne : L[m].n ≠ x) : NotIn L x (m + 1) := by
  intro j hj hlt
  rcases Nat.lt_or_ge j m with h1 | h1
  · exact h j hj h1
  · have : j = m := by omega
    subst this
    exact hne
theorem NotIn.here {L : List Le} {x : ByteArray} {m : Nat} (h : NotIn L x m) (hm : m < L.length) (he : L[m].n = x) : find L x = some L[m] := by
  have h1 : L = L.take m ++ L[m] :: L.drop (m + 1) := by simp
  unfold find
  rw [List.find?_eq_some_iff_append]
  refine ⟨by simpa using he, L.take m, L.drop (m + 1), by simp, fun a ha => ?_⟩
  obtain ⟨j, hj, rfl⟩ := List.getElem_of_mem ha
  rw [List.length_take] at hj
  rw [List.getElem_take]
  simpa using h j (by omega) (by omega)
theorem NotIn.none {L : List Le} {x : ByteArray} (h : NotIn L x L.length) : find L x = none := by
  unfold find
  rw [List.find?_eq_none]
  intro a ha
  obtain ⟨j, hj, rfl⟩ := List.getElem_of_mem ha
  simpa using h j hj hj
theorem get_some {L : List Le} {x : ByteArray} {f : Le} (h : find L x = some f) : getV L x = f.v ∧ getB L x = true := by
  unfold getV getB
  rw [h]
  exact ⟨rfl, rfl⟩
theorem get_none {L : List Le} {x : ByteArray} (h : find L x = none) : getV L x = ⟨#[]⟩ ∧ getB L x = false := by
  unfold getV getB
  rw [h]
  exact ⟨rfl, rfl⟩
theorem bytes_ne {a b : ByteArray} (h : a ≠ b) : (a.toList == b.toList) = false := by
  rw [beq_eq_false_iff_ne]
  exact fun e => h (F.toList_inj e)
end LV

def LgR (L : List Le) (x : ByteArray) (w : World) (i : Value) (wr : World) : Prop := ∃ m : Nat, m ≤ L.length ∧ i = .int .i64 m ∧ Hid (LV.NotIn L x m) ∧ Below w.heap.size w wr

set_option maxRecDepth 100000 in
set_option maxHeartbeats 1000000 in
theorem LeafGet_any (v : Value) (ga oa : Nat) (L : List Le) (x : ByteArray) (w : World) (hv : RS 2 lcs w v ga oa L) (hsm : SmallL L) :
    Calls Tryz.prog 152 #[v, .string x] w fun e w' => e = .returned (.tuple #[.string (LV.getV L x), .bool (LV.getB L x)]) ∧ Below w.heap.size w w' := by
  obtain ⟨R, hR⟩ : ∃ R, LV.getV L x = R := ⟨_, rfl⟩
  obtain ⟨b, hb⟩ : ∃ b, LV.getB L x = b := ⟨_, rfl⟩
  have HVV : Hid (RS 2 lcs w v ga oa L) := hv
  obtain ⟨a, cap, rfl, hl, hA, hc⟩ := hv
  obtain ⟨n, hn⟩ : ∃ n, L.length = n := ⟨_, rfl⟩
  have HA : Hid (0 < n → a = some ⟨ga, oa, none⟩) := by rw [← hn]; exact fun h => (hA h).1
  have HSM : Hid (SmallL L) := hsm
  have HR : Hid (LV.getV L x = R ∧ LV.getB L x = b) := ⟨hR, hb⟩
  have HST : Hid (LgR L x w (.int .i64 0) w) := ⟨0, by omega, rfl, LV.NotIn.zero L x, Below.refl _ _⟩
  rw [hR, hb]
  rw [hn] at hl ⊢
  clear hc hA hR hb hsm
  go_enter Tryz.func152, Tryz.ntmps152
  go_wp2
  go_loopw [10] (fun i wr => LgR L x w i wr) (fun i _ => n - (intOf i).toNat)
  case atStart => exact HST.out
  case round =>
    obtain ⟨m, hm, rfl, HU, hbel⟩ := hrel
    rw [hn] at hm
    clear HST
    by_cases hlt : m < n
    · have ea := HA.out (by omega)
      subst ea
      have hrs := HVV.out.later hbel
      obtain ⟨c0, c1⟩ := hrs.leaf m (by omega)
      have i1 : (m : Int) < (n : Int) := by omega
      have i2 : (0 : Int) ≤ (m : Int) := by omega
      obtain ⟨X, hX⟩ : ∃ X, L[m]'(by omega) = X := ⟨_, rfl⟩
      rw [hX] at c0 c1
      have hxs := HSM.out X (by rw [← hX]; exact List.getElem_mem _)
      have hbw : Below w.heap.size w (wr.alloc (.cells #[.string X.n, .string X.v] 34)) := hbel.alloc hbel.size _
      clear HSM HVV hrs HA
      by_cases he : X.n = x
      · have hF := LV.get_some (HU.out.here (by omega) (by rw [hX]; exact he))
        rw [hX, HR.out.1, HR.out.2] at hF
        obtain ⟨rfl, rfl⟩ := hF
        have q : (X.n.toList == x.toList) = true := by rw [he]; simp
        clear HU HR hX he
        go_wp2_with fail
        refine (Clone_any X.v _ hxs.2).mono ?_
        rintro e w1 ⟨rfl, hb1⟩
        have hb2 := hbw.trans (hb1.mono hbw.size)
        go_wp2
        try rw [Exit.noGoto_ret]
        go_ret2
        exact ⟨rfl, hb2⟩
      · have HU2 : Hid (LV.NotIn L x (m + 1)) := HU.out.step (by omega) (by rw [hX]; exact he)
        have q : (X.n.toList == x.toList) = false := LV.bytes_ne he
        clear HU HR hX he
        go_wp2
        go_roundw
        case rel => exact ⟨m + 1, by omega, by go_num, HU2, hbw⟩
        case measure => simp [intOf]; omega
    · have hme : m = n := by omega
      have hF := LV.get_none (L := L) (x := x) (LV.NotIn.none (by rw [hn, ← hme]; exact HU.out))
      rw [HR.out.1, HR.out.2] at hF
      obtain ⟨rfl, rfl⟩ := hF
      subst hme
      clear HU HR HVV HA HSM
      go_wp2
      go_ret2
      exact ⟨rfl, hbel⟩

set_option maxRecDepth 100000 in
set_option maxHeartbeats 1000000 in
theorem sLeafGet_any (v : Value) (ga oa : Nat) (L : List Le) (x : ByteArray) (w : World) (hv : RS 2 lcs w v ga oa L) :
    Calls Tryz.prog 117 #[v, .string x] w fun e w' => e = .returned (.tuple #[.string (LV.getV L x), .bool (LV.getB L x)]) ∧ Below w.heap.size w w' := by
  obtain ⟨R, hR⟩ : ∃ R, LV.getV L x = R := ⟨_, rfl⟩
  obtain ⟨b, hb⟩ : ∃ b, LV.getB L x = b := ⟨_, rfl⟩
  have HVV : Hid (RS 2 lcs w v ga oa L) := hv
  obtain ⟨a, cap, rfl, hl, hA, hc⟩ := hv
  obtain ⟨n, hn⟩ : ∃ n, L.length = n := ⟨_, rfl⟩
  have HA : Hid (0 < n → a = some ⟨ga, oa, none⟩) := by rw [← hn]; exact fun h => (hA h).1
  have HR : Hid (LV.getV L x = R ∧ LV.getB L x = b) := ⟨hR, hb⟩
  have HST : Hid (LgR L x w (.int .i64 0) w) := ⟨0, by omega, rfl, LV.NotIn.zero L x, Below.refl _ _⟩
  rw [hR, hb]
  rw [hn] at hl ⊢
  clear hc hA hR hb
  go_enter Tryz.func117, Tryz.ntmps117
  go_wp2
  go_loopw [6] (fun i wr => LgR L x w i wr) (fun i _ => n - (intOf i).toNat)
  case atStart => exact HST.out
  case round =>
    obtain ⟨m, hm, rfl, HU, hbel⟩ := hrel
    rw [hn] at hm
    clear HST
    by_cases hlt : m < n
    · have ea := HA.out (by omega)
      subst ea
      have hrs := HVV.out.later hbel
      obtain ⟨c0, c1⟩ := hrs.leaf m (by omega)
      have i1 : (m : Int) < (n : Int) := by omega
      have i2 : (0 : Int) ≤ (m : Int) := by omega
      obtain ⟨X, hX⟩ : ∃ X, L[m]'(by omega) = X := ⟨_, rfl⟩
      rw [hX] at c0 c1
      clear HVV hrs HA
      by_cases he : X.n = x
      · have hF := LV.get_some (HU.out.here (by omega) (by rw [hX]; exact he))
        rw [hX, HR.out.1, HR.out.2] at hF
        obtain ⟨rfl, rfl⟩ := hF
        have q : (X.n.toList == x.toList) = true := by rw [he]; simp
        clear HU HR hX he
        go_wp2
        try rw [Exit.noGoto_ret]
        go_ret2
        exact ⟨rfl, hbel⟩
      · have HU2 : Hid (LV.NotIn L x (m + 1)) := HU.out.step (by omega) (by rw [hX]; exact he)
        have q : (X.n.toList == x.toList) = false := LV.bytes_ne he
        clear HU HR hX he
        go_wp2
        go_roundw
        case rel => exact ⟨m + 1, by omega, by go_num, HU2, hbel⟩
        case measure => simp [intOf]; omega
    · have hme : m = n := by omega
      have hF := LV.get_none (L := L) (x := x) (LV.NotIn.none (by rw [hn, ← hme]; exact HU.out))
      rw [HR.out.1, HR.out.2] at hF
      obtain ⟨rfl, rfl⟩ := hF
      subst hme
      clear HU HR HVV HA
      go_wp2
      go_ret2
      exact ⟨rfl, hbel⟩

end Go.Proofs.YtmcejkfknbjjkaaGreatDoor
/-
  A row of leaves that a law is handed.
-/
namespace Go.Proofs.YtmcejkfknbjjkaaGreatDoor
open Go.ChangeShapes Go.WideShapes Go.ChangeAt Go.RowKit
set_option linter.unusedVariables false
set_option linter.unusedSimpArgs false
namespace LV

theorem addr_flat {w : World} {x : Addr} {u : Value} (h : w.cell? x = some u) (j : Nat) : x.add j = ⟨x.block, x.off + j, none⟩ := by
  have hs := World.cell?_spot h
  cases x
  simp at hs
  subst hs
  unfold Addr.add
  split <;> simp_all
theorem addr_zero (x : Addr) : x.add 0 = x := by unfold Addr.add; simp
theorem addr_add (x : Addr) (i j : Nat) : (x.add i).add j = x.add (i + j) := by
  unfold Addr.add
  split <;> split <;> simp_all <;> omega

/-- n records, each read -/
theorem list_of {α : Type} {p : Nat → α → Prop} : ∀ n : Nat, (∀ i, i < n → ∃ f, p i f) → ∃ l : List α, l.length = n ∧ ∀ i (h : i < l.length), p i l[i]
  | 0, _ => ⟨[], rfl, fun i h => absurd h (by simp)⟩
  | n + 1, h => by
    obtain ⟨l, hl, hp⟩ := list_of n (fun i hi => h i (by omega))
    obtain ⟨f, hf⟩ := h n (by omega)
    refine ⟨l ++ [f], by simp [hl], fun i hi => ?_⟩
    rcases Nat.lt_or_ge i l.length with h1 | h1
    · rw [List.getElem_append_left h1]; exact hp i h1
    · have : i = n := by simp at hi; omega
      subst this
      rw [List.getElem_append_right h1]
      simpa using hf

theorem row_at {α : Type} {k : Nat} {enc : α → List Value} {W : World} {a : Addr} {len : Nat} {l : List α} (hk0 : ∀ x, ∃ u r, enc x = u :: r) (hl : l.length = len) (cap : Nat)
    (hp : ∀ i (h : i < l.length), ∀ j u, (enc l[i])[j]? = some u → W.cell? (a.add (i * k + j)) = some u) (hsm : len ≤ 1100000) : RS k enc W (.slice (some a) len cap) a.block a.off l := by
  have hc0 : ∀ h0 : 0 < l.length, ∃ u, W.cell? a = some u := fun h0 => by
    obtain ⟨u, r, e⟩ := hk0 l[0]
    have c0 := hp 0 h0 0 u (by rw [e]; rfl)
    simp only [Nat.zero_mul, Nat.zero_add] at c0
    rw [addr_zero] at c0
    exact ⟨u, c0⟩
  refine ⟨some a, cap, by rw [hl], by omega, fun h0 => ?_, fun j hj i u hu => ?_⟩
  · obtain ⟨u, c0⟩ := hc0 h0
    have e := addr_flat c0 0
    rw [addr_zero] at e
    refine ⟨congrArg some e, ?_⟩
    rw [e] at c0
    exact lt_of_cell c0
  · obtain ⟨u0, c0⟩ := hc0 (by omega)
    have c := hp j hj i u hu
    rw [addr_flat c0] at c
    rw [Nat.add_assoc]
    exact c


theorem cells9L : Tryz.prog.cellsOf 9 = 1 := by kernel_rfl

end LV
end Go.Proofs.YtmcejkfknbjjkaaGreatDoor
/-
  Rows of leaves that a call owns, grown leaf by leaf.
-/
namespace Go.Proofs.YtmcejkfknbjjkaaGreatDoor
open Go.RowKit Go.BigFrame Go.Sort
set_option linter.unusedVariables false
set_option linter.unusedSimpArgs false

/-- v owns the leaves l -/
def OL (B : Nat) (w0 w : World) (v : Value) (l : List Le) : Prop := OR 34 2 lcs B w0 w v l
theorem OL.later {B : Nat} {w0 w w' : World} {v : Value} {l : List Le} (h : OL B w0 w v l) (hb : Below w.heap.size w w') : OL B w0 w' v l := OR.later h hb
theorem OL.grown {B : Nat} {w0 w w' : World} {v : Value} {l : List Le} {row : Option Nat} (h : OL B w0 w v l) (hg : w.grownBy w' row) (hne : ∀ q, row = some q → B ≤ q ∧ v.ownBlock ≠ some q) : OL B w0 w' v l := OR.grown h hg hne
theorem OL.rw {B : Nat} {w0 w : World} {v : Value} {l : List Le} (h : OL B w0 w v l) (hl : l.length ≤ 1100000) : ∃ g, RW 2 lcs w v g l ∧ B ≤ g ∧ (∀ q, v.ownBlock = some q → q = g) := OR.rw (k := 2) (enc := lcs) (fun x => lcs_len x) (by omega) h hl
theorem OL.shape {B : Nat} {w0 w : World} {v : Value} {l : List Le} (h : OL B w0 w v l) : ∃ a c, v = .slice a l.length c := by
  rcases h.1.2 with ⟨hv, hn⟩ | ⟨g, cap, cur, hv, _⟩
  · exact ⟨none, 0, by rw [hv, hn]⟩
  · exact ⟨_, _, hv⟩
theorem OL.made (B : Nat) (w0 w : World) (hb : Below B w0 w) (hB : B ≤ w.heap.size) : OL B w0 (w.alloc (.cells #[] 34)) (.slice (some ⟨w.heap.size, 0, none⟩) 0 0) [] :=
  ⟨World.ownsRow_made w #[] 0 hB (by decide) (by simp), hb.alloc hB _, by simp; omega⟩
/-- its block is none of another type -/
theorem OL.ne {B : Nat} {w0 w : World} {u : Value} {l : List Le} {p T : Nat} {cs : Array Value} {fz : Nat × Nat} (h : OL B w0 w u l) (hb : w.heap[p]? = some (.cells cs T fz)) (hT : T ≠ 34) : u.ownBlock ≠ some p := by
  rcases h.1.2 with ⟨hv, _⟩ | ⟨g, cap, cur, hv, _, hg, _⟩
  · rw [hv]; simp [Value.ownBlock]
  · rw [hv]
    intro e
    have : g = p := by simpa [Value.ownBlock] using e
    subst this
    rw [hg] at hb
    simp at hb
    exact hT hb.2.1.symm

section
variable {w : World} {ops : Array Oper} {o : Oper} {a : Act} {K : Act → World → Prop} {Q : Exit → Act → World → Prop}
/-- a leaf appended, as one step of a region that draws its order -/
theorem step_leaf {E : Prop} (hgd : o.guard = none) (s x : Operand)
    (ho : o.op = .call { callee := .builtin .append, args := #[s, x], argTypes := #[24, 24] })
    (B : Nat) (w0 : World) (u : Value) (l : List Le) (f : Le) (hs : a.eval s = u) (h : OL B w0 w u l) (p : Nat) (hx : a.eval x = .slice (some ⟨p, 0, none⟩) 1 1)
    (hnews : w.rangeAt p 0 (lcs f)) (hlen : l.length + 1 ≤ 1000000)
    (hk : ∀ g cap w', OL B w0 w' (.slice (some ⟨g, 0, none⟩) (l.length + 1) cap) (l ++ [f]) → w.grownBy w' u.ownBlock → K (a.put o.dst (.slice (some ⟨g, 0, none⟩) (l.length + 1) cap)) w') : if Region.wanted o (yielded ops a.tmps) = true then Oper.wp Tryz.prog o a w K Q else E := by
  obtain ⟨i0, hi, hz0, hz1, hz2⟩ := info_parts Tryz.infoLeaf
  refine step_append_lies w hgd s x 24 ho B 34 i0 _ 2 32 Tryz.underlying24 hi hz0 hz1 hz2 rfl (by decide) u l.length (l.flatMap lcs) hs h.1 ⟨p, 0, none⟩ 1 1 (lcs f) hx rfl ?_
    (fun u hu => by simp [lcs] at hu; rcases hu with rfl | rfl <;> rfl) (by omega) (by unfold maxLen; omega) (by omega) h.2.2 w.heap.size rfl ?_
  · intro j u hj
    have := hnews j u hj
    rw [Addr.add_mid]
    exact this
  · intro g cap w' h1 h2 h3 _
    exact hk _ _ _ ⟨by rw [List.flatMap_append, List.flatMap_singleton, List.length_append]; exact h1, h.2.1.grown h2 h.2.2 (fun k hk => (h.1.lt k hk).1), Nat.le_trans h.2.2 h2.size⟩ h2
/-- .. and in a plain region -/
theorem wp_leaf {rest : List Oper} (hgd : o.guard = none) (s x : Operand)
    (ho : o.op = .call { callee := .builtin .append, args := #[s, x], argTypes := #[24, 24] })
    (B : Nat) (w0 : World) (u : Value) (l : List Le) (f : Le) (hs : a.eval s = u) (h : OL B w0 w u l) (p : Nat) (hx : a.eval x = .slice (some ⟨p, 0, none⟩) 1 1)
    (hnews : w.rangeAt p 0 (lcs f)) (hlen : l.length + 1 ≤ 1000000)
    (hk : ∀ g cap w', OL B w0 w' (.slice (some ⟨g, 0, none⟩) (l.length + 1) cap) (l ++ [f]) → w.grownBy w' u.ownBlock → wpList Tryz.prog ops Q rest (a.put o.dst (.slice (some ⟨g, 0, none⟩) (l.length + 1) cap)) w') : wpList Tryz.prog ops Q (o :: rest) a w := by
  obtain ⟨i0, hi, hz0, hz1, hz2⟩ := info_parts Tryz.infoLeaf
  refine wpList_append_lies w hgd s x 24 ho B 34 i0 _ 2 32 Tryz.underlying24 hi hz0 hz1 hz2 rfl (by decide) u l.length (l.flatMap lcs) hs h.1 ⟨p, 0, none⟩ 1 1 (lcs f) hx rfl ?_
    (fun u hu => by simp [lcs] at hu; rcases hu with rfl | rfl <;> rfl) (by omega) (by unfold maxLen; omega) (by omega) h.2.2 w.heap.size rfl ?_
  · intro j u hj
    have := hnews j u hj
    rw [Addr.add_mid]
    exact this
  · intro g cap w' h1 h2 h3 _
    exact hk _ _ _ ⟨by rw [List.flatMap_append, List.flatMap_singleton, List.length_append]; exact h1, h.2.1.grown h2 h.2.2 (fun k hk => (h.1.lt k hk).1), Nat.le_trans h.2.2 h2.size⟩ h2
end

end Go.Proofs.YtmcejkfknbjjkaaGreatDoor
/-
  A leaf put into a list, and dropped from it: the specification's answers.
-/
namespace Go.Proofs.YtmcejkfknbjjkaaGreatDoor
open Go.RowKit Go.BigFrame Go.Sort
set_option linter.unusedVariables false
set_option linter.unusedSimpArgs false

section
variable {w : World} {ops : Array Oper} {o : Oper} {a : Act} {Q : Exit → Act → World → Prop}
/-- a leaf appended, and where the row lies then -/
theorem wp_leafL {rest : List Oper} (hgd : o.guard = none) (s x : Operand)
    (ho : o.op = .call { callee := .builtin .append, args := #[s, x], argTypes := #[24, 24] })
    (B : Nat) (w0 : World) (u : Value) (l : List Le) (f : Le) (hs : a.eval s = u) (h : OL B w0 w u l) (p : Nat) (hx : a.eval x = .slice (some ⟨p, 0, none⟩) 1 1)
    (hnews : w.rangeAt p 0 (lcs f)) (hlen : l.length + 1 ≤ 4000000)
    (hk : ∀ g cap w', OL B w0 w' (.slice (some ⟨g, 0, none⟩) (l.length + 1) cap) (l ++ [f]) → w.grownBy w' u.ownBlock → (u.ownBlock = some g ∨ g = w.heap.size) → wpList Tryz.prog ops Q rest (a.put o.dst (.slice (some ⟨g, 0, none⟩) (l.length + 1) cap)) w') : wpList Tryz.prog ops Q (o :: rest) a w := by
  obtain ⟨i0, hi, hz0, hz1, hz2⟩ := info_parts Tryz.infoLeaf
  refine wpList_append_lies w hgd s x 24 ho B 34 i0 _ 2 32 Tryz.underlying24 hi hz0 hz1 hz2 rfl (by decide) u l.length (l.flatMap lcs) hs h.1 ⟨p, 0, none⟩ 1 1 (lcs f) hx rfl ?_
    (fun u hu => by simp [lcs] at hu; rcases hu with rfl | rfl <;> rfl) (by omega) (by unfold maxLen; omega) (by omega) h.2.2 w.heap.size rfl ?_
  · intro j u hj
    have := hnews j u hj
    rw [Addr.add_mid]
    exact this
  · intro g cap w' h1 h2 h3 _
    exact hk _ _ _ ⟨by rw [List.flatMap_append, List.flatMap_singleton, List.length_append]; exact h1, h.2.1.grown h2 h.2.2 (fun k hk => (h.1.lt k hk).1), Nat.le_trans h.2.2 h2.size⟩ h2 h3

theorem flat_cellsL {w : World} {g o : Nat} {l : List Le} (h : ∀ j (h : j < l.length), w.rangeAt g (o + j * 2) (lcs l[j])) : ∀ j u, (l.flatMap lcs)[j]? = some u → w.cell? ⟨g, o + j, none⟩ = some u := by
  intro j u hu
  have hl := flat_len (k := 2) (enc := lcs) (fun x => lcs_len x) l
  have hj : j < l.length * 2 := by rw [← hl]; exact (List.getElem?_eq_some_iff.1 hu).1
  have e : j = j / 2 * 2 + j % 2 := by omega
  have hq : j / 2 < l.length := by omega
  rw [e, flat_at (k := 2) (enc := lcs) (fun x => lcs_len x) l (j / 2) hq (j % 2) (by omega)] at hu
  have := h (j / 2) hq (j % 2) u hu
  rw [e, ← Nat.add_assoc]
  exact this
theorem oneL {l : List Le} : ∀ u ∈ l.flatMap lcs, u.oneCell' = true := fun u hu => by
  obtain ⟨f, _, hf⟩ := List.mem_flatMap.1 hu
  simp [lcs] at hf
  rcases hf with rfl | rfl <;> rfl
/-- a whole row of leaves appended to an empty one -/
theorem wp_rowL {rest : List Oper} (hgd : o.guard = none) (s x : Operand)
    (ho : o.op = .call { callee := .builtin .append, args := #[s, x], argTypes := #[24, 24] })
    (B : Nat) (w0 : World) (g : Nat) (hs : a.eval s = .slice (some ⟨g, 0, none⟩) 0 0) (h : OL B w0 w (.slice (some ⟨g, 0, none⟩) 0 0) []) (p : Option Addr) (ga oa cap : Nat) (l : List Le) (hx : a.eval x = .slice p l.length cap) (hv : RS 2 lcs w (.slice p l.length cap) ga oa l) (hnil : p = none → cap = 0)
    (hk : ∀ v' w', OL B w0 w' v' l → wpList Tryz.prog ops Q rest (a.put o.dst v') w') : wpList Tryz.prog ops Q (o :: rest) a w := by
  obtain ⟨i0, hi, hz0, hz1, hz2⟩ := info_parts Tryz.infoLeaf
  obtain ⟨p', cap', ev, hlen, hA, hc⟩ := hv
  obtain ⟨rfl, rfl⟩ : p = p' ∧ cap = cap' := by simpa using ev
  by_cases h0 : l.length = 0
  · have : l = [] := List.length_eq_zero_iff.1 h0
    subst this
    refine wpList_append_fits_any w hgd s x 24 ho B 34 i0 2 Tryz.underlying24 hi hz1 g 0 0 [] hs h.1 p 0 cap [] hx rfl (fun e => ⟨rfl, hnil e⟩) (fun ad _ j u hu => by simp at hu) (fun u hu => by cases hu) (by omega) ?_
    intro w' h1 h2
    exact hk _ _ ⟨by simpa using h1, h.2.1.grown h2 h.2.2 (fun k hk => (h.1.lt k hk).1), Nat.le_trans h.2.2 h2.size⟩
  · obtain ⟨rfl, hg⟩ := hA (by omega)
    refine wpList_append_own _ hgd s x 24 ho B 34 i0 _ 2 32 Tryz.underlying24 hi hz0 hz1 hz2 rfl (by decide) _ 0 [] hs h.1 ⟨ga, oa, none⟩ l.length cap (l.flatMap lcs) hx (flat_len (k := 2) (enc := lcs) (fun x => lcs_len x) l) ?_ oneL (by unfold maxLen; omega) (by omega) h.2.2 ?_
    · intro j u hj
      have := flat_cellsL hc j u hj
      rw [Addr.add_mid]
      exact this
    · intro v' w' h1 h2 _
      exact hk _ _ ⟨by simpa using h1, h.2.1.grown h2 h.2.2 (fun k hk => (h.1.lt k hk).1), Nat.le_trans h.2.2 h2.size⟩
end

namespace LV
theorem filt_step {L : List Le} {m : Nat} (P : Le → Bool) (hm : m < L.length) : (L.take (m + 1)).filter P = if P L[m] = true then (L.take m).filter P ++ [L[m]] else (L.take m).filter P := by
  rw [List.take_succ_eq_append_getElem hm, List.filter_append]
  by_cases h : P L[m] = true
  · simp [h]
  · simp [h]
theorem filt_len (L : List Le) (m : Nat) (P : Le → Bool) : ((L.take m).filter P).length ≤ L.length := Nat.le_trans (List.length_filter_le _ _) (by simp; omega)
end LV

/-- the leaves of a row that P wants, behind those of l0 -/
def NaR (B : Nat) (w0 : World) (ga : Nat) (l0 : List Le) (P : Le → Bool) (L : List Le) (V : World) (u i : Value) (wr : World) : Prop := ∃ m : Nat, m ≤ L.length ∧ i = .int .i64 m ∧ Hid (OL B w0 wr u (l0 ++ (L.take m).filter P) ∧ (0 < L.length → wr.heap[ga]? = V.heap[ga]? ∧ u.ownBlock ≠ some ga ∧ ga < wr.heap.size))

set_option maxRecDepth 100000 in
set_option maxHeartbeats 1000000 in
theorem l09Without_any (v : Value) (ga oa : Nat) (L : List Le) (x : ByteArray) (w : World) (hv : RS 2 lcs w v ga oa L) :
    Calls Tryz.prog 123 #[v, .string x] w fun e w' => ∃ u, e = .returned u ∧ OL w.heap.size w w' u (LV.wout L x) := by
  have HV : Hid (RS 2 lcs w v ga oa L) := hv
  obtain ⟨a, cap, rfl, hl, hA, _⟩ := hv
  obtain ⟨n, hn⟩ : ∃ n, L.length = n := ⟨_, rfl⟩
  have HA : Hid (0 < n → a = some ⟨ga, oa, none⟩ ∧ ga < w.heap.size) := by rw [← hn]; exact hA
  rw [hn] at hl HV ⊢
  clear hA
  have HST : Hid (∃ m : Nat, m ≤ L.length ∧ Value.int .i64 0 = .int .i64 m ∧ Hid (OL w.heap.size w (w.alloc (.cells #[] 34)) (.slice (some ⟨w.heap.size, 0, none⟩) 0 0) (LV.wout (L.take m) x))) := ⟨0, by omega, rfl, OL.made _ w w (Below.refl _ _) (Nat.le_refl _)⟩
  go_enter Tryz.func123, Tryz.ntmps123
  go_wp2
  go_loopw [5, 6] (fun u i wr => ∃ m : Nat, m ≤ L.length ∧ i = .int .i64 m ∧ Hid (OL w.heap.size w wr u (LV.wout (L.take m) x))) (fun _ i _ => n - (intOf i).toNat)
  case atStart => exact HST.out
  case round =>
    obtain ⟨m, hm, rfl, HI⟩ := hrel
    clear HST
    rw [hn] at hm
    obtain ⟨au, cu, rfl⟩ := HI.out.shape
    by_cases hlt : m < n
    · have ea := (HA.out (by omega)).1
      subst ea
      obtain ⟨c0, c1⟩ := (HV.out.later HI.out.2.1).leaf m (by omega)
      obtain ⟨X, hX⟩ : ∃ X, L[m]'(by omega) = X := ⟨_, rfl⟩
      rw [hX] at c0 c1
      have hst : LV.wout (L.take (m + 1)) x = if X.n = x then LV.wout (L.take m) x else LV.wout (L.take m) x ++ [X] := by
        have := LV.filt_step (L := L) (m := m) (fun g => !decide (g.n = x)) (by omega)
        rw [hX] at this
        unfold LV.wout
        rw [this]
        by_cases h : X.n = x <;> simp [h]
      have hle : (LV.wout (L.take m) x).length ≤ L.length := Nat.le_trans (LV.len_wout_le _ _) (by simp; omega)
      have i1 : (m : Int) < (n : Int) := by omega
      have i2 : (0 : Int) ≤ (m : Int) := by omega
      clear HV HA
      by_cases hk : X.n = x
      · rw [if_pos hk] at hst
        have HJ : Hid (OL w.heap.size w wr (.slice au (LV.wout (L.take m) x).length cu) (LV.wout (L.take (m + 1)) x)) := by rw [hst]; exact HI.out
        have q : (X.n.toList == x.toList) = true := by rw [hk]; simp
        clear HI hX hk hst
        generalize LV.wout (L.take m) x = l at *
        go_wp2
        go_roundw
        case rel => exact ⟨m + 1, by omega, by go_num, HJ⟩
        case measure => simp [intOf]; omega
      · rw [if_neg hk] at hst
        have HJ : Hid (LV.wout (L.take (m + 1)) x = LV.wout (L.take m) x ++ [X]) := hst
        have q : (X.n.toList == x.toList) = false := LV.bytes_ne hk
        clear hX hk hst
        generalize LV.wout (L.take m) x = l at *
        have hba : Below wr.heap.size wr (wr.alloc (.cells #[.string X.n, .string X.v] 34)) := (Below.refl _ _).alloc (Nat.le_refl _) _
        have hoa := HI.out.later hba
        have HRN : Hid ((wr.alloc (.cells #[.string X.n, .string X.v] 34)).rangeAt wr.heap.size 0 (lcs X)) := range_new _ [.string X.n, .string X.v] 34
        clear hba HI
        go_wp2_with (at_builtin; refine wp_leafL rfl _ _ rfl w.heap.size w (.slice au l.length cu) l X rfl hoa _ rfl HRN.out (by omega) ?_)
        intro g5 cap5 w5 ho5 hg5 hl5
        have HK : Hid (OL w.heap.size w w5 (.slice (some ⟨g5, 0, none⟩) (l.length + 1) cap5) (LV.wout (L.take (m + 1)) x)) := by rw [HJ.out]; exact ho5
        clear ho5 hg5 hl5 hoa HRN HJ c0 c1
        go_wp2
        go_roundw
        case rel => exact ⟨m + 1, by omega, by go_num, HK⟩
        case measure => simp [intOf]; omega
    · have hme : m = n := by omega
      have e : LV.wout (L.take m) x = LV.wout L x := by rw [List.take_of_length_le (by omega)]
      have HF : Hid (∃ u, Ending.returned (.slice au (LV.wout (L.take m) x).length cu) = .returned u ∧ OL w.heap.size w wr u (LV.wout L x)) := ⟨_, rfl, by rw [← e]; exact HI.out⟩
      generalize LV.wout (L.take m) x = l at *
      subst hme
      clear HI HA HV e
      go_wp2
      go_ret
      exact HF.out

end Go.Proofs.YtmcejkfknbjjkaaGreatDoor
/-
  The leaves whose names have an index: the specification's answer.
-/
namespace Go.Proofs.YtmcejkfknbjjkaaGreatDoor
open Go.RowKit Go.BigFrame Go.Sort
set_option linter.unusedVariables false
set_option linter.unusedSimpArgs false

def idxN (t : ByteArray) : Nat := (byte0 (digB t)).toNat
/-- has it this index? -/
def bkP (i : Int) (f : Le) : Bool := decide ((idxN f.n : Int) = i)
def bkL (L : List Le) (i : Int) : List Le := L.filter (bkP i)
theorem bk_step {L : List Le} {m : Nat} (i : Int) (hm : m < L.length) : (L.take (m + 1)).filter (bkP i) = if bkP i L[m] = true then (L.take m).filter (bkP i) ++ [L[m]] else (L.take m).filter (bkP i) := LV.filt_step _ hm

def BkR (w : World) (L : List Le) (i : Int) (u j : Value) (wr : World) : Prop := ∃ m : Nat, m ≤ L.length ∧ j = .int .i64 m ∧ Hid (OL w.heap.size w wr u ((L.take m).filter (bkP i)))

set_option maxRecDepth 100000 in
set_option maxHeartbeats 1000000 in
theorem sBucketOf_any (v : Value) (ga oa : Nat) (L : List Le) (i : Int) (w : World) (hv : RS 2 lcs w v ga oa L) (hsm : SmallL L) :
    Calls Tryz.prog 149 #[v, .int .i64 i] w fun e w' => ∃ u, e = .returned u ∧ OL w.heap.size w w' u (bkL L i) := by
  have HV : Hid (RS 2 lcs w v ga oa L ∧ SmallL L) := ⟨hv, hsm⟩
  obtain ⟨a, cap, rfl, hl, hA, _⟩ := hv
  obtain ⟨n, hn⟩ : ∃ n, L.length = n := ⟨_, rfl⟩
  have HA : Hid (0 < n → a = some ⟨ga, oa, none⟩) := by rw [← hn]; exact fun h => (hA h).1
  rw [hn] at hl HV ⊢
  clear hA hsm
  have HST : Hid (BkR w L i (.slice (some ⟨w.heap.size, 0, none⟩) 0 0) (.int .i64 0) (w.alloc (.cells #[] 34))) := ⟨0, by omega, rfl, OL.made _ w w (Below.refl _ _) (Nat.le_refl _)⟩
  go_enter Tryz.func149, Tryz.ntmps149
  go_wp2
  go_loopw [5, 6] (fun u j wr => BkR w L i u j wr) (fun _ j _ => n - (intOf j).toNat)
  case atStart => exact HST.out
  case round =>
    obtain ⟨m, hm, rfl, HI⟩ := hrel
    clear HST
    rw [hn] at hm
    obtain ⟨au, cu, rfl⟩ := HI.out.shape
    by_cases hlt : m < n
    · have ea := HA.out (by omega)
      subst ea
      obtain ⟨c0, c1⟩ := (HV.out.1.later HI.out.2.1).leaf m (by omega)
      obtain ⟨X, hX⟩ : ∃ X, L[m]'(by omega) = X := ⟨_, rfl⟩
      rw [hX] at c0 c1
      have hxs := HV.out.2 X (by rw [← hX]; exact List.getElem_mem _)
      have hst := bk_step (L := L) (m := m) i (by omega)
      rw [hX] at hst
      have hle : ((L.take m).filter (bkP i)).length ≤ L.length := LV.filt_len L m _
      have i1 : (m : Int) < (n : Int) := by omega
      have i2 : (0 : Int) ≤ (m : Int) := by omega
      have hix := sIndexOf_any X.n wr hxs.1
      change Calls Tryz.prog 72 _ _ (fun e w' => e = .returned (.int .i64 (idxN X.n : Int)) ∧ Below _ _ w') at hix
      obtain ⟨N, hN⟩ : ∃ N, idxN X.n = N := ⟨_, rfl⟩
      rw [hN] at hix
      have HBK : Hid (bkP i X = decide ((N : Int) = i)) := by rw [← hN]; rfl
      have HCC : Hid (∀ W, Below wr.heap.size wr W → W.cell? ⟨ga, oa + m * 2, none⟩ = some (.string X.n) ∧ W.cell? ⟨ga, oa + m * 2 + 1, none⟩ = some (.string X.v)) := fun W hW => ⟨(cell_kept (hW.block ga (lt_of_cell c0))).trans c0, (cell_kept (hW.block ga (lt_of_cell c0))).trans c1⟩
      clear HV HA hX hN
      generalize hl0 : (L.take m).filter (bkP i) = l at *
      clear hl0
      go_wp2_with fail
      refine hix.mono ?_
      rintro e w1 ⟨rfl, hb1⟩
      have HO2 : Hid (OL w.heap.size w w1 (.slice au l.length cu) l) := HI.out.later hb1
      obtain ⟨x0, x1⟩ := HCC.out _ hb1
      clear hix hb1 HI HCC c0 c1
      by_cases hk : (N : Int) = i
      · rw [HBK.out, decide_eq_true hk] at hst
        have HJ : Hid ((L.take (m + 1)).filter (bkP i) = l ++ [X]) := hst
        have hk2 : ((N : Int) == i) = true := by simpa using hk
        have hbc : Below w1.heap.size w1 (w1.alloc (.cells #[.string X.n, .string X.v] 34)) := (Below.refl _ _).alloc (Nat.le_refl _) _
        have hoa := HO2.out.later hbc
        have HRN : Hid ((w1.alloc (.cells #[.string X.n, .string X.v] 34)).rangeAt w1.heap.size 0 (lcs X)) := range_new _ [.string X.n, .string X.v] 34
        clear hbc HO2 hst HBK
        go_wp2_with (at_builtin; refine wp_leafL rfl _ _ rfl w.heap.size w (.slice au l.length cu) l X rfl hoa _ rfl HRN.out (by omega) ?_)
        intro g5 cap5 w5 ho5 hg5 hl5
        have HK : Hid (OL w.heap.size w w5 (.slice (some ⟨g5, 0, none⟩) (l.length + 1) cap5) ((L.take (m + 1)).filter (bkP i))) := by rw [HJ.out]; exact ho5
        clear ho5 hg5 hl5 hoa HRN HJ
        go_wp2
        go_roundw
        case rel => exact ⟨m + 1, by omega, by go_num, HK⟩
        case measure => simp [intOf]; omega
      · rw [HBK.out, decide_eq_false hk] at hst
        have HJ : Hid (OL w.heap.size w w1 (.slice au l.length cu) ((L.take (m + 1)).filter (bkP i))) := by rw [hst]; exact HO2.out
        have hk2 : ((N : Int) == i) = false := by simpa using hk
        clear hst HBK HO2
        go_wp2
        go_roundw
        case rel => exact ⟨m + 1, by omega, by go_num, HJ⟩
        case measure => simp [intOf]; omega
    · have hme : m = n := by omega
      have e : (L.take m).filter (bkP i) = bkL L i := by rw [List.take_of_length_le (by omega)]; rfl
      have HF : Hid (∃ u, Ending.returned (.slice au ((L.take m).filter (bkP i)).length cu) = .returned u ∧ OL w.heap.size w wr u (bkL L i)) := ⟨_, rfl, by rw [← e]; exact HI.out⟩
      generalize (L.take m).filter (bkP i) = l at *
      subst hme
      clear HI HA HV e
      go_wp2
      go_ret
      exact HF.out

end Go.Proofs.YtmcejkfknbjjkaaGreatDoor
/-
  The walk of the law FnExactLeavesOk: it answers true of every row of leaves.
-/
namespace Go.Proofs.YtmcejkfknbjjkaaGreatDoor
open Go.RowKit Go.BigFrame Go.Sort
set_option linter.unusedVariables false
set_option linter.unusedSimpArgs false

/-- a row answered: it may be written, and lies in blocks from B on -/
def LvIn (w : World) (B : Nat) (v : Value) (l : List Le) : Prop := ∃ a c g, v = .slice a l.length c ∧ RW 2 lcs w v g l ∧ B ≤ g

/-- what a law knows of its row, in every world above -/
def LvA (w : World) (v : Value) (g o : Nat) (l : List Le) : Prop := RS 2 lcs w v g o l ∧ SmallL l

end Go.Proofs.YtmcejkfknbjjkaaGreatDoor
/-
  Rows of texts that are written out.
-/
namespace Go.Proofs.YtmcejkfknbjjkaaGreatDoor
open Go.RowKit
set_option linter.unusedVariables false

/-- texts that are written out -/
theorem ss_lits (w : World) (l : List ByteArray) (cs : Array Value) (n : Nat) (hn : l.length = n) (hl : n ≤ 1100000) (hc : cs = (svs l).toArray) : SS (w.alloc (.cells cs 9)) (.slice (some ⟨w.heap.size, 0, none⟩) n n) w.heap.size 0 l := by
  subst hc
  subst hn
  refine ⟨_, _, rfl, hl, fun _ => rfl, fun j hj => ?_⟩
  rw [Nat.zero_add, World.cell?_alloc_at _ _ _ _ rfl]
  simp [svs, List.getElem?_eq_getElem hj]

end Go.Proofs.YtmcejkfknbjjkaaGreatDoor
/-
  Tagged hashes of texts that are written out, at any width.
-/
namespace Go.Proofs.YtmcejkfknbjjkaaGreatDoor
open Go.RowKit Go.BigFrame
set_option linter.unusedVariables false

/-- the two tables lie as the program's text lays them -/
def Tb (w : World) : Prop := TabK w ∧ TabF w
theorem Tb.later {w w' : World} (h : Tb w) (hb : Below w.heap.size w w') : Tb w' := ⟨h.1.later hb h.1.pos, h.2.later hb h.2.pos⟩
theorem Tb.alloc {w : World} (h : Tb w) (o : Obj) : Tb (w.alloc o) := h.later ((Below.refl _ _).alloc (Nat.le_refl _) _)

theorem taggedHash_w (x k : Int) (l : List ByteArray) (n : Nat) (cs : Array Value) (w : World) (g : Nat) (hg : w.heap.size = g) (hn : l.length = n) (hl : n ≤ 60) (hc : cs = (svs l).toArray) (hT : Tb w) :
    Hid (Calls Tryz.prog 142 #[.int .i64 x, .int .i64 k, .slice (some ⟨g, 0, none⟩) n n] (w.alloc (.cells cs 9)) fun e w' => e = .returned (.string (hashB k l x)) ∧ Below w.heap.size w w') := by
  subst hg
  have hT' := hT.alloc (.cells cs 9)
  exact (taggedHash_any x k _ w.heap.size 0 l (w.alloc (.cells cs 9)) (ss_lits w l cs n hn (by omega) hc) hT'.1 hT'.2).mono fun e w' ⟨he, hb⟩ => ⟨he, ((Below.refl _ _).alloc (Nat.le_refl _) _).trans (hb.mono (by simp))⟩
theorem taggedHash_wd (x k : Int) (l : List ByteArray) (n : Nat) (cs : Array Value) (w : World) (g : Nat) (hg : w.heap.size = g) (hn : l.length = n) (hl : n ≤ 60) (hc : cs = (svs l).toArray) (hT : Tb w) :
    Hid (Calls Tryz.prog 142 #[.int .i64 x, .int .i64 k, .slice (some ⟨g, 0, none⟩) n n] (w.alloc (.cells cs 9)).drew fun e w' => e = .returned (.string (hashB k l x)) ∧ Below w.heap.size w w') := by
  have h := taggedHash_w x k l n cs w.drew g hg hn hl hc hT
  exact h.out.mono fun e w' ⟨he, hb⟩ => ⟨he, (Below.refl _ _).drew.trans hb⟩
theorem sTagHash_w (x k : Int) (l : List ByteArray) (n : Nat) (cs : Array Value) (w : World) (g : Nat) (hg : w.heap.size = g) (hn : l.length = n) (hl : n ≤ 60) (hc : cs = (svs l).toArray) :
    Hid (Calls Tryz.prog 145 #[.int .i64 k, .slice (some ⟨g, 0, none⟩) n n, .int .i64 x] (w.alloc (.cells cs 9)) fun e w' => e = .returned (.string (hashB k l x)) ∧ Below w.heap.size w w') := by
  subst hg
  exact (sTagHash_any k _ x w.heap.size 0 l (w.alloc (.cells cs 9)) (ss_lits w l cs n hn (by omega) hc)).mono fun e w' ⟨he, hb⟩ => ⟨he, ((Below.refl _ _).alloc (Nat.le_refl _) _).trans (hb.mono (by simp))⟩
theorem sTagHash_wd (x k : Int) (l : List ByteArray) (n : Nat) (cs : Array Value) (w : World) (g : Nat) (hg : w.heap.size = g) (hn : l.length = n) (hl : n ≤ 60) (hc : cs = (svs l).toArray) :
    Hid (Calls Tryz.prog 145 #[.int .i64 k, .slice (some ⟨g, 0, none⟩) n n, .int .i64 x] (w.alloc (.cells cs 9)).drew fun e w' => e = .returned (.string (hashB k l x)) ∧ Below w.heap.size w w') := by
  have h := sTagHash_w x k l n cs w.drew g hg hn hl hc
  exact h.out.mono fun e w' ⟨he, hb⟩ => ⟨he, (Below.refl _ _).drew.trans hb⟩

end Go.Proofs.YtmcejkfknbjjkaaGreatDoor
