/-
  Texts laid together: Sh, Lm, Lw, Cs, Lc.
-/
import Derived.Test.YtfiapodjiifmaaaGreatDoorPkP2
import Derived.Test.YtfiapodjiifmaaaGreatDoorPkP3
import Derived.Test.YtfiapodjiifmaaaGreatDoorPkP1
import Derived.Test.YtfiapodjiifmaaaGreatDoorPkP4
import Derived.Test.YtfiapodjiifmaaaGreatDoorPkP0
import Derived.Shelf.Small.Strs
import Derived.Test.YtfiapodjiifmaaaGreatDoorProg
import Derived.Lib.QuietBelow
/-
  A short text read from a place of a text: plain facts, the program's ReadShort, the specification's reader.
-/
namespace Go.Proofs.YtfiapodjiifmaaaGreatDoor
open Go.RowKit Go.BigFrame Go.Sort
set_option linter.unusedVariables false
set_option linter.unusedSimpArgs false

namespace LV
def shortAt (s : ByteArray) (p : Nat) : Option (ByteArray × Nat) :=
  match M.readVar s.data.toList p with
  | none => none
  | some (n, q) => if n ≤ 20000 ∧ q + n ≤ s.size then some (piece s q n, q + n) else none
theorem shortAt_some {s : ByteArray} {p q : Nat} {t : ByteArray} (hp : p ≤ s.size) (h : shortAt s p = some (t, q)) : p < q ∧ q ≤ s.size ∧ cutL s.data.toList p q = M.varL t.size ++ t.data.toList := by
  unfold shortAt at h
  cases hv : M.readVar s.data.toList p with
  | none => rw [hv] at h; simp at h
  | some x =>
    obtain ⟨n, b⟩ := x
    rw [hv] at h
    simp only at h
    split at h
    · rename_i hc
      simp only [Option.some.injEq, Prod.mk.injEq] at h
      obtain ⟨rfl, rfl⟩ := h
      have h1 := read_past _ _ _ _ hv
      refine ⟨by omega, hc.2, ?_⟩
      rw [piece_len s b n hc.2, ← read_canon hp hv]
      unfold piece
      rw [extract_cut, cutL_join _ p b (b + n) (by omega) (by omega)]
    · simp at h
theorem shortAt_none {s : ByteArray} {p : Nat} (h : M.readVar s.data.toList p = none) : shortAt s p = none := by unfold shortAt; rw [h]
theorem shortAt_no {s : ByteArray} {p n q : Nat} (h : M.readVar s.data.toList p = some (n, q)) (hn : ¬ (n ≤ 20000 ∧ q + n ≤ s.size)) : shortAt s p = none := by
  unfold shortAt
  rw [h]
  exact if_neg hn
theorem shortAt_yes {s : ByteArray} {p n q : Nat} (h : M.readVar s.data.toList p = some (n, q)) (hn : n ≤ 20000 ∧ q + n ≤ s.size) : shortAt s p = some (piece s q n, q + n) := by
  unfold shortAt
  rw [h]
  exact if_pos hn
theorem shortAt_size {s : ByteArray} {p q : Nat} {t : ByteArray} (h : shortAt s p = some (t, q)) : t.size ≤ s.size := by
  unfold shortAt at h
  cases hv : M.readVar s.data.toList p with
  | none => rw [hv] at h; simp at h
  | some x =>
    obtain ⟨n, b⟩ := x
    rw [hv] at h
    simp only at h
    split at h
    · simp only [Option.some.injEq, Prod.mk.injEq] at h
      rw [← h.1]
      exact piece_size s b n
    · simp at h
theorem toList_len (s : ByteArray) : s.data.toList.length = s.size := Array.length_toList
theorem bytes_eq {a b : ByteArray} (h : a.data.toList = b.data.toList) : a = b := ByteArray.ext (Array.toList_inj.1 h)
theorem shortAt_back (s t : ByteArray) (pre post : List UInt8) (ht : t.size ≤ 20000) (h : s.data.toList = pre ++ ((M.varL t.size ++ t.data.toList) ++ post)) : shortAt s pre.length = some (t, pre.length + (M.varL t.size ++ t.data.toList).length) := by
  have hr : M.readVar s.data.toList pre.length = some (t.size, pre.length + (M.varL t.size).length) := by
    rw [h, List.append_assoc]
    exact readVar_back pre _ t.size (by omega)
  have hsz := toList_len s
  have htl := toList_len t
  have hl : s.size = pre.length + (M.varL t.size).length + t.size + post.length := by
    rw [← hsz, h]
    simp only [List.length_append]
    omega
  rw [shortAt_yes hr ⟨ht, by omega⟩]
  have hp : piece s (pre.length + (M.varL t.size).length) t.size = t := by
    apply bytes_eq
    unfold piece
    rw [extract_cut, h]
    unfold cutL
    have e1 : (pre ++ ((M.varL t.size ++ t.data.toList) ++ post)).drop (pre.length + (M.varL t.size).length) = t.data.toList ++ post := by
      rw [← List.append_assoc, ← List.append_assoc, List.append_assoc (pre ++ M.varL t.size)]
      rw [← List.length_append]
      exact List.drop_left
    rw [e1]
    have e2 : pre.length + (M.varL t.size).length + t.size - (pre.length + (M.varL t.size).length) = t.data.toList.length := by omega
    rw [e2]
    exact List.take_left
  rw [hp]
  congr 2
  simp only [List.length_append]
  omega
end LV

/-- a short text that is read, or why not -/
theorem ReadShort_at (s : ByteArray) (x : Int) (p : Nat) (w : World) (hx : x = (p : Int)) (hs : s.size ≤ 1048576) (hp : p ≤ s.size) :
    Calls Tryz.prog 101 #[.string s, .int .i64 x] w fun e w' => (match LV.shortAt s p with
      | none => e = .returned (.tuple #[.string ⟨#[]⟩, .int .i64 0, .bool false])
      | some (t, q) => e = .returned (.tuple #[.string t, .int .i64 (q : Int), .bool true])) ∧ Below w.heap.size w w' := by
  subst hx
  cases hr : M.readVar s.data.toList p with
  | none =>
    rw [LV.shortAt_none hr]
    exact ReadShort_none s p w hs (.inr ⟨by omega, by simpa using hr⟩)
  | some y =>
    obtain ⟨n, q⟩ := y
    obtain ⟨hq, hN⟩ := read_bound s p n q hr
    by_cases hn : n ≤ 20000 ∧ q + n ≤ s.size
    · rw [LV.shortAt_yes hr hn]
      have h := ReadShort_yes s p n q w hs (show 0 ≤ (p : Int) ∧ (p : Int) ≤ (s.size : Int) from by omega) (show M.readVar s.data.toList (p : Int).toNat = some (n, q) from by simpa using hr) hn.1 hn.2
      have e : ((q + n : Nat) : Int) = (q : Int) + (n : Int) := by omega
      simp only [e]
      exact h
    · rw [LV.shortAt_no hr hn]
      exact ReadShort_no s p n q w hs (show 0 ≤ (p : Int) ∧ (p : Int) ≤ (s.size : Int) from by omega) (show M.readVar s.data.toList (p : Int).toNat = some (n, q) from by simpa using hr) hq hN hn

/-! the specification's reader -/
section
variable {W W' : World} {c p : Nat} {s : ByteArray} {b : Bool}
end

end Go.Proofs.YtfiapodjiifmaaaGreatDoor
/-
  Leaves as plain lists: when they are right, what putting and dropping makes of them, their text and what is read of a text.
-/
namespace Go.Proofs.YtfiapodjiifmaaaGreatDoor
set_option linter.unusedVariables false

structure Le where
  n : ByteArray
  v : ByteArray

namespace LV
open F (ltN ltN_eq ltN_irrefl ltN_trans ltN_tri ltN_ne ltN_asymm)

def leB (f : Le) : Bool := okB nameB f.n && okB valB f.v
def Srt (L : List Le) : Prop := L.Pairwise fun f g => ltN f.n g.n = true
def LOk (L : List Le) : Prop := L.length ≤ 24 ∧ (∀ f ∈ L, leB f = true) ∧ Srt L
open Classical in
noncomputable def leavesB (L : List Le) : Bool := decide (LOk L)
theorem leavesB_iff {L : List Le} : leavesB L = true ↔ LOk L := by simp [leavesB]
theorem leavesB_no {L : List Le} : leavesB L = false ↔ ¬ LOk L := by simp [leavesB]

/-- the first m leaves are right -/
def Upto (L : List Le) (m : Nat) : Prop := ∀ j (h : j < L.length), j < m → leB L[j] = true ∧ ∀ h0 : 0 < j, ltN (L[j - 1]'(by omega)).n L[j].n = true
theorem Upto.zero (L : List Le) : Upto L 0 := fun j _ h => by omega
theorem Upto.step {L : List Le} {m : Nat} (h : Upto L m) (hm : m < L.length) (h1 : leB L[m] = true) (h2 : ∀ h0 : 0 < m, ltN (L[m - 1]'(by omega)).n L[m].n = true) : Upto L (m + 1) := by
  intro j hj hlt
  rcases Nat.lt_or_ge j m with h3 | h3
  · exact h j hj h3
  · have : j = m := by omega
    subst this
    exact ⟨h1, h2⟩
theorem srt_of_adj {L : List Le} (h : ∀ j (hj : j < L.length) (h0 : 0 < j), ltN (L[j - 1]'(by omega)).n L[j].n = true) : Srt L := by
  unfold Srt
  rw [List.pairwise_iff_getElem]
  intro i j hi hj hij
  induction j with
  | zero => omega
  | succ j ih =>
    have h1 := h (j + 1) hj (by omega)
    rcases Nat.lt_or_ge i j with h2 | h2
    · exact ltN_trans (ih (by omega) h2) h1
    · have : i = j := by omega
      subst this
      exact h1
theorem Upto.ok {L : List Le} (h : Upto L L.length) (hl : L.length ≤ 24) : LOk L := by
  refine ⟨hl, fun f hf => ?_, srt_of_adj fun j hj h0 => (h j hj hj).2 h0⟩
  obtain ⟨j, hj, rfl⟩ := List.getElem_of_mem hf
  exact (h j hj hj).1
theorem LOk.srt_at {L : List Le} (h : Srt L) (i j : Nat) (hi : i < L.length) (hj : j < L.length) (hij : i < j) : ltN L[i].n L[j].n = true := by
  unfold Srt at h
  rw [List.pairwise_iff_getElem] at h
  exact h i j hi hj hij
theorem not_ok_le {L : List Le} {m : Nat} (hm : m < L.length) (h : leB L[m] = false) : ¬ LOk L := fun hd => by
  have := hd.2.1 L[m] (List.getElem_mem _)
  rw [h] at this
  cases this
theorem not_ok_adj {L : List Le} {m : Nat} (hm : m < L.length) (h0 : 0 < m) (h : ltN (L[m - 1]'(by omega)).n L[m].n = false) : ¬ LOk L := fun hd => by
  have := LOk.srt_at hd.2.2 (m - 1) m (by omega) hm (by omega)
  rw [h] at this
  cases this

/-! what is made of leaves -/
def put (L : List Le) (f : Le) : List Le := L.filter (fun g => ltN g.n f.n) ++ f :: L.filter (fun g => ltN f.n g.n)
def wout (L : List Le) (x : ByteArray) : List Le := L.filter fun g => !decide (g.n = x)
def find (L : List Le) (x : ByteArray) : Option Le := L.find? fun g => decide (g.n = x)

theorem find_some {L : List Le} {x : ByteArray} {f : Le} (h : find L x = some f) : f ∈ L ∧ f.n = x := ⟨List.mem_of_find?_eq_some h, by simpa using List.find?_some h⟩
theorem find_none {L : List Le} {x : ByteArray} (h : find L x = none) : ∀ f ∈ L, f.n ≠ x := by
  intro f hf
  have := List.find?_eq_none.1 h f hf
  simpa using this
theorem srt_inj {L : List Le} (h : Srt L) {f g : Le} (hf : f ∈ L) (hg : g ∈ L) (e : f.n = g.n) : f = g := by
  obtain ⟨i, hi, rfl⟩ := List.getElem_of_mem hf
  obtain ⟨j, hj, rfl⟩ := List.getElem_of_mem hg
  rcases Nat.lt_trichotomy i j with h1 | h1 | h1
  · exact absurd e (ltN_ne (LOk.srt_at h i j hi hj h1))
  · subst h1; rfl
  · exact absurd e.symm (ltN_ne (LOk.srt_at h j i hj hi h1))
theorem mem_put {L : List Le} {f g : Le} : g ∈ put L f ↔ g = f ∨ (g ∈ L ∧ g.n ≠ f.n) := by
  simp only [put, List.mem_append, List.mem_cons, List.mem_filter]
  constructor
  · rintro (⟨h1, h2⟩ | rfl | ⟨h1, h2⟩)
    · exact .inr ⟨h1, ltN_ne h2⟩
    · exact .inl rfl
    · exact .inr ⟨h1, (ltN_ne h2).symm⟩
  · rintro (rfl | ⟨h1, h2⟩)
    · exact .inr (.inl rfl)
    · rcases ltN_tri g.n f.n with h3 | h3 | h3
      · exact .inl ⟨h1, h3⟩
      · exact absurd h3 h2
      · exact .inr (.inr ⟨h1, h3⟩)
theorem mem_wout {L : List Le} {x : ByteArray} {g : Le} : g ∈ wout L x ↔ g ∈ L ∧ g.n ≠ x := by simp [wout]
theorem srt_wout {L : List Le} (h : Srt L) (x : ByteArray) : Srt (wout L x) := h.filter _
theorem srt_put {L : List Le} (h : Srt L) (f : Le) : Srt (put L f) := by
  unfold Srt put
  rw [List.pairwise_append]
  refine ⟨List.Pairwise.filter _ h, List.pairwise_cons.2 ⟨fun g hg => (List.mem_filter.1 hg).2, List.Pairwise.filter _ h⟩, ?_⟩
  intro a ha b hb
  have h1 := (List.mem_filter.1 ha).2
  rcases List.mem_cons.1 hb with rfl | hb
  · exact h1
  · exact ltN_trans h1 (List.mem_filter.1 hb).2
theorem len_split (L : List Le) (x : ByteArray) : (L.filter fun g => ltN g.n x).length + (L.filter fun g => ltN x g.n).length = (wout L x).length := by
  unfold wout
  induction L with
  | nil => rfl
  | cons g r ih =>
    simp only [List.filter_cons]
    rcases ltN_tri g.n x with h | h | h
    · rw [if_pos h, if_neg (by rw [ltN_asymm h]; simp), if_pos (by simpa using ltN_ne h)]
      simp only [List.length_cons]; omega
    · rw [h, if_neg (by rw [ltN_irrefl]; simp), if_neg (by rw [ltN_irrefl]; simp), if_neg (by simp)]
      exact ih
    · rw [if_neg (by rw [ltN_asymm h]; simp), if_pos h, if_pos (by simpa using (ltN_ne h).symm)]
      simp only [List.length_cons]; omega
theorem len_put (L : List Le) (f : Le) : (put L f).length = (wout L f.n).length + 1 := by
  have := len_split L f.n
  simp only [put, List.length_append, List.length_cons]
  omega
theorem wout_id {L : List Le} {x : ByteArray} (h : ∀ f ∈ L, f.n ≠ x) : wout L x = L := List.filter_eq_self.2 fun f hf => by simpa using h f hf
theorem len_wout_le (L : List Le) (x : ByteArray) : (wout L x).length ≤ L.length := List.length_filter_le _ _
theorem len_wout_lt {L : List Le} {x : ByteArray} {f : Le} (hf : f ∈ L) (hx : f.n = x) : (wout L x).length < L.length := by
  unfold wout
  refine List.length_filter_lt_length_iff_exists.2 ⟨f, hf, by simp [hx]⟩
theorem len_wout_eq : ∀ {L : List Le}, Srt L → ∀ {f : Le}, f ∈ L → (wout L f.n).length + 1 = L.length
  | [], _, f, hf => by simp at hf
  | g :: r, h, f, hf => by
    obtain ⟨h1, h2⟩ := List.pairwise_cons.1 h
    by_cases e : g.n = f.n
    · have hr : wout r f.n = r := wout_id fun x hx => by rw [← e]; exact (ltN_ne (h1 x hx)).symm
      have : wout (g :: r) f.n = wout r f.n := by unfold wout; rw [List.filter_cons, if_neg (by simp [e])]
      rw [this, hr]; rfl
    · have hfr : f ∈ r := by
        rcases List.mem_cons.1 hf with rfl | h3
        · exact absurd rfl e
        · exact h3
      have ih := len_wout_eq h2 hfr
      have : wout (g :: r) f.n = g :: wout r f.n := by unfold wout; rw [List.filter_cons, if_pos (by simp [e])]
      rw [this]
      simp only [List.length_cons]; omega
theorem srt_nodup {L : List Le} (h : Srt L) : L.Nodup := h.imp fun {a b} hab e => by subst e; rw [ltN_irrefl] at hab; cases hab
/-- two sorted lists of the same leaves are one -/
theorem srt_ext {L M : List Le} (hL : Srt L) (hM : Srt M) (h : ∀ f, f ∈ L ↔ f ∈ M) : L = M := by
  refine List.Perm.eq_of_pairwise (le := fun (f g : Le) => ltN f.n g.n = true) (fun a b _ _ h1 h2 => ?_) hL hM ((List.perm_ext_iff_of_nodup (srt_nodup hL) (srt_nodup hM)).2 h)
  rw [ltN_asymm h1] at h2
  cases h2

theorem ok_put {L : List Le} (h : Srt L) (hall : ∀ g ∈ L, leB g = true) (f : Le) (hf : leB f = true) (hl : (put L f).length ≤ 24) : LOk (put L f) := by
  refine ⟨hl, fun g hg => ?_, srt_put h f⟩
  rcases mem_put.1 hg with rfl | ⟨h1, _⟩
  · exact hf
  · exact hall g h1
theorem ok_wout {L : List Le} (h : LOk L) (x : ByteArray) : LOk (wout L x) := ⟨Nat.le_trans (len_wout_le _ _) h.1, fun g hg => h.2.1 g (mem_wout.1 hg).1, srt_wout h.2.2 x⟩
theorem len_put_in {L : List Le} (h : Srt L) {x : ByteArray} {f g : Le} (hf : find L x = some f) (hg : g.n = x) : (put L g).length = L.length := by
  obtain ⟨h1, h2⟩ := find_some hf
  rw [len_put, hg, ← h2]
  exact len_wout_eq h h1
theorem len_put_new {L : List Le} {x : ByteArray} {g : Le} (hf : find L x = none) (hg : g.n = x) : (put L g).length = L.length + 1 := by
  rw [len_put, hg, wout_id (find_none hf)]
theorem leB_of {L : List Le} {f : Le} (h : LOk (put L f)) : leB f = true := h.2.1 f (mem_put.2 (.inl rfl))

/-- may this leaf be put? -/
noncomputable def putB (L : List Le) (f : Le) : Bool := leavesB L && (leB f && ((find L f.n).isSome || decide (L.length < 24)))
/-- what is left of it -/
noncomputable def putR (L : List Le) (f : Le) : List Le := if putB L f then put L f else L
theorem putB_spec (L : List Le) (f : Le) : putB L f = (leavesB L && leavesB (put L f)) := by
  unfold putB
  cases h : leavesB L
  · rfl
  · have hok := leavesB_iff.1 h
    rw [Bool.true_and, Bool.true_and]
    by_cases hf : leB f = true
    · rw [hf, Bool.true_and]
      cases hq : find L f.n with
      | some g =>
        have hl := len_put_in hok.2.2 hq (g := f) rfl
        have := leavesB_iff.2 (ok_put hok.2.2 hok.2.1 f hf (by rw [hl]; exact hok.1))
        rw [this]
        rfl
      | none =>
        have hl := len_put_new hq (g := f) rfl
        rw [Option.isSome_none, Bool.false_or]
        by_cases hn : L.length < 24
        · rw [decide_eq_true hn, leavesB_iff.2 (ok_put hok.2.2 hok.2.1 f hf (by omega))]
        · rw [decide_eq_false hn]
          symm
          rw [leavesB_no]
          intro hd
          have := hd.1
          omega
    · have hf' : leB f = false := by simpa using hf
      rw [hf', Bool.false_and]
      symm
      rw [leavesB_no]
      intro hd
      rw [leB_of hd] at hf'
      cases hf'
theorem putB_ok {L : List Le} {f : Le} (h : putB L f = true) : LOk (put L f) := by
  rw [putB_spec, Bool.and_eq_true] at h
  exact leavesB_iff.1 h.2
noncomputable def dropB (L : List Le) (x : ByteArray) : Bool := leavesB L && (find L x).isSome
noncomputable def dropR (L : List Le) (x : ByteArray) : List Le := if dropB L x then wout L x else L
def getV (L : List Le) (x : ByteArray) : ByteArray := ((find L x).map Le.v).getD ⟨#[]⟩
def getB (L : List Le) (x : ByteArray) : Bool := (find L x).isSome

/-! their text -/
def leL (f : Le) : List UInt8 := M.varL f.n.size ++ (f.n.data.toList ++ (M.varL f.v.size ++ f.v.data.toList))
def ltL (L : List Le) : List UInt8 := L.flatMap leL
def lvL (L : List Le) : List UInt8 := M.varL L.length ++ ltL L
theorem ltL_snoc (L : List Le) (f : Le) : ltL (L ++ [f]) = ltL L ++ leL f := by simp [ltL]
theorem okB_size {p : UInt8 → Bool} {s : ByteArray} (h : okB p s = true) : 1 ≤ s.size ∧ s.size ≤ 12 := by
  unfold okB at h
  rw [Bool.and_eq_true] at h
  exact of_decide_eq_true h.1
theorem leB_sizes {f : Le} (h : leB f = true) : (1 ≤ f.n.size ∧ f.n.size ≤ 12) ∧ (1 ≤ f.v.size ∧ f.v.size ≤ 12) := by
  unfold leB at h
  rw [Bool.and_eq_true] at h
  exact ⟨okB_size h.1, okB_size h.2⟩
theorem leL_len {f : Le} (h : leB f = true) : (leL f).length ≤ 44 := by
  have h1 := leB_sizes h
  have h2 := M.varL_len f.n.size
  have h3 := M.varL_len f.v.size
  have h4 : f.n.data.toList.length = f.n.size := Array.length_toList
  have h5 : f.v.data.toList.length = f.v.size := Array.length_toList
  simp only [leL, List.length_append]
  omega
theorem ltL_len : ∀ {L : List Le}, (∀ f ∈ L, leB f = true) → (ltL L).length ≤ 44 * L.length
  | [], _ => by simp [ltL]
  | f :: r, h => by
    have h1 := leL_len (h f (by simp))
    have h2 := ltL_len (L := r) (fun g hg => h g (by simp [hg]))
    simp only [ltL, List.flatMap_cons, List.length_append, List.length_cons] at *
    omega

/-! what is read of a text -/
def leafAt (s : ByteArray) (p : Nat) : Option (Le × Nat) :=
  match shortAt s p with
  | none => none
  | some (n, q) => match shortAt s q with
    | none => none
    | some (v, r) => some (⟨n, v⟩, r)
def leavesF (s : ByteArray) : Nat → Nat → Option (List Le × Nat)
  | 0, p => some ([], p)
  | k + 1, p => match leafAt s p with
    | none => none
    | some (f, q) => match leavesF s k q with
      | none => none
      | some (l, r) => some (f :: l, r)
theorem leafAt_some {s : ByteArray} {p q : Nat} {f : Le} (hp : p ≤ s.size) (h : leafAt s p = some (f, q)) : p < q ∧ q ≤ s.size ∧ cutL s.data.toList p q = leL f := by
  unfold leafAt at h
  cases h1 : shortAt s p with
  | none => rw [h1] at h; simp at h
  | some x =>
    obtain ⟨n, b⟩ := x
    rw [h1] at h
    simp only at h
    obtain ⟨a1, a2, a3⟩ := shortAt_some hp h1
    cases h2 : shortAt s b with
    | none => rw [h2] at h; simp at h
    | some y =>
      obtain ⟨v, r⟩ := y
      rw [h2] at h
      simp only [Option.some.injEq, Prod.mk.injEq] at h
      obtain ⟨rfl, rfl⟩ := h
      obtain ⟨b1, b2, b3⟩ := shortAt_some a2 h2
      refine ⟨by omega, b2, ?_⟩
      rw [← cutL_join _ p b r (by omega) (by omega), a3, b3]
      simp [leL]
theorem leavesF_some {s : ByteArray} : ∀ {k p q : Nat} {l : List Le}, p ≤ s.size → leavesF s k p = some (l, q) → p ≤ q ∧ q ≤ s.size ∧ l.length = k ∧ cutL s.data.toList p q = ltL l
  | 0, p, q, l, hp, h => by
    simp only [leavesF, Option.some.injEq, Prod.mk.injEq] at h
    obtain ⟨rfl, rfl⟩ := h
    exact ⟨Nat.le_refl _, hp, rfl, by simp [cutL, ltL]⟩
  | k + 1, p, q, l, hp, h => by
    rw [leavesF] at h
    cases h1 : leafAt s p with
    | none => rw [h1] at h; simp at h
    | some x =>
      obtain ⟨f, b⟩ := x
      rw [h1] at h
      simp only at h
      obtain ⟨a1, a2, a3⟩ := leafAt_some hp h1
      cases h2 : leavesF s k b with
      | none => rw [h2] at h; simp at h
      | some y =>
        obtain ⟨m, r⟩ := y
        rw [h2] at h
        simp only [Option.some.injEq, Prod.mk.injEq] at h
        obtain ⟨rfl, rfl⟩ := h
        obtain ⟨b1, b2, b3, b4⟩ := leavesF_some a2 h2
        refine ⟨by omega, b2, by simp [b3], ?_⟩
        rw [← cutL_join _ p b r (by omega) (by omega), a3, b4]
        simp [ltL]
/-- one more behind -/
theorem leavesF_snoc (s : ByteArray) : ∀ (k p : Nat), leavesF s (k + 1) p = match leavesF s k p with
    | none => none
    | some (l, q) => match leafAt s q with
      | none => none
      | some (f, r) => some (l ++ [f], r)
  | 0, p => by
    rw [leavesF]
    cases h : leafAt s p with
    | none => simp [leavesF, h]
    | some x => obtain ⟨f, q⟩ := x; simp [leavesF, h]
  | k + 1, p => by
    rw [leavesF]
    cases h : leafAt s p with
    | none => simp [leavesF, h]
    | some x =>
      obtain ⟨f, q⟩ := x
      simp only
      rw [leavesF_snoc s k q]
      rw [leavesF, h]
      simp only
      cases h2 : leavesF s k q with
      | none => simp
      | some y =>
        obtain ⟨l, r⟩ := y
        simp only
        cases h3 : leafAt s r with
        | none => simp
        | some z => obtain ⟨g, t⟩ := z; simp
/-- once a leaf fails, none more are read -/
theorem leavesF_none {s : ByteArray} {m p : Nat} (h : leavesF s m p = none) : ∀ k, m ≤ k → leavesF s k p = none := by
  intro k hk
  induction k with
  | zero =>
    have : m = 0 := by omega
    subst this
    exact h
  | succ k ih =>
    rcases Nat.lt_or_ge k m with h1 | h1
    · have : m = k + 1 := by omega
      subst this
      exact h
    · rw [leavesF_snoc, ih h1]

open Classical in
/-- the leaves that a text tells, with the place behind them -/
noncomputable def atL (s : ByteArray) (p : Nat) : Option (List Le × Nat) :=
  match M.readVar s.data.toList p with
  | none => none
  | some (n, q) => if 24 < n then none else
    match leavesF s n q with
    | none => none
    | some (l, e) => if LOk l then some (l, e) else none
noncomputable def readL (s : ByteArray) : Option (List Le) :=
  match atL s 0 with
  | none => none
  | some (l, e) => if e = s.size then some l else none

end LV
end Go.Proofs.YtfiapodjiifmaaaGreatDoor
/-
  What the laws' own helpers do with leaves: taken over, compared, weighed.
-/
namespace Go.Proofs.YtfiapodjiifmaaaGreatDoor
open Go.RowKit Go.BigFrame Go.Sort
set_option linter.unusedVariables false
set_option linter.unusedSimpArgs false

def lcs (f : Le) : List Value := [.string f.n, .string f.v]
theorem lcs_len (f : Le) : (lcs f).length = 2 := rfl
theorem RS.leaf {w : World} {v : Value} {g o : Nat} {l : List Le} (h : RS 2 lcs w v g o l) (j : Nat) (hj : j < l.length) :
    w.cell? ⟨g, o + j * 2, none⟩ = some (.string l[j].n) ∧ w.cell? ⟨g, o + j * 2 + 1, none⟩ = some (.string l[j].v) := by
  obtain ⟨a, c, _, _, _, hc⟩ := h
  exact ⟨hc j hj 0 _ rfl, hc j hj 1 _ rfl⟩
theorem range2 {w : World} {g o : Nat} {u1 u2 : Value} (h1 : w.cell? ⟨g, o, none⟩ = some u1) (h2 : w.cell? ⟨g, o + 1, none⟩ = some u2) : w.rangeAt g o [u1, u2] := fun j v hv => by
  match j, hv with
  | 0, hv => simp at hv; subst hv; exact h1
  | 1, hv => simp at hv; subst hv; exact h2
theorem there2 {w : World} {g o : Nat} (h : w.there g o 2) : (∃ u, w.cell? ⟨g, o, none⟩ = some u) ∧ (∃ u, w.cell? ⟨g, o + 1, none⟩ = some u) ∧ w.frozen? ⟨g, o, none⟩ = false ∧ w.frozen? ⟨g, o + 1, none⟩ = false :=
  ⟨Option.isSome_iff_exists.1 (h 0 (by omega)).1, Option.isSome_iff_exists.1 (h 1 (by omega)).1, (h 0 (by omega)).2, (h 1 (by omega)).2⟩
theorem sizeLeaf : (Tryz.prog.info? 53).map (·.size) = some 2 := by kernel_rfl

theorem Tryz.infoLeaf : (Tryz.prog.info? 53).map (fun i => (i.zero, i.size, i.bytes)) = some (some (.agg #[.string ByteArray.empty, .string ByteArray.empty]), 2, 32) := by kernel_rfl
theorem there_new2 {W : World} {cs : Array Value} {T n : Nat} (h : cs.size = n * 2) (j : Nat) (hj : j < n) : (W.alloc (.cells cs T)).there W.heap.size (j * 2) 2 := by
  intro i hi
  have hg := Go.heap_alloc_new W (.cells cs T)
  refine ⟨?_, by unfold World.frozen?; simp only [hg]; simp⟩
  rw [cell_of_row _ W.heap.size (j * 2 + i) cs T (0, 0) hg, Array.getElem?_eq_getElem (by omega)]
  rfl
theorem made_leaves (n : Nat) (h : n ≤ 1100000) (W : World) : ∃ w', (Instr.makeSlice 24 (.int .i64 (n : Int)) (.int .i64 (n : Int))).run Tryz.prog W = .ok (.slice (some ⟨W.heap.size, 0, none⟩) n n) w' ∧ (∀ j, j < n → w'.there W.heap.size (j * 2) 2) ∧ Below W.heap.size W w' ∧ w'.heap.size = W.heap.size + 1 := by
  obtain ⟨i0, hi, hz0, hz1, hz2⟩ := info_parts Tryz.infoLeaf
  have h1 := run_make (P := Tryz.prog) W 24 53 i0 _ Tryz.underlying24 hi hz0 .i64 .i64 (n : Int) (n : Int) (by omega) (by omega) (by rw [hz2]; omega) (by omega)
  refine ⟨_, by simpa using h1, fun j hj => there_new2 ?_ j hj, (Below.refl _ _).alloc (Nat.le_refl _) _, by simp⟩
  rw [size_madeCells, hz1]

/-- the first m records of a new row are written -/
def ToL (w : World) (l : List Le) (B g : Nat) (i : Value) (wr : World) : Prop := ∃ m : Nat, m ≤ l.length ∧ i = .int .i64 m ∧ (∀ j (h : j < l.length), j < m → wr.rangeAt g (j * 2) (lcs l[j])) ∧ (∀ j, j < l.length → wr.there g (j * 2) 2) ∧ Below B w wr
theorem ToL.set {w wr : World} {l : List Le} {g m B : Nat} (hm : m < l.length) (hB : B ≤ g) (h1 : ∀ j (h : j < l.length), j < m → wr.rangeAt g (j * 2) (lcs l[j])) (h2 : ∀ j, j < l.length → wr.there g (j * 2) 2) (h3 : Below B w wr) :
    (∀ j (h : j < l.length), j < m + 1 → (wr.setCells g (m * 2) (lcs l[m])).rangeAt g (j * 2) (lcs l[j])) ∧ (∀ j, j < l.length → (wr.setCells g (m * 2) (lcs l[m])).there g (j * 2) 2) ∧ Below B w (wr.setCells g (m * 2) (lcs l[m])) := by
  refine ⟨fun j hj hlt => ?_, fun j hj => World.there_setCells (h2 j hj) _ _ _, ?_⟩
  · rcases Nat.lt_or_ge j m with h4 | h4
    · exact World.rangeAt_setCells_apart (h1 j hj h4) _ _ _ (.inr (.inl (by rw [lcs_len]; omega)))
    · have : j = m := by omega
      subst this
      exact World.rangeAt_setCells_same _ _ _ _ (h2 j hj)
  · exact below_setCells hB _ _ _ h3

def ElR (n : Nat) (w : World) (i : Value) (wr : World) : Prop := ∃ m : Nat, m ≤ n ∧ i = .int .i64 m ∧ Below w.heap.size w wr

/-- a row of leaves that was handed in, great or small: if it is small, it is l -/
def IsRowL (w : World) (v : Value) (g o : Nat) (l : List Le) : Prop := ∃ a n cap, v = .slice a n cap ∧ n ≤ 9223372036854775807 ∧ (n ≤ 1100000 → l.length = n ∧ RS 2 lcs w v g o l ∧ ∀ f ∈ l, f.n.size ≤ 9223372036854775807 ∧ f.v.size ≤ 9223372036854775807)
theorem IsRowL.later {w w' : World} {v : Value} {g o : Nat} {l : List Le} (h : IsRowL w v g o l) (hb : Below w.heap.size w w') : IsRowL w' v g o l := by
  obtain ⟨a, n, cap, hv, hn, hr⟩ := h
  exact ⟨a, n, cap, hv, hn, fun hl => ⟨(hr hl).1, (hr hl).2.1.later hb, (hr hl).2.2⟩⟩
/-- no text of it is great -/
def SmallL (l : List Le) : Prop := ∀ f ∈ l, f.n.size ≤ 1048576 ∧ f.v.size ≤ 1048576

def SzL (l : List Le) (x0 : Int) (w : World) (x i : Value) (wr : World) : Prop := ∃ (m : Nat) (y : Int), m ≤ l.length ∧ i = .int .i64 m ∧ x = .int .i64 y ∧ 0 ≤ y ∧ y ≤ x0 ∧ Hid (∀ j (h : j < l.length), j < m → l[j].n.size ≤ 1048576 ∧ l[j].v.size ≤ 1048576) ∧ Below w.heap.size w wr

end Go.Proofs.YtfiapodjiifmaaaGreatDoor
/-
  The library's own contract on strings.Compare, laid at this program: a table of numbers and one theorem.
-/
namespace Go.Proofs
open Go.Shelf
def Tryz.cmpStr_ren : Go.Shelf.Ren := ⟨fun | 106 => 73 | 213 => 92 | 265 => 106 | n => n, fun | 9 => 9 | 3 => 3 | n => n, fun | n => n⟩
theorem Tryz.cmpStr : Go.Proofs.Lays.n106 Tryz.prog Tryz.cmpStr_ren := {
  mixed := by kernel_rfl
  f106 := Tryz.func73.trans (congrArg some (by kernel_rfl))
  f213 := Tryz.func92.trans (congrArg some (by kernel_rfl))
  f265 := Tryz.func106.trans (congrArg some (by kernel_rfl))
  t3 := Tryz.underlying3
  a3 := Tryz.isAgg3
  z3 := Tryz.sizeOf3
  v3 := Tryz.zeroValue3
  t9 := Tryz.underlying9
  a9 := Tryz.isAgg9
  z9 := Tryz.sizeOf9
  v9 := Tryz.zeroValue9 }
end Go.Proofs
/-
  Two names compared; one leaf looked at, and copied.
-/
namespace Go.Proofs.YtfiapodjiifmaaaGreatDoor
open Go.RowKit Go.BigFrame Go.Sort Go.Shelf
set_option linter.unusedVariables false
set_option linter.unusedSimpArgs false

namespace LV
theorem cmp_lt : ∀ (x y : List UInt8), Lib.compareBytes x y < 0 ↔ x < y
  | [], [] => by simp [Lib.compareBytes]
  | [], b :: y => by simp [Lib.compareBytes]
  | a :: x, [] => by simp [Lib.compareBytes]
  | a :: x, b :: y => by
    rw [Lib.compareBytes, List.cons_lt_cons_iff]
    by_cases h1 : a < b
    · simp [h1]
    · by_cases h2 : b < a
      · have h3 : a ≠ b := fun e => by subst e; exact h1 h2
        simp [h1, h2, h3]
      · have h3 : a = b := by
          have : a.toNat = b.toNat := by
            rw [UInt8.lt_iff_toNat_lt] at h1 h2
            omega
          exact UInt8.toNat_inj.1 this
        subst h3
        simp [h1, cmp_lt x y]
/-- how two names compare -/
def cmpN (a b : ByteArray) : Int := Lib.compareBytes a.data.toList b.data.toList
theorem cmpN_lt (a b : ByteArray) : cmpN a b < 0 ↔ F.ltN a b = true := by
  rw [F.ltN_eq, decide_eq_true_eq, F.toList_data, F.toList_data]
  exact cmp_lt _ _
theorem cmpN_ge (a b : ByteArray) : 0 ≤ cmpN a b ↔ F.ltN a b = false := by
  have := cmpN_lt a b
  cases h : F.ltN a b
  · rw [h] at this
    constructor
    · intro _; rfl
    · intro _
      rcases Int.lt_or_le (cmpN a b) 0 with h1 | h1
      · exact absurd (this.1 h1) (by simp)
      · exact h1
  · rw [h] at this
    have := this.2 rfl
    constructor
    · intro h1; omega
    · intro h1; cases h1
end LV

theorem Compare_any (a b : ByteArray) (w : World) : Calls Tryz.prog 73 #[.string a, .string b] w fun e w' => e = .returned (.int .i64 (LV.cmpN a b)) ∧ w' = w := by
  have h := Any.strings_Compare Tryz.cmpStr a b w
  exact h

set_option maxHeartbeats 400000 in
/-- two blocks are laid: the leaves' boxes -/
theorem compareNames_grow (a b : Le) (W : World) : Calls Tryz.prog 50 #[.agg #[.string a.n, .string a.v], .agg #[.string b.n, .string b.v]] W fun e w' => e = .returned (.int .i64 (LV.cmpN a.n b.n)) ∧ ∃ q os', w' = grow (W.drewN q) os' := by
  obtain ⟨an, av⟩ := a
  obtain ⟨bn, bv⟩ := b
  have hcon := fun W' => Compare_any an bn W'
  simp only
  generalize LV.cmpN an bn = r at hcon ⊢
  go_enter Tryz.func50, Tryz.ntmps50
  go_wp2_with (go_at_call 73; refine (hcon _).mono ?_; rintro e w' ⟨rfl, rfl⟩)
  go_ret
  exact ⟨rfl, 0, _, by rw [alloc_eq_grow, alloc_eq_grow, grow_grow]; rfl⟩
theorem below_grow (W : World) (q : Nat) (os : Array Obj) : RowKit.Below W.heap.size W (grow (W.drewN q) os) := by
  have h : RowKit.Below W.heap.size W (W.drewN q) := ⟨rfl, rfl, rfl, Nat.le_refl _, fun _ _ => rfl⟩
  exact h.trans (below_regrown (W.drewN q) _ os)
theorem compareNames_any (a b : Le) (W : World) : Calls Tryz.prog 50 #[.agg #[.string a.n, .string a.v], .agg #[.string b.n, .string b.v]] W fun e w' => e = .returned (.int .i64 (LV.cmpN a.n b.n)) ∧ Below W.heap.size W w' :=
  (compareNames_grow a b W).mono fun e w' ⟨he, q, os, hw⟩ => ⟨he, hw ▸ below_grow W q os⟩

set_option maxHeartbeats 400000 in
theorem leafOk_any (f : Le) (w : World) (hn : f.n.size ≤ 1048576) (hv : f.v.size ≤ 1048576) : Calls Tryz.prog 49 #[.agg #[.string f.n, .string f.v]] w fun e w' => e = .returned (.bool (LV.leB f)) ∧ Below w.heap.size w w' := by
  obtain ⟨x, t⟩ := f
  have HB : Hid (Below w.heap.size w (w.alloc (.cells #[.string x, .string t] 53))) := (Below.refl _ _).alloc (Nat.le_refl _) _
  obtain ⟨b, hb⟩ : ∃ b, okB nameB x = b := ⟨_, rfl⟩
  obtain ⟨b2, hb2⟩ : ∃ b2, okB valB t = b2 := ⟨_, rfl⟩
  have HN : Hid (∀ W, Calls Tryz.prog 21 #[.string x] W fun e w' => e = .returned (.bool b) ∧ w' = W) := fun W => hb ▸ NameOk_any x W hn
  have HV : Hid (∀ W, Calls Tryz.prog 72 #[.string t] W fun e w' => e = .returned (.bool b2) ∧ w' = W) := fun W => hb2 ▸ ValueOk_any t W hv
  have HF : Hid (LV.leB ⟨x, t⟩ = (b && b2)) := by rw [← hb, ← hb2]; rfl
  rw [HF.out]
  clear HF hb hb2 hn hv
  go_enter Tryz.func49, Tryz.ntmps49
  go_wp2_with fail
  refine (HN.out _).mono ?_
  rintro e w1 ⟨rfl, rfl⟩
  clear HN
  cases b
  · go_wp2
    go_ret
    exact ⟨rfl, HB.out⟩
  · go_wp2_with fail
    refine (HV.out _).mono ?_
    rintro e w1 ⟨rfl, rfl⟩
    go_wp2
    go_ret
    exact ⟨rfl, HB.out⟩

end Go.Proofs.YtfiapodjiifmaaaGreatDoor
