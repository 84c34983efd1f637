/-
  Files and disks as plain lists: when a disk is right, what an act makes of it, as the program and as the document's model reckon it.
-/
import Derived.Test.YtibkmlfigcfeoaaDoorRows
import Derived.WalkKit
namespace Go.Proofs.YtibkmlfigcfeoaaDoor
set_option linter.unusedVariables false

structure Fl where
  n : ByteArray
  t : ByteArray
  k : Int

structure Ac where
  k : Int
  n : ByteArray
  t : ByteArray
  o : ByteArray

namespace F

theorem bytesLess_dec : ∀ (x y : List UInt8), Op.bytesLess x y = decide (x < y)
  | x, [] => by simp [Op.bytesLess]
  | [], b :: y => by simp [Op.bytesLess]
  | a :: x, b :: y => by
    rw [Op.bytesLess, bytesLess_dec x y]
    simp only [List.cons_lt_cons_iff, Bool.decide_or, Bool.decide_and]
    rfl

def ltN (a b : ByteArray) : Bool := Op.bytesLess a.toList b.toList
theorem toList_data (a : ByteArray) : a.toList = a.data.toList := ByteArray.toList_eq a
theorem toList_inj {a b : ByteArray} (h : a.toList = b.toList) : a = b := by
  rw [toList_data, toList_data] at h
  exact ByteArray.ext (Array.toList_inj.1 h)
theorem ltN_eq (a b : ByteArray) : ltN a b = decide (a.toList < b.toList) := bytesLess_dec _ _
theorem ltN_irrefl (a : ByteArray) : ltN a a = false := by rw [ltN_eq]; simp [List.lt_irrefl]
theorem ltN_trans {a b c : ByteArray} (h1 : ltN a b = true) (h2 : ltN b c = true) : ltN a c = true := by
  rw [ltN_eq, decide_eq_true_eq] at *
  exact List.lt_trans h1 h2
theorem ltN_tri (a b : ByteArray) : ltN a b = true ∨ a = b ∨ ltN b a = true := by
  rw [ltN_eq, ltN_eq, decide_eq_true_eq, decide_eq_true_eq]
  by_cases h : a.toList < b.toList
  · exact .inl h
  · by_cases h2 : b.toList < a.toList
    · exact .inr (.inr h2)
    · exact .inr (.inl (toList_inj (List.le_antisymm h2 h)))
theorem ltN_ne {a b : ByteArray} (h : ltN a b = true) : a ≠ b := by
  rintro rfl
  rw [ltN_irrefl] at h
  cases h
theorem ltN_asymm {a b : ByteArray} (h : ltN a b = true) : ltN b a = false := by
  cases hb : ltN b a
  · rfl
  · have := ltN_trans h hb
    rw [ltN_irrefl] at this
    cases this

def nmB (a : ByteArray) : Bool := decide (1 ≤ a.size ∧ a.size ≤ 8)
def flB (f : Fl) : Bool := nmB f.n && decide (f.t.size ≤ 20000 ∧ 0 ≤ f.k ∧ f.k ≤ f.t.size)
theorem flB_iff {f : Fl} : flB f = true ↔ nmB f.n = true ∧ f.t.size ≤ 20000 ∧ 0 ≤ f.k ∧ f.k ≤ f.t.size := by simp [flB]
def Srt (L : List Fl) : Prop := L.Pairwise fun f g => ltN f.n g.n = true
def DOk (L : List Fl) : Prop := L.length ≤ 30 ∧ (∀ f ∈ L, flB f = true) ∧ Srt L
open Classical in
noncomputable def diskB (L : List Fl) : Bool := decide (DOk L)
theorem diskB_iff {L : List Fl} : diskB L = true ↔ DOk L := by simp [diskB]
theorem diskB_no {L : List Fl} : diskB L = false ↔ ¬ DOk L := by simp [diskB]

/-- the first m files are right -/
def Upto (L : List Fl) (m : Nat) : Prop := ∀ j (h : j < L.length), j < m → flB L[j] = true ∧ ∀ h0 : 0 < j, ltN (L[j - 1]'(by omega)).n L[j].n = true
theorem Upto.zero (L : List Fl) : Upto L 0 := fun j _ h => by omega
theorem Upto.step {L : List Fl} {m : Nat} (h : Upto L m) (hm : m < L.length) (h1 : flB L[m] = true) (h2 : ∀ h0 : 0 < m, ltN (L[m - 1]'(by omega)).n L[m].n = true) : Upto L (m + 1) := by
  intro j hj hlt
  rcases Nat.lt_or_ge j m with h3 | h3
  · exact h j hj h3
  · have : j = m := by omega
    subst this
    exact ⟨h1, h2⟩
theorem srt_of_adj {L : List Fl} (h : ∀ j (hj : j < L.length) (h0 : 0 < j), ltN (L[j - 1]'(by omega)).n L[j].n = true) : Srt L := by
  unfold Srt
  rw [List.pairwise_iff_getElem]
  intro i j hi hj hij
  induction j with
  | zero => omega
  | succ j ih =>
    have h1 := h (j + 1) hj (by omega)
    rcases Nat.lt_or_ge i j with h2 | h2
    · exact ltN_trans (ih (by omega) h2) h1
    · have : i = j := by omega
      subst this
      exact h1
theorem Upto.ok {L : List Fl} (h : Upto L L.length) (hl : L.length ≤ 30) : DOk L := by
  refine ⟨hl, fun f hf => ?_, srt_of_adj fun j hj h0 => (h j hj hj).2 h0⟩
  obtain ⟨j, hj, rfl⟩ := List.getElem_of_mem hf
  exact (h j hj hj).1
theorem DOk.srt_at {L : List Fl} (h : Srt L) (i j : Nat) (hi : i < L.length) (hj : j < L.length) (hij : i < j) : ltN L[i].n L[j].n = true := by
  unfold Srt at h
  rw [List.pairwise_iff_getElem] at h
  exact h i j hi hj hij
theorem not_ok_fl {L : List Fl} {m : Nat} (hm : m < L.length) (h : flB L[m] = false) : ¬ DOk L := fun hd => by
  have := hd.2.1 L[m] (List.getElem_mem _)
  rw [h] at this
  cases this
theorem not_ok_adj {L : List Fl} {m : Nat} (hm : m < L.length) (h0 : 0 < m) (h : ltN (L[m - 1]'(by omega)).n L[m].n = false) : ¬ DOk L := fun hd => by
  have := DOk.srt_at hd.2.2 (m - 1) m (by omega) hm (by omega)
  rw [h] at this
  cases this

/-! what acts make of a disk -/
def put (L : List Fl) (f : Fl) : List Fl := L.filter (fun g => ltN g.n f.n) ++ f :: L.filter (fun g => ltN f.n g.n)
def wout (L : List Fl) (x : ByteArray) : List Fl := L.filter fun g => !decide (g.n = x)
def find (L : List Fl) (x : ByteArray) : Option Fl := L.find? fun g => decide (g.n = x)

theorem find_some {L : List Fl} {x : ByteArray} {f : Fl} (h : find L x = some f) : f ∈ L ∧ f.n = x := ⟨List.mem_of_find?_eq_some h, by simpa using List.find?_some h⟩
theorem find_none {L : List Fl} {x : ByteArray} (h : find L x = none) : ∀ f ∈ L, f.n ≠ x := by
  intro f hf
  have := List.find?_eq_none.1 h f hf
  simpa using this
theorem srt_inj {L : List Fl} (h : Srt L) {f g : Fl} (hf : f ∈ L) (hg : g ∈ L) (e : f.n = g.n) : f = g := by
  obtain ⟨i, hi, rfl⟩ := List.getElem_of_mem hf
  obtain ⟨j, hj, rfl⟩ := List.getElem_of_mem hg
  rcases Nat.lt_trichotomy i j with h1 | h1 | h1
  · exact absurd e (ltN_ne (DOk.srt_at h i j hi hj h1))
  · subst h1; rfl
  · exact absurd e.symm (ltN_ne (DOk.srt_at h j i hj hi h1))
theorem mem_put {L : List Fl} {f g : Fl} : g ∈ put L f ↔ g = f ∨ (g ∈ L ∧ g.n ≠ f.n) := by
  simp only [put, List.mem_append, List.mem_cons, List.mem_filter]
  constructor
  · rintro (⟨h1, h2⟩ | rfl | ⟨h1, h2⟩)
    · exact .inr ⟨h1, ltN_ne h2⟩
    · exact .inl rfl
    · exact .inr ⟨h1, (ltN_ne h2).symm⟩
  · rintro (rfl | ⟨h1, h2⟩)
    · exact .inr (.inl rfl)
    · rcases ltN_tri g.n f.n with h3 | h3 | h3
      · exact .inl ⟨h1, h3⟩
      · exact absurd h3 h2
      · exact .inr (.inr ⟨h1, h3⟩)
theorem mem_wout {L : List Fl} {x : ByteArray} {g : Fl} : g ∈ wout L x ↔ g ∈ L ∧ g.n ≠ x := by simp [wout]
theorem srt_wout {L : List Fl} (h : Srt L) (x : ByteArray) : Srt (wout L x) := h.filter _
theorem srt_put {L : List Fl} (h : Srt L) (f : Fl) : Srt (put L f) := by
  unfold Srt put
  rw [List.pairwise_append]
  refine ⟨List.Pairwise.filter _ h, List.pairwise_cons.2 ⟨fun g hg => (List.mem_filter.1 hg).2, List.Pairwise.filter _ h⟩, ?_⟩
  intro a ha b hb
  have h1 := (List.mem_filter.1 ha).2
  rcases List.mem_cons.1 hb with rfl | hb
  · exact h1
  · exact ltN_trans h1 (List.mem_filter.1 hb).2
theorem len_split (L : List Fl) (x : ByteArray) : (L.filter fun g => ltN g.n x).length + (L.filter fun g => ltN x g.n).length = (wout L x).length := by
  unfold wout
  induction L with
  | nil => rfl
  | cons g r ih =>
    simp only [List.filter_cons]
    rcases ltN_tri g.n x with h | h | h
    · rw [if_pos h, if_neg (by rw [ltN_asymm h]; simp), if_pos (by simpa using ltN_ne h)]
      simp only [List.length_cons]; omega
    · rw [h, if_neg (by rw [ltN_irrefl]; simp), if_neg (by rw [ltN_irrefl]; simp), if_neg (by simp)]
      exact ih
    · rw [if_neg (by rw [ltN_asymm h]; simp), if_pos h, if_pos (by simpa using (ltN_ne h).symm)]
      simp only [List.length_cons]; omega
theorem len_put (L : List Fl) (f : Fl) : (put L f).length = (wout L f.n).length + 1 := by
  have := len_split L f.n
  simp only [put, List.length_append, List.length_cons]
  omega
theorem wout_id {L : List Fl} {x : ByteArray} (h : ∀ f ∈ L, f.n ≠ x) : wout L x = L := List.filter_eq_self.2 fun f hf => by simpa using h f hf
theorem len_wout_le (L : List Fl) (x : ByteArray) : (wout L x).length ≤ L.length := List.length_filter_le _ _
theorem len_wout_lt {L : List Fl} {x : ByteArray} {f : Fl} (hf : f ∈ L) (hx : f.n = x) : (wout L x).length < L.length := by
  unfold wout
  refine List.length_filter_lt_length_iff_exists.2 ⟨f, hf, by simp [hx]⟩
theorem len_wout_eq : ∀ {L : List Fl}, Srt L → ∀ {f : Fl}, f ∈ L → (wout L f.n).length + 1 = L.length
  | [], _, f, hf => by simp at hf
  | g :: r, h, f, hf => by
    obtain ⟨h1, h2⟩ := List.pairwise_cons.1 h
    by_cases e : g.n = f.n
    · have hr : wout r f.n = r := wout_id fun x hx => by rw [← e]; exact (ltN_ne (h1 x hx)).symm
      have : wout (g :: r) f.n = wout r f.n := by unfold wout; rw [List.filter_cons, if_neg (by simp [e])]
      rw [this, hr]; rfl
    · have hfr : f ∈ r := by
        rcases List.mem_cons.1 hf with rfl | h3
        · exact absurd rfl e
        · exact h3
      have ih := len_wout_eq h2 hfr
      have : wout (g :: r) f.n = g :: wout r f.n := by unfold wout; rw [List.filter_cons, if_pos (by simp [e])]
      rw [this]
      simp only [List.length_cons]; omega
theorem srt_nodup {L : List Fl} (h : Srt L) : L.Nodup := h.imp fun {a b} hab e => by subst e; rw [ltN_irrefl] at hab; cases hab
/-- two sorted lists of the same files are one -/
theorem srt_ext {L M : List Fl} (hL : Srt L) (hM : Srt M) (h : ∀ f, f ∈ L ↔ f ∈ M) : L = M := by
  refine List.Perm.eq_of_pairwise (le := fun (f g : Fl) => ltN f.n g.n = true) (fun a b _ _ h1 h2 => ?_) hL hM ((List.perm_ext_iff_of_nodup (srt_nodup hL) (srt_nodup hM)).2 h)
  rw [ltN_asymm h1] at h2
  cases h2

def addL (L : List Fl) (x t : ByteArray) : Option (List Fl) :=
  match find L x with
  | none => if 30 ≤ L.length ∨ nmB x = false ∨ 20000 < t.size then none else some (put L ⟨x, t, 0⟩)
  | some f => if 20000 < f.t.size + t.size then none else some (put L ⟨x, f.t ++ t, f.k⟩)
def keepL (L : List Fl) (x : ByteArray) : Option (List Fl) :=
  match find L x with
  | none => none
  | some f => some (put L ⟨x, f.t, f.t.size⟩)
def moveL (L : List Fl) (x o : ByteArray) : Option (List Fl) :=
  match find L x with
  | none => none
  | some f => if f.k ≠ f.t.size ∨ o = x ∨ nmB o = false then none else some (put (wout L x) ⟨o, f.t, f.k⟩)
def dropL (L : List Fl) (x : ByteArray) : Option (List Fl) :=
  match find L x with
  | none => none
  | some f => some (wout L x)
/-- an act as the program does it -/
def doL (L : List Fl) (a : Ac) : Option (List Fl) :=
  if (a.k ≠ 1 ∧ a.t.size ≠ 0) ∨ (a.k ≠ 3 ∧ a.o.size ≠ 0) then none
  else if a.k = 1 then addL L a.n a.t
  else if a.k = 2 then keepL L a.n
  else if a.k = 3 then moveL L a.n a.o
  else if a.k = 4 then dropL L a.n
  else none

theorem nmB_find {L : List Fl} (h : DOk L) {x : ByteArray} {f : Fl} (hf : find L x = some f) : nmB x = true := by
  obtain ⟨h1, rfl⟩ := find_some hf
  exact (flB_iff.1 (h.2.1 f h1)).1
theorem ok_put {L : List Fl} (h : Srt L) (hall : ∀ g ∈ L, flB g = true) (f : Fl) (hf : flB f = true) (hl : (put L f).length ≤ 30) : DOk (put L f) := by
  refine ⟨hl, fun g hg => ?_, srt_put h f⟩
  rcases mem_put.1 hg with rfl | ⟨h1, _⟩
  · exact hf
  · exact hall g h1
theorem ok_wout {L : List Fl} (h : DOk L) (x : ByteArray) : DOk (wout L x) := ⟨Nat.le_trans (len_wout_le _ _) h.1, fun g hg => h.2.1 g (mem_wout.1 hg).1, srt_wout h.2.2 x⟩
theorem len_put_in {L : List Fl} (h : Srt L) {x : ByteArray} {f g : Fl} (hf : find L x = some f) (hg : g.n = x) : (put L g).length = L.length := by
  obtain ⟨h1, h2⟩ := find_some hf
  rw [len_put, hg, ← h2]
  exact len_wout_eq h h1
theorem len_put_new {L : List Fl} {x : ByteArray} {g : Fl} (hf : find L x = none) (hg : g.n = x) : (put L g).length = L.length + 1 := by
  rw [len_put, hg, wout_id (find_none hf)]

theorem addL_ok {L M : List Fl} {x t : ByteArray} (h : DOk L) (hM : addL L x t = some M) : DOk M := by
  unfold addL at hM
  cases hf : find L x with
  | none =>
    rw [hf] at hM
    simp only at hM
    split at hM
    · cases hM
    · rename_i hc
      cases hM
      have hc' : ¬ 30 ≤ L.length ∧ ¬ nmB x = false ∧ ¬ 20000 < t.size := ⟨fun e => hc (.inl e), fun e => hc (.inr (.inl e)), fun e => hc (.inr (.inr e))⟩
      refine ok_put h.2.2 h.2.1 _ (flB_iff.2 ⟨by simpa using hc'.2.1, by show t.size ≤ 20000; omega, Int.le_refl _, by show (0 : Int) ≤ t.size; omega⟩) ?_
      rw [len_put_new hf rfl]; omega
  | some f =>
    rw [hf] at hM
    simp only at hM
    split at hM
    · cases hM
    · rename_i hc
      cases hM
      have h1 := flB_iff.1 (h.2.1 f (find_some hf).1)
      refine ok_put h.2.2 h.2.1 _ (flB_iff.2 ⟨nmB_find h hf, by show (f.t ++ t).size ≤ 20000; rw [ByteArray.size_append]; omega, h1.2.2.1, by show f.k ≤ ((f.t ++ t).size : Int); rw [ByteArray.size_append]; omega⟩) ?_
      rw [len_put_in h.2.2 hf rfl]; exact h.1
theorem keepL_ok {L M : List Fl} {x : ByteArray} (h : DOk L) (hM : keepL L x = some M) : DOk M := by
  unfold keepL at hM
  cases hf : find L x with
  | none => rw [hf] at hM; cases hM
  | some f =>
    rw [hf] at hM
    cases hM
    have h1 := flB_iff.1 (h.2.1 f (find_some hf).1)
    refine ok_put h.2.2 h.2.1 _ (flB_iff.2 ⟨nmB_find h hf, h1.2.1, by show (0 : Int) ≤ f.t.size; omega, Int.le_refl _⟩) ?_
    rw [len_put_in h.2.2 hf rfl]; exact h.1
theorem moveL_ok {L M : List Fl} {x o : ByteArray} (h : DOk L) (hM : moveL L x o = some M) : DOk M := by
  unfold moveL at hM
  cases hf : find L x with
  | none => rw [hf] at hM; cases hM
  | some f =>
    rw [hf] at hM
    simp only at hM
    split at hM
    · cases hM
    · rename_i hc
      cases hM
      obtain ⟨hm, hn⟩ := find_some hf
      have h1 := flB_iff.1 (h.2.1 f hm)
      have hc' : ¬ nmB o = false := fun e => hc (.inr (.inr e))
      refine ok_put (srt_wout h.2.2 x) (ok_wout h x).2.1 _ (flB_iff.2 ⟨by simpa using hc', h1.2.1, h1.2.2.1, h1.2.2.2⟩) ?_
      rw [len_put]
      have h2 := len_wout_le (wout L x) o
      have h3 := len_wout_lt hm hn
      have h4 := h.1
      show (wout (wout L x) o).length + 1 ≤ 30
      omega
theorem dropL_ok {L M : List Fl} {x : ByteArray} (h : DOk L) (hM : dropL L x = some M) : DOk M := by
  unfold dropL at hM
  cases hf : find L x with
  | none => rw [hf] at hM; cases hM
  | some f =>
    rw [hf] at hM
    cases hM
    exact ok_wout h x
theorem doL_ok {L M : List Fl} {a : Ac} (h : DOk L) (hM : doL L a = some M) : DOk M := by
  unfold doL at hM
  split at hM
  · cases hM
  · split at hM
    · exact addL_ok h hM
    · split at hM
      · exact keepL_ok h hM
      · split at hM
        · exact moveL_ok h hM
        · split at hM
          · exact dropL_ok h hM
          · cases hM

/-! the model makes the same of it: it puts first and looks at the whole disk behind -/
theorem flB_of {L : List Fl} {f : Fl} (h : DOk (put L f)) : flB f = true := h.2.1 f (mem_put.2 (.inl rfl))
theorem spec_new {L : List Fl} {x t : ByteArray} (h : DOk L) (hn : nmB x = true) (hf : find L x = none) : addL L x t = if diskB (put L ⟨x, t, 0⟩) then some (put L ⟨x, t, 0⟩) else none := by
  unfold addL
  rw [hf]
  simp only
  by_cases hc : 30 ≤ L.length ∨ nmB x = false ∨ 20000 < t.size
  · rw [if_pos hc, if_neg]
    rw [diskB_iff]
    intro hd
    have h1 := len_put_new (g := ⟨x, t, 0⟩) hf rfl
    have h2 := hd.1
    have h3 := (flB_iff.1 (flB_of hd)).2.1
    rcases hc with h4 | h4 | h4
    · omega
    · rw [hn] at h4; cases h4
    · simp only at h3; omega
  · rw [if_neg hc, if_pos]
    rw [diskB_iff]
    exact addL_ok h (show addL L x t = some (put L ⟨x, t, 0⟩) by unfold addL; rw [hf]; simp only; rw [if_neg hc])
theorem spec_more {L : List Fl} {x t : ByteArray} {f : Fl} (h : DOk L) (hf : find L x = some f) : addL L x t = if diskB (put L ⟨f.n, f.t ++ t, f.k⟩) then some (put L ⟨f.n, f.t ++ t, f.k⟩) else none := by
  rw [(find_some hf).2]
  unfold addL
  rw [hf]
  simp only
  by_cases hc : 20000 < f.t.size + t.size
  · rw [if_pos hc, if_neg]
    rw [diskB_iff]
    intro hd
    have h3 := (flB_iff.1 (flB_of hd)).2.1
    simp only [ByteArray.size_append] at h3
    omega
  · rw [if_neg hc, if_pos]
    rw [diskB_iff]
    exact addL_ok h (show addL L x t = some (put L ⟨x, f.t ++ t, f.k⟩) by unfold addL; rw [hf]; simp only; rw [if_neg hc])
theorem spec_keep {L : List Fl} {x : ByteArray} {f : Fl} (h : DOk L) (hf : find L x = some f) : keepL L x = some (put L ⟨f.n, f.t, f.t.size⟩) ∧ diskB (put L ⟨f.n, f.t, f.t.size⟩) = true := by
  rw [(find_some hf).2]
  have e : keepL L x = some (put L ⟨x, f.t, f.t.size⟩) := by unfold keepL; rw [hf]
  exact ⟨e, diskB_iff.2 (keepL_ok h e)⟩
theorem spec_move {L : List Fl} {x o : ByteArray} {f : Fl} (h : DOk L) (hf : find L x = some f) (h1 : ¬ f.k < f.t.size) (h2 : o ≠ x) (h3 : nmB o = true) : moveL L x o = some (put (wout L x) ⟨o, f.t, f.k⟩) ∧ diskB (put (wout L x) ⟨o, f.t, f.k⟩) = true := by
  have hk := (flB_iff.1 (h.2.1 f (find_some hf).1)).2.2.2
  have e : moveL L x o = some (put (wout L x) ⟨o, f.t, f.k⟩) := by
    unfold moveL
    rw [hf]
    simp only
    rw [if_neg]
    rintro (h4 | h4 | h4)
    · omega
    · exact h2 h4
    · rw [h3] at h4; cases h4
  exact ⟨e, diskB_iff.2 (moveL_ok h e)⟩
theorem spec_moveno {L : List Fl} {x o : ByteArray} {f : Fl} (hf : find L x = some f) (h1 : f.k < f.t.size ∨ o = x ∨ nmB o = false) : moveL L x o = none := by
  unfold moveL
  rw [hf]
  simp only
  rw [if_pos]
  rcases h1 with h | h | h
  · exact .inl (by omega)
  · exact .inr (.inl h)
  · exact .inr (.inr h)
theorem spec_drop {L : List Fl} {x : ByteArray} {f : Fl} (h : DOk L) (hf : find L x = some f) : dropL L x = some (wout L x) ∧ diskB (wout L x) = true := by
  have e : dropL L x = some (wout L x) := by unfold dropL; rw [hf]
  exact ⟨e, diskB_iff.2 (dropL_ok h e)⟩
theorem doL_none {L : List Fl} {a : Ac} (hf : find L a.n = none) (h1 : a.k ≠ 1) : doL L a = none := by
  unfold doL keepL moveL dropL
  rw [hf, if_neg h1]
  simp only
  repeat' split
  all_goals rfl
theorem doL_name {L : List Fl} (h : DOk L) {a : Ac} (hn : nmB a.n = false) : doL L a = none := by
  have hf : find L a.n = none := by
    cases hf : find L a.n with
    | none => rfl
    | some f => rw [nmB_find h hf] at hn; cases hn
  by_cases h1 : a.k = 1
  · unfold doL addL
    rw [hf, if_pos h1]
    split
    · rfl
    · simp only
      rw [if_pos (.inr (.inl hn))]
  · exact doL_none hf h1

/-- an act, or nothing where the disk is not right -/
noncomputable def actR (L : List Fl) (a : Ac) : Option (List Fl) := if diskB L then doL L a else none
/-- acts one by one till one is false: what is left, and how many were done -/
noncomputable def actsR (L : List Fl) : List Ac → List Fl × Nat
  | [] => (L, 0)
  | a :: r => match actR L a with
    | none => (L, 0)
    | some M => ((actsR M r).1, (actsR M r).2 + 1)

/-- what is left of a file when the power goes -/
def cutN (f : Fl) (n : Int) : Int := if (if n > f.t.size then (f.t.size : Int) else n) < f.k then f.k else (if n > f.t.size then (f.t.size : Int) else n)
def cutF (f : Fl) (n : Int) : Fl := ⟨f.n, f.t.extract 0 (cutN f n).toNat, cutN f n⟩
def cutL : List Fl → List Int → List Fl
  | [], _ => []
  | f :: r, [] => cutF f 0 :: cutL r []
  | f :: r, n :: q => cutF f n :: cutL r q
theorem cutN_in {f : Fl} (h : flB f = true) (n : Int) : 0 ≤ cutN f n ∧ cutN f n ≤ f.t.size := by
  have := flB_iff.1 h
  unfold cutN
  repeat' split
  all_goals omega
theorem cutN_min {f : Fl} (h : flB f = true) (n : Int) : min (max n f.k) f.t.size = cutN f n := by
  have := flB_iff.1 h
  unfold cutN
  repeat' split
  all_goals omega

end F
end Go.Proofs.YtibkmlfigcfeoaaDoor
