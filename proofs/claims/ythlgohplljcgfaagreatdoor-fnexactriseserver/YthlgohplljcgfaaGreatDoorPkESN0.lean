/-
  Texts laid together: Math, Own, Dk, Fs.
-/
import Derived.Test.YthlgohplljcgfaaGreatDoorRows
import Derived.WalkKit
import Derived.Deep.MidRow
import Derived.Deep.QuietTactic
/-
  Plain facts on numbers in bytes: how VarText writes a number, and how it is read again.
-/
namespace Go.Proofs.YthlgohplljcgfaaGreatDoor.M

def varF : Nat → Nat → List UInt8
  | 0, n => [UInt8.ofNat n]
  | f + 1, n => if n ≤ 127 then [UInt8.ofNat n] else UInt8.ofNat (n % 128 + 128) :: varF f (n / 128)

def varL (n : Nat) : List UInt8 := varF 9 n

theorem varF_small (f n : Nat) (h : n ≤ 127) : varF f n = [UInt8.ofNat n] := by
  cases f with
  | zero => rfl
  | succ f => simp [varF, h]

theorem varF_big (f n : Nat) (h : 127 < n) : varF (f + 1) n = UInt8.ofNat (n % 128 + 128) :: varF f (n / 128) := by
  simp [varF]; omega

theorem varF_len (f n : Nat) : (varF f n).length ≤ f + 1 := by
  induction f generalizing n with
  | zero => simp [varF]
  | succ f ih =>
    simp only [varF]
    split
    · simp
    · have := ih (n / 128); simp; omega

theorem varL_len (n : Nat) : (varL n).length ≤ 10 := varF_len 9 n

/-- the value of bytes, seven bits each, the lowest first -/
def val : List UInt8 → Nat
  | [] => 0
  | b :: r => b.toNat % 128 + 128 * val r

/-- all but the last have their highest bit, the last has it not -/
def shaped : List UInt8 → Prop
  | [] => False
  | [b] => b.toNat < 128
  | b :: c :: r => 128 ≤ b.toNat ∧ shaped (c :: r)

theorem ofNat_toNat (b : UInt8) (n : Nat) (h : n = b.toNat) : UInt8.ofNat n = b := by
  subst h; simp

theorem val_zero : ∀ (l : List UInt8), shaped l → val l = 0 → ∃ a : UInt8, l.getLast? = some a ∧ a = 0
  | [], h, _ => h.elim
  | [b], h, hv => by
    simp only [shaped] at h
    simp only [val] at hv
    exact ⟨b, rfl, by
      have : b.toNat = 0 := by omega
      exact UInt8.toNat_inj.1 (by simpa using this)⟩
  | b :: c :: r, h, hv => by
    simp only [shaped] at h
    have hv' : val (c :: r) = 0 := by
      rw [val] at hv
      omega
    obtain ⟨a, ha, h0⟩ := val_zero (c :: r) h.2 hv'
    exact ⟨a, by simpa using ha, h0⟩

theorem val_pos : ∀ (l : List UInt8), shaped l → l.getLast? ≠ some 0 → 1 ≤ val l := by
  intro l h hl
  rcases Nat.eq_zero_or_pos (val l) with h0 | h0
  · obtain ⟨a, ha, rfl⟩ := val_zero l h h0
    exact absurd ha hl
  · exact h0

theorem canon : ∀ (f : Nat) (l : List UInt8), shaped l → l.length ≤ f + 1 → (varF f (val l) = l ↔ (l.length = 1 ∨ l.getLast? ≠ some 0))
  | f, [], h, _ => h.elim
  | f, [b], h, _ => by
    simp only [shaped] at h
    have e : val [b] = b.toNat := by simp only [val]; omega
    rw [e, varF_small f _ (by omega)]
    simp
  | 0, b :: c :: r, h, hl => by simp at hl
  | f + 1, b :: c :: r, h, hl => by
    simp only [shaped] at h
    have hv : val (b :: c :: r) = b.toNat % 128 + 128 * val (c :: r) := rfl
    have hb : b.toNat < 256 := b.toNat_lt
    have ih := canon f (c :: r) h.2 (by simp at hl ⊢; omega)
    have hlast : (b :: c :: r).getLast? = (c :: r).getLast? := by simp
    rcases Nat.eq_zero_or_pos (val (c :: r)) with h0 | h0
    · obtain ⟨a, ha, rfl⟩ := val_zero _ h.2 h0
      rw [hv, h0, varF_small _ _ (by omega), hlast, ha]
      simp
    · rw [hv, varF_big _ _ (by omega)]
      have e1 : (b.toNat % 128 + 128 * val (c :: r)) / 128 = val (c :: r) := by omega
      have e2 : UInt8.ofNat ((b.toNat % 128 + 128 * val (c :: r)) % 128 + 128) = b := ofNat_toNat b _ (by omega)
      rw [e1, e2, hlast]
      constructor
      · intro he
        have he' : varF f (val (c :: r)) = c :: r := by simpa using he
        rcases ih.1 he' with h1 | h1
        · right
          have hr : r = [] := by simpa using h1
          subst hr
          intro hc
          simp at hc
          subst hc
          simp [val] at h0
        · exact .inr h1
      · intro he
        rcases he with h1 | h1
        · simp at h1
        · rw [ih.2 (.inr h1)]

/-- reading a number: fuel, how many bytes were read, what they made -/
def rv (s : List UInt8) (p : Nat) : Nat → Nat → Nat → Option (Nat × Nat)
  | 0, _, _ => none
  | f + 1, i, n =>
    match s[p + i]? with
    | none => none
    | some b =>
      if 128 ≤ b.toNat then rv s p f (i + 1) (n + b.toNat % 128 * 128 ^ i)
      else if (b.toNat = 0 ∧ 0 < i) ∨ 1000000000 < n + b.toNat % 128 * 128 ^ i then none
      else some (n + b.toNat % 128 * 128 ^ i, p + i + 1)

def readVar (s : List UInt8) (p : Nat) : Option (Nat × Nat) := rv s p 5 0 0

end Go.Proofs.YthlgohplljcgfaaGreatDoor.M
/-
  Laws on a slice of bytes that the call itself has made: appending to it, and making a string of it.
-/
namespace Go.Proofs.YthlgohplljcgfaaGreatDoor
open Go.RowKit

def bv (l : List UInt8) : List Value := l.map (fun b => Value.int .u8 (b.toNat : Int))

theorem bv_length (l : List UInt8) : (bv l).length = l.length := by simp [bv]
theorem bv_append (l r : List UInt8) : bv (l ++ r) = bv l ++ bv r := by simp [bv]
theorem bv_get (l : List UInt8) (j : Nat) (u : Value) (h : (bv l)[j]? = some u) : ∃ hj : j < l.length, u = .int .u8 (l[j].toNat : Int) := by
  unfold bv at h
  rw [List.getElem?_map] at h
  cases hl : l[j]? with
  | none => rw [hl] at h; simp at h
  | some b =>
    rw [hl] at h
    obtain ⟨hj, hb⟩ := List.getElem?_eq_some_iff.1 hl
    simp at h
    exact ⟨hj, by rw [hb]; exact h.symm⟩

theorem Tryz.info5 : (Tryz.prog.info? 5).map (fun i => (i.zero, i.size, i.bytes)) = some (some (.int .u8 0), 1, 1) := by kernel_rfl
theorem Tryz.info3 : (Tryz.prog.info? 3).map (fun i => (i.zero, i.size, i.bytes)) = some (some (.int .i64 0), 1, 8) := by kernel_rfl

/-- v owns the bytes l, in blocks from B on; below B all is as it was in w0 -/
def OB (B : Nat) (w0 w : World) (v : Value) (l : List UInt8) : Prop :=
  w.ownsRow B 5 1 v l.length (bv l) ∧ Below B w0 w ∧ B ≤ w.heap.size

theorem OB.alloc {B : Nat} {w0 w : World} {v : Value} {l : List UInt8} (h : OB B w0 w v l) (o : Obj) : OB B w0 (w.alloc o) v l :=
  ⟨h.1.alloc o, h.2.1.alloc h.2.2 o, by have := h.2.2; simp; omega⟩
theorem OB.drew {B : Nat} {w0 w : World} {v : Value} {l : List UInt8} (h : OB B w0 w v l) : OB B w0 w.drew v l :=
  ⟨h.1.drew, h.2.1.drew, h.2.2⟩

theorem OB.nil (w : World) : OB w.heap.size w w (.slice none 0 0) [] :=
  ⟨World.ownsRow_nil _ _ _ _, Below.refl _ _, Nat.le_refl _⟩

theorem OB.made (w : World) : OB w.heap.size w (w.alloc (.cells #[] 5)) (.slice (some ⟨w.heap.size, 0, none⟩) 0 0) [] :=
  ⟨World.ownsRow_made w #[] 0 (Nat.le_refl _) (by decide) (by simp), (Below.refl _ _).alloc (Nat.le_refl _) _, by simp⟩

theorem wp_app {w : World} {ops : Array Oper} {rest : List Oper} {o : Oper} {a : Act} {Q : Exit → Act → World → Prop} (hgd : o.guard = none) (s x : Operand)
    (ho : o.op = .call { callee := .builtin .append, args := #[s, x], argTypes := #[159, 159] })
    (B : Nat) (w0 : World) (v : Value) (l : List UInt8) (hs : a.eval s = v) (hown : OB B w0 w v l)
    (ad : Addr) (m c : Nat) (news : List UInt8) (hx : a.eval x = .slice (some ad) m c) (hm : news.length = m)
    (hnews : ∀ j u, (bv news)[j]? = some u → w.cell? (ad.add j) = some u) (hlen : l.length + m ≤ 1000000000)
    (h : ∀ v' w', OB B w0 w' v' (l ++ news) → wpList Tryz.prog ops Q rest (a.put o.dst v') w') : wpList Tryz.prog ops Q (o :: rest) a w := by
  obtain ⟨i0, hi, hz0, hz1, hz2⟩ := info_parts Tryz.info5
  refine wpList_append_own _ hgd s x 159 ho B 5 i0 (.int .u8 0) 1 1 Tryz.underlying159 hi hz0 hz1 hz2 rfl (by decide) v l.length (bv l) hs hown.1 ad m c (bv news) hx (by simp [bv, hm]) hnews
    (fun u hu => by simp [bv] at hu; obtain ⟨b, _, rfl⟩ := hu; rfl) (by unfold maxLen; omega) (by omega) hown.2.2 ?_
  intro v' w' h1 h2 _
  refine h v' w' ⟨by rw [List.length_append, bv_append, hm]; exact h1, hown.2.1.grown h2 hown.2.2 (fun k hk => (hown.1.lt k hk).1), ?_⟩
  exact Nat.le_trans hown.2.2 h2.size

/-- 'string(b)' of a slice that the call owns -/
theorem run_str {B : Nat} {w0 w : World} {v : Value} {l : List UInt8} (h : OB B w0 w v l) : (convert 159 9 v).run Tryz.prog w = .ok (.string ⟨l.toArray⟩) w := by
  rcases h.1.2 with ⟨rfl, hn⟩ | ⟨g, cap, cur, rfl, hb, hgg, hnc, hcm, hsz, htake⟩
  · have : l = [] := by simpa using hn
    subst this
    rw [run_convert_bytes_string w 159 9 5 none 0 0 Tryz.underlying159 Tryz.underlying5 Tryz.underlying9]
    unfold Conv.bytesToString
    rfl
  · refine run_convert_bytes_back w 159 9 5 ⟨g, 0, none⟩ cap l Tryz.underlying159 Tryz.underlying5 Tryz.underlying9 ?_
    intro j hj
    refine h.1.cells (g := g) rfl j _ ?_
    simp [bv, List.getElem?_eq_getElem hj]

end Go.Proofs.YthlgohplljcgfaaGreatDoor
/-
  Files and disks as plain lists: when a disk is right, what an act makes of it, as the program and as the document's model reckon it.
-/
namespace Go.Proofs.YthlgohplljcgfaaGreatDoor
set_option linter.unusedVariables false

structure Fl where
  n : ByteArray
  t : ByteArray
  k : Int

structure Ac where
  k : Int
  n : ByteArray
  t : ByteArray
  o : ByteArray

namespace F

theorem bytesLess_dec : ∀ (x y : List UInt8), Op.bytesLess x y = decide (x < y)
  | x, [] => by simp [Op.bytesLess]
  | [], b :: y => by simp [Op.bytesLess]
  | a :: x, b :: y => by
    rw [Op.bytesLess, bytesLess_dec x y]
    simp only [List.cons_lt_cons_iff, Bool.decide_or, Bool.decide_and]
    rfl

def ltN (a b : ByteArray) : Bool := Op.bytesLess a.toList b.toList
theorem toList_data (a : ByteArray) : a.toList = a.data.toList := ByteArray.toList_eq a
theorem toList_inj {a b : ByteArray} (h : a.toList = b.toList) : a = b := by
  rw [toList_data, toList_data] at h
  exact ByteArray.ext (Array.toList_inj.1 h)
theorem ltN_eq (a b : ByteArray) : ltN a b = decide (a.toList < b.toList) := bytesLess_dec _ _
theorem ltN_irrefl (a : ByteArray) : ltN a a = false := by rw [ltN_eq]; simp [List.lt_irrefl]
theorem ltN_trans {a b c : ByteArray} (h1 : ltN a b = true) (h2 : ltN b c = true) : ltN a c = true := by
  rw [ltN_eq, decide_eq_true_eq] at *
  exact List.lt_trans h1 h2
theorem ltN_tri (a b : ByteArray) : ltN a b = true ∨ a = b ∨ ltN b a = true := by
  rw [ltN_eq, ltN_eq, decide_eq_true_eq, decide_eq_true_eq]
  by_cases h : a.toList < b.toList
  · exact .inl h
  · by_cases h2 : b.toList < a.toList
    · exact .inr (.inr h2)
    · exact .inr (.inl (toList_inj (List.le_antisymm h2 h)))
theorem ltN_ne {a b : ByteArray} (h : ltN a b = true) : a ≠ b := by
  rintro rfl
  rw [ltN_irrefl] at h
  cases h
theorem ltN_asymm {a b : ByteArray} (h : ltN a b = true) : ltN b a = false := by
  cases hb : ltN b a
  · rfl
  · have := ltN_trans h hb
    rw [ltN_irrefl] at this
    cases this

def nmB (a : ByteArray) : Bool := decide (1 ≤ a.size ∧ a.size ≤ 8)
def flB (f : Fl) : Bool := nmB f.n && decide (f.t.size ≤ 20000 ∧ 0 ≤ f.k ∧ f.k ≤ f.t.size)
theorem flB_iff {f : Fl} : flB f = true ↔ nmB f.n = true ∧ f.t.size ≤ 20000 ∧ 0 ≤ f.k ∧ f.k ≤ f.t.size := by simp [flB]
def Srt (L : List Fl) : Prop := L.Pairwise fun f g => ltN f.n g.n = true
def DOk (L : List Fl) : Prop := L.length ≤ 30 ∧ (∀ f ∈ L, flB f = true) ∧ Srt L
open Classical in
noncomputable def diskB (L : List Fl) : Bool := decide (DOk L)
theorem diskB_iff {L : List Fl} : diskB L = true ↔ DOk L := by simp [diskB]
theorem diskB_no {L : List Fl} : diskB L = false ↔ ¬ DOk L := by simp [diskB]

/-- the first m files are right -/
def Upto (L : List Fl) (m : Nat) : Prop := ∀ j (h : j < L.length), j < m → flB L[j] = true ∧ ∀ h0 : 0 < j, ltN (L[j - 1]'(by omega)).n L[j].n = true
theorem Upto.zero (L : List Fl) : Upto L 0 := fun j _ h => by omega
theorem Upto.step {L : List Fl} {m : Nat} (h : Upto L m) (hm : m < L.length) (h1 : flB L[m] = true) (h2 : ∀ h0 : 0 < m, ltN (L[m - 1]'(by omega)).n L[m].n = true) : Upto L (m + 1) := by
  intro j hj hlt
  rcases Nat.lt_or_ge j m with h3 | h3
  · exact h j hj h3
  · have : j = m := by omega
    subst this
    exact ⟨h1, h2⟩
theorem srt_of_adj {L : List Fl} (h : ∀ j (hj : j < L.length) (h0 : 0 < j), ltN (L[j - 1]'(by omega)).n L[j].n = true) : Srt L := by
  unfold Srt
  rw [List.pairwise_iff_getElem]
  intro i j hi hj hij
  induction j with
  | zero => omega
  | succ j ih =>
    have h1 := h (j + 1) hj (by omega)
    rcases Nat.lt_or_ge i j with h2 | h2
    · exact ltN_trans (ih (by omega) h2) h1
    · have : i = j := by omega
      subst this
      exact h1
theorem Upto.ok {L : List Fl} (h : Upto L L.length) (hl : L.length ≤ 30) : DOk L := by
  refine ⟨hl, fun f hf => ?_, srt_of_adj fun j hj h0 => (h j hj hj).2 h0⟩
  obtain ⟨j, hj, rfl⟩ := List.getElem_of_mem hf
  exact (h j hj hj).1
theorem DOk.srt_at {L : List Fl} (h : Srt L) (i j : Nat) (hi : i < L.length) (hj : j < L.length) (hij : i < j) : ltN L[i].n L[j].n = true := by
  unfold Srt at h
  rw [List.pairwise_iff_getElem] at h
  exact h i j hi hj hij
theorem not_ok_fl {L : List Fl} {m : Nat} (hm : m < L.length) (h : flB L[m] = false) : ¬ DOk L := fun hd => by
  have := hd.2.1 L[m] (List.getElem_mem _)
  rw [h] at this
  cases this
theorem not_ok_adj {L : List Fl} {m : Nat} (hm : m < L.length) (h0 : 0 < m) (h : ltN (L[m - 1]'(by omega)).n L[m].n = false) : ¬ DOk L := fun hd => by
  have := DOk.srt_at hd.2.2 (m - 1) m (by omega) hm (by omega)
  rw [h] at this
  cases this

/-! what acts make of a disk -/
def put (L : List Fl) (f : Fl) : List Fl := L.filter (fun g => ltN g.n f.n) ++ f :: L.filter (fun g => ltN f.n g.n)
def wout (L : List Fl) (x : ByteArray) : List Fl := L.filter fun g => !decide (g.n = x)
def find (L : List Fl) (x : ByteArray) : Option Fl := L.find? fun g => decide (g.n = x)

theorem find_some {L : List Fl} {x : ByteArray} {f : Fl} (h : find L x = some f) : f ∈ L ∧ f.n = x := ⟨List.mem_of_find?_eq_some h, by simpa using List.find?_some h⟩
theorem find_none {L : List Fl} {x : ByteArray} (h : find L x = none) : ∀ f ∈ L, f.n ≠ x := by
  intro f hf
  have := List.find?_eq_none.1 h f hf
  simpa using this
theorem srt_inj {L : List Fl} (h : Srt L) {f g : Fl} (hf : f ∈ L) (hg : g ∈ L) (e : f.n = g.n) : f = g := by
  obtain ⟨i, hi, rfl⟩ := List.getElem_of_mem hf
  obtain ⟨j, hj, rfl⟩ := List.getElem_of_mem hg
  rcases Nat.lt_trichotomy i j with h1 | h1 | h1
  · exact absurd e (ltN_ne (DOk.srt_at h i j hi hj h1))
  · subst h1; rfl
  · exact absurd e.symm (ltN_ne (DOk.srt_at h j i hj hi h1))
theorem mem_put {L : List Fl} {f g : Fl} : g ∈ put L f ↔ g = f ∨ (g ∈ L ∧ g.n ≠ f.n) := by
  simp only [put, List.mem_append, List.mem_cons, List.mem_filter]
  constructor
  · rintro (⟨h1, h2⟩ | rfl | ⟨h1, h2⟩)
    · exact .inr ⟨h1, ltN_ne h2⟩
    · exact .inl rfl
    · exact .inr ⟨h1, (ltN_ne h2).symm⟩
  · rintro (rfl | ⟨h1, h2⟩)
    · exact .inr (.inl rfl)
    · rcases ltN_tri g.n f.n with h3 | h3 | h3
      · exact .inl ⟨h1, h3⟩
      · exact absurd h3 h2
      · exact .inr (.inr ⟨h1, h3⟩)
theorem mem_wout {L : List Fl} {x : ByteArray} {g : Fl} : g ∈ wout L x ↔ g ∈ L ∧ g.n ≠ x := by simp [wout]
theorem srt_wout {L : List Fl} (h : Srt L) (x : ByteArray) : Srt (wout L x) := h.filter _
theorem srt_put {L : List Fl} (h : Srt L) (f : Fl) : Srt (put L f) := by
  unfold Srt put
  rw [List.pairwise_append]
  refine ⟨List.Pairwise.filter _ h, List.pairwise_cons.2 ⟨fun g hg => (List.mem_filter.1 hg).2, List.Pairwise.filter _ h⟩, ?_⟩
  intro a ha b hb
  have h1 := (List.mem_filter.1 ha).2
  rcases List.mem_cons.1 hb with rfl | hb
  · exact h1
  · exact ltN_trans h1 (List.mem_filter.1 hb).2
theorem len_split (L : List Fl) (x : ByteArray) : (L.filter fun g => ltN g.n x).length + (L.filter fun g => ltN x g.n).length = (wout L x).length := by
  unfold wout
  induction L with
  | nil => rfl
  | cons g r ih =>
    simp only [List.filter_cons]
    rcases ltN_tri g.n x with h | h | h
    · rw [if_pos h, if_neg (by rw [ltN_asymm h]; simp), if_pos (by simpa using ltN_ne h)]
      simp only [List.length_cons]; omega
    · rw [h, if_neg (by rw [ltN_irrefl]; simp), if_neg (by rw [ltN_irrefl]; simp), if_neg (by simp)]
      exact ih
    · rw [if_neg (by rw [ltN_asymm h]; simp), if_pos h, if_pos (by simpa using (ltN_ne h).symm)]
      simp only [List.length_cons]; omega
theorem len_put (L : List Fl) (f : Fl) : (put L f).length = (wout L f.n).length + 1 := by
  have := len_split L f.n
  simp only [put, List.length_append, List.length_cons]
  omega
theorem wout_id {L : List Fl} {x : ByteArray} (h : ∀ f ∈ L, f.n ≠ x) : wout L x = L := List.filter_eq_self.2 fun f hf => by simpa using h f hf
theorem len_wout_le (L : List Fl) (x : ByteArray) : (wout L x).length ≤ L.length := List.length_filter_le _ _
theorem len_wout_lt {L : List Fl} {x : ByteArray} {f : Fl} (hf : f ∈ L) (hx : f.n = x) : (wout L x).length < L.length := by
  unfold wout
  refine List.length_filter_lt_length_iff_exists.2 ⟨f, hf, by simp [hx]⟩
theorem len_wout_eq : ∀ {L : List Fl}, Srt L → ∀ {f : Fl}, f ∈ L → (wout L f.n).length + 1 = L.length
  | [], _, f, hf => by simp at hf
  | g :: r, h, f, hf => by
    obtain ⟨h1, h2⟩ := List.pairwise_cons.1 h
    by_cases e : g.n = f.n
    · have hr : wout r f.n = r := wout_id fun x hx => by rw [← e]; exact (ltN_ne (h1 x hx)).symm
      have : wout (g :: r) f.n = wout r f.n := by unfold wout; rw [List.filter_cons, if_neg (by simp [e])]
      rw [this, hr]; rfl
    · have hfr : f ∈ r := by
        rcases List.mem_cons.1 hf with rfl | h3
        · exact absurd rfl e
        · exact h3
      have ih := len_wout_eq h2 hfr
      have : wout (g :: r) f.n = g :: wout r f.n := by unfold wout; rw [List.filter_cons, if_pos (by simp [e])]
      rw [this]
      simp only [List.length_cons]; omega
theorem srt_nodup {L : List Fl} (h : Srt L) : L.Nodup := h.imp fun {a b} hab e => by subst e; rw [ltN_irrefl] at hab; cases hab
/-- two sorted lists of the same files are one -/
theorem srt_ext {L M : List Fl} (hL : Srt L) (hM : Srt M) (h : ∀ f, f ∈ L ↔ f ∈ M) : L = M := by
  refine List.Perm.eq_of_pairwise (le := fun (f g : Fl) => ltN f.n g.n = true) (fun a b _ _ h1 h2 => ?_) hL hM ((List.perm_ext_iff_of_nodup (srt_nodup hL) (srt_nodup hM)).2 h)
  rw [ltN_asymm h1] at h2
  cases h2

def addL (L : List Fl) (x t : ByteArray) : Option (List Fl) :=
  match find L x with
  | none => if 30 ≤ L.length ∨ nmB x = false ∨ 20000 < t.size then none else some (put L ⟨x, t, 0⟩)
  | some f => if 20000 < f.t.size + t.size then none else some (put L ⟨x, f.t ++ t, f.k⟩)
def keepL (L : List Fl) (x : ByteArray) : Option (List Fl) :=
  match find L x with
  | none => none
  | some f => some (put L ⟨x, f.t, f.t.size⟩)
def moveL (L : List Fl) (x o : ByteArray) : Option (List Fl) :=
  match find L x with
  | none => none
  | some f => if f.k ≠ f.t.size ∨ o = x ∨ nmB o = false then none else some (put (wout L x) ⟨o, f.t, f.k⟩)
def dropL (L : List Fl) (x : ByteArray) : Option (List Fl) :=
  match find L x with
  | none => none
  | some f => some (wout L x)
/-- an act as the program does it -/
def doL (L : List Fl) (a : Ac) : Option (List Fl) :=
  if (a.k ≠ 1 ∧ a.t.size ≠ 0) ∨ (a.k ≠ 3 ∧ a.o.size ≠ 0) then none
  else if a.k = 1 then addL L a.n a.t
  else if a.k = 2 then keepL L a.n
  else if a.k = 3 then moveL L a.n a.o
  else if a.k = 4 then dropL L a.n
  else none

theorem nmB_find {L : List Fl} (h : DOk L) {x : ByteArray} {f : Fl} (hf : find L x = some f) : nmB x = true := by
  obtain ⟨h1, rfl⟩ := find_some hf
  exact (flB_iff.1 (h.2.1 f h1)).1
theorem ok_put {L : List Fl} (h : Srt L) (hall : ∀ g ∈ L, flB g = true) (f : Fl) (hf : flB f = true) (hl : (put L f).length ≤ 30) : DOk (put L f) := by
  refine ⟨hl, fun g hg => ?_, srt_put h f⟩
  rcases mem_put.1 hg with rfl | ⟨h1, _⟩
  · exact hf
  · exact hall g h1
theorem ok_wout {L : List Fl} (h : DOk L) (x : ByteArray) : DOk (wout L x) := ⟨Nat.le_trans (len_wout_le _ _) h.1, fun g hg => h.2.1 g (mem_wout.1 hg).1, srt_wout h.2.2 x⟩
theorem len_put_in {L : List Fl} (h : Srt L) {x : ByteArray} {f g : Fl} (hf : find L x = some f) (hg : g.n = x) : (put L g).length = L.length := by
  obtain ⟨h1, h2⟩ := find_some hf
  rw [len_put, hg, ← h2]
  exact len_wout_eq h h1
theorem len_put_new {L : List Fl} {x : ByteArray} {g : Fl} (hf : find L x = none) (hg : g.n = x) : (put L g).length = L.length + 1 := by
  rw [len_put, hg, wout_id (find_none hf)]

theorem addL_ok {L M : List Fl} {x t : ByteArray} (h : DOk L) (hM : addL L x t = some M) : DOk M := by
  unfold addL at hM
  cases hf : find L x with
  | none =>
    rw [hf] at hM
    simp only at hM
    split at hM
    · cases hM
    · rename_i hc
      cases hM
      have hc' : ¬ 30 ≤ L.length ∧ ¬ nmB x = false ∧ ¬ 20000 < t.size := ⟨fun e => hc (.inl e), fun e => hc (.inr (.inl e)), fun e => hc (.inr (.inr e))⟩
      refine ok_put h.2.2 h.2.1 _ (flB_iff.2 ⟨by simpa using hc'.2.1, by show t.size ≤ 20000; omega, Int.le_refl _, by show (0 : Int) ≤ t.size; omega⟩) ?_
      rw [len_put_new hf rfl]; omega
  | some f =>
    rw [hf] at hM
    simp only at hM
    split at hM
    · cases hM
    · rename_i hc
      cases hM
      have h1 := flB_iff.1 (h.2.1 f (find_some hf).1)
      refine ok_put h.2.2 h.2.1 _ (flB_iff.2 ⟨nmB_find h hf, by show (f.t ++ t).size ≤ 20000; rw [ByteArray.size_append]; omega, h1.2.2.1, by show f.k ≤ ((f.t ++ t).size : Int); rw [ByteArray.size_append]; omega⟩) ?_
      rw [len_put_in h.2.2 hf rfl]; exact h.1
theorem keepL_ok {L M : List Fl} {x : ByteArray} (h : DOk L) (hM : keepL L x = some M) : DOk M := by
  unfold keepL at hM
  cases hf : find L x with
  | none => rw [hf] at hM; cases hM
  | some f =>
    rw [hf] at hM
    cases hM
    have h1 := flB_iff.1 (h.2.1 f (find_some hf).1)
    refine ok_put h.2.2 h.2.1 _ (flB_iff.2 ⟨nmB_find h hf, h1.2.1, by show (0 : Int) ≤ f.t.size; omega, Int.le_refl _⟩) ?_
    rw [len_put_in h.2.2 hf rfl]; exact h.1
theorem moveL_ok {L M : List Fl} {x o : ByteArray} (h : DOk L) (hM : moveL L x o = some M) : DOk M := by
  unfold moveL at hM
  cases hf : find L x with
  | none => rw [hf] at hM; cases hM
  | some f =>
    rw [hf] at hM
    simp only at hM
    split at hM
    · cases hM
    · rename_i hc
      cases hM
      obtain ⟨hm, hn⟩ := find_some hf
      have h1 := flB_iff.1 (h.2.1 f hm)
      have hc' : ¬ nmB o = false := fun e => hc (.inr (.inr e))
      refine ok_put (srt_wout h.2.2 x) (ok_wout h x).2.1 _ (flB_iff.2 ⟨by simpa using hc', h1.2.1, h1.2.2.1, h1.2.2.2⟩) ?_
      rw [len_put]
      have h2 := len_wout_le (wout L x) o
      have h3 := len_wout_lt hm hn
      have h4 := h.1
      show (wout (wout L x) o).length + 1 ≤ 30
      omega
theorem dropL_ok {L M : List Fl} {x : ByteArray} (h : DOk L) (hM : dropL L x = some M) : DOk M := by
  unfold dropL at hM
  cases hf : find L x with
  | none => rw [hf] at hM; cases hM
  | some f =>
    rw [hf] at hM
    cases hM
    exact ok_wout h x
theorem doL_ok {L M : List Fl} {a : Ac} (h : DOk L) (hM : doL L a = some M) : DOk M := by
  unfold doL at hM
  split at hM
  · cases hM
  · split at hM
    · exact addL_ok h hM
    · split at hM
      · exact keepL_ok h hM
      · split at hM
        · exact moveL_ok h hM
        · split at hM
          · exact dropL_ok h hM
          · cases hM

/-! the model makes the same of it: it puts first and looks at the whole disk behind -/
theorem flB_of {L : List Fl} {f : Fl} (h : DOk (put L f)) : flB f = true := h.2.1 f (mem_put.2 (.inl rfl))
theorem spec_new {L : List Fl} {x t : ByteArray} (h : DOk L) (hn : nmB x = true) (hf : find L x = none) : addL L x t = if diskB (put L ⟨x, t, 0⟩) then some (put L ⟨x, t, 0⟩) else none := by
  unfold addL
  rw [hf]
  simp only
  by_cases hc : 30 ≤ L.length ∨ nmB x = false ∨ 20000 < t.size
  · rw [if_pos hc, if_neg]
    rw [diskB_iff]
    intro hd
    have h1 := len_put_new (g := ⟨x, t, 0⟩) hf rfl
    have h2 := hd.1
    have h3 := (flB_iff.1 (flB_of hd)).2.1
    rcases hc with h4 | h4 | h4
    · omega
    · rw [hn] at h4; cases h4
    · simp only at h3; omega
  · rw [if_neg hc, if_pos]
    rw [diskB_iff]
    exact addL_ok h (show addL L x t = some (put L ⟨x, t, 0⟩) by unfold addL; rw [hf]; simp only; rw [if_neg hc])
theorem spec_more {L : List Fl} {x t : ByteArray} {f : Fl} (h : DOk L) (hf : find L x = some f) : addL L x t = if diskB (put L ⟨f.n, f.t ++ t, f.k⟩) then some (put L ⟨f.n, f.t ++ t, f.k⟩) else none := by
  rw [(find_some hf).2]
  unfold addL
  rw [hf]
  simp only
  by_cases hc : 20000 < f.t.size + t.size
  · rw [if_pos hc, if_neg]
    rw [diskB_iff]
    intro hd
    have h3 := (flB_iff.1 (flB_of hd)).2.1
    simp only [ByteArray.size_append] at h3
    omega
  · rw [if_neg hc, if_pos]
    rw [diskB_iff]
    exact addL_ok h (show addL L x t = some (put L ⟨x, f.t ++ t, f.k⟩) by unfold addL; rw [hf]; simp only; rw [if_neg hc])
theorem spec_keep {L : List Fl} {x : ByteArray} {f : Fl} (h : DOk L) (hf : find L x = some f) : keepL L x = some (put L ⟨f.n, f.t, f.t.size⟩) ∧ diskB (put L ⟨f.n, f.t, f.t.size⟩) = true := by
  rw [(find_some hf).2]
  have e : keepL L x = some (put L ⟨x, f.t, f.t.size⟩) := by unfold keepL; rw [hf]
  exact ⟨e, diskB_iff.2 (keepL_ok h e)⟩
theorem spec_move {L : List Fl} {x o : ByteArray} {f : Fl} (h : DOk L) (hf : find L x = some f) (h1 : ¬ f.k < f.t.size) (h2 : o ≠ x) (h3 : nmB o = true) : moveL L x o = some (put (wout L x) ⟨o, f.t, f.k⟩) ∧ diskB (put (wout L x) ⟨o, f.t, f.k⟩) = true := by
  have hk := (flB_iff.1 (h.2.1 f (find_some hf).1)).2.2.2
  have e : moveL L x o = some (put (wout L x) ⟨o, f.t, f.k⟩) := by
    unfold moveL
    rw [hf]
    simp only
    rw [if_neg]
    rintro (h4 | h4 | h4)
    · omega
    · exact h2 h4
    · rw [h3] at h4; cases h4
  exact ⟨e, diskB_iff.2 (moveL_ok h e)⟩
theorem spec_moveno {L : List Fl} {x o : ByteArray} {f : Fl} (hf : find L x = some f) (h1 : f.k < f.t.size ∨ o = x ∨ nmB o = false) : moveL L x o = none := by
  unfold moveL
  rw [hf]
  simp only
  rw [if_pos]
  rcases h1 with h | h | h
  · exact .inl (by omega)
  · exact .inr (.inl h)
  · exact .inr (.inr h)
theorem spec_drop {L : List Fl} {x : ByteArray} {f : Fl} (h : DOk L) (hf : find L x = some f) : dropL L x = some (wout L x) ∧ diskB (wout L x) = true := by
  have e : dropL L x = some (wout L x) := by unfold dropL; rw [hf]
  exact ⟨e, diskB_iff.2 (dropL_ok h e)⟩
theorem doL_none {L : List Fl} {a : Ac} (hf : find L a.n = none) (h1 : a.k ≠ 1) : doL L a = none := by
  unfold doL keepL moveL dropL
  rw [hf, if_neg h1]
  simp only
  repeat' split
  all_goals rfl
theorem doL_name {L : List Fl} (h : DOk L) {a : Ac} (hn : nmB a.n = false) : doL L a = none := by
  have hf : find L a.n = none := by
    cases hf : find L a.n with
    | none => rfl
    | some f => rw [nmB_find h hf] at hn; cases hn
  by_cases h1 : a.k = 1
  · unfold doL addL
    rw [hf, if_pos h1]
    split
    · rfl
    · simp only
      rw [if_pos (.inr (.inl hn))]
  · exact doL_none hf h1

/-- an act, or nothing where the disk is not right -/
noncomputable def actR (L : List Fl) (a : Ac) : Option (List Fl) := if diskB L then doL L a else none
/-- acts one by one till one is false: what is left, and how many were done -/
noncomputable def actsR (L : List Fl) : List Ac → List Fl × Nat
  | [] => (L, 0)
  | a :: r => match actR L a with
    | none => (L, 0)
    | some M => ((actsR M r).1, (actsR M r).2 + 1)

/-- what is left of a file when the power goes -/
def cutN (f : Fl) (n : Int) : Int := if (if n > f.t.size then (f.t.size : Int) else n) < f.k then f.k else (if n > f.t.size then (f.t.size : Int) else n)
def cutF (f : Fl) (n : Int) : Fl := ⟨f.n, f.t.extract 0 (cutN f n).toNat, cutN f n⟩
def cutL : List Fl → List Int → List Fl
  | [], _ => []
  | f :: r, [] => cutF f 0 :: cutL r []
  | f :: r, n :: q => cutF f n :: cutL r q
theorem cutN_in {f : Fl} (h : flB f = true) (n : Int) : 0 ≤ cutN f n ∧ cutN f n ≤ f.t.size := by
  have := flB_iff.1 h
  unfold cutN
  repeat' split
  all_goals omega
theorem cutN_min {f : Fl} (h : flB f = true) (n : Int) : min (max n f.k) f.t.size = cutN f n := by
  have := flB_iff.1 h
  unfold cutN
  repeat' split
  all_goals omega

end F
end Go.Proofs.YthlgohplljcgfaaGreatDoor
/-
  Rows of records (files, acts) as they lie in memory: read, written record by record, grown; and what stays of them.
-/
namespace Go.Proofs.YthlgohplljcgfaaGreatDoor
open Go.RowKit
set_option linter.unusedVariables false

def fcs (f : Fl) : List Value := [.string f.n, .string f.t, .int .i64 f.k]
def acs (a : Ac) : List Value := [.int .i64 a.k, .string a.n, .string a.t, .string a.o]

theorem cell_kept {w w' : World} {b o : Nat} (h : w'.heap[b]? = w.heap[b]?) : w'.cell? ⟨b, o, none⟩ = w.cell? ⟨b, o, none⟩ := by simp only [World.cell?, h]
theorem frozen_kept {w w' : World} {b o : Nat} (h : w'.heap[b]? = w.heap[b]?) : w'.frozen? ⟨b, o, none⟩ = w.frozen? ⟨b, o, none⟩ := by simp only [World.frozen?, h]
theorem lt_of_cell {w : World} {b o : Nat} {u : Value} (h : w.cell? ⟨b, o, none⟩ = some u) : b < w.heap.size := by
  rcases Nat.lt_or_ge b w.heap.size with h1 | h1
  · exact h1
  · simp [World.cell?, Array.getElem?_eq_none h1] at h
theorem range_kept {w w' : World} {b o : Nat} {cs : List Value} (h : w.rangeAt b o cs) (he : w'.heap[b]? = w.heap[b]?) : w'.rangeAt b o cs := fun j v hv => (cell_kept he).trans (h j v hv)
theorem there_kept {w w' : World} {b o n : Nat} (h : w.there b o n) (he : w'.heap[b]? = w.heap[b]?) : w'.there b o n := fun j hj => by rw [cell_kept he, frozen_kept he]; exact h j hj

section
variable {α : Type} {k : Nat} {enc : α → List Value} {w w' : World} {v : Value} {g o : Nat} {l : List α}

/-- v is a row of the records l, each of k cells, from offset o of block g on -/
def RS (k : Nat) (enc : α → List Value) (w : World) (v : Value) (g o : Nat) (l : List α) : Prop :=
  ∃ a cap, v = .slice a l.length cap ∧ l.length ≤ 1100000 ∧ (0 < l.length → a = some ⟨g, o, none⟩ ∧ g < w.heap.size) ∧ ∀ j (h : j < l.length), w.rangeAt g (o + j * k) (enc l[j])
theorem RS.shape (h : RS k enc w v g o l) : ∃ a c, v = .slice a l.length c := by
  obtain ⟨a, c, hv, _⟩ := h
  exact ⟨a, c, hv⟩
theorem RS.len (h : RS k enc w v g o l) : l.length ≤ 1100000 := by
  obtain ⟨a, c, _, hl, _⟩ := h
  exact hl
theorem RS.later (h : RS k enc w v g o l) (hb : Below w.heap.size w w') : RS k enc w' v g o l := by
  obtain ⟨a, c, hv, hl, h0, hc⟩ := h
  exact ⟨a, c, hv, hl, fun hp => ⟨(h0 hp).1, Nat.lt_of_lt_of_le (h0 hp).2 hb.size⟩, fun j hj => range_kept (hc j hj) (hb.block g (h0 (by omega)).2)⟩
theorem RS.drewN (h : RS k enc w v g o l) (n : Nat) : RS k enc (w.drewN n) v g o l := h
theorem RS.alloc (h : RS k enc w v g o l) (x : Obj) : RS k enc (w.alloc x) v g o l := h.later ((Below.refl _ _).alloc (Nat.le_refl _) _)
theorem RS.grown {row : Option Nat} (h : RS k enc w v g o l) (hg : w.grownBy w' row) (hne : 0 < l.length → some g ≠ row) : RS k enc w' v g o l := by
  obtain ⟨a, c, hv, hl, h0, hc⟩ := h
  exact ⟨a, c, hv, hl, fun hp => ⟨(h0 hp).1, Nat.lt_of_lt_of_le (h0 hp).2 hg.size⟩, fun j hj => range_kept (hc j hj) (hg.block g (h0 (by omega)).2 (hne (by omega)))⟩

/-- .. and it may be written; it begins its block -/
def RW (k : Nat) (enc : α → List Value) (w : World) (v : Value) (g : Nat) (l : List α) : Prop :=
  RS k enc w v g 0 l ∧ ∀ j, j < l.length → w.there g (j * k) k
theorem RW.later (h : RW k enc w v g l) (hb : Below w.heap.size w w') : RW k enc w' v g l := by
  refine ⟨h.1.later hb, fun j hj => ?_⟩
  obtain ⟨⟨a, c, hv, hl, h0, hc⟩, ht⟩ := h
  exact there_kept (ht j hj) (hb.block g (h0 (by omega)).2)
theorem RW.alloc (h : RW k enc w v g l) (x : Obj) : RW k enc (w.alloc x) v g l := h.later ((Below.refl _ _).alloc (Nat.le_refl _) _)
theorem RW.drewN (h : RW k enc w v g l) (n : Nat) : RW k enc (w.drewN n) v g l := h
theorem RW.grown {row : Option Nat} (h : RW k enc w v g l) (hg : w.grownBy w' row) (hne : 0 < l.length → some g ≠ row) : RW k enc w' v g l := by
  refine ⟨h.1.grown hg hne, fun j hj => ?_⟩
  obtain ⟨⟨a, c, hv, hl, h0, hc⟩, ht⟩ := h
  exact there_kept (ht j hj) (hg.block g (h0 (by omega)).2 (hne (by omega)))
theorem RW.lt (h : RW k enc w v g l) : 0 < l.length → g < w.heap.size := by
  obtain ⟨⟨a, c, hv, hl, h0, hc⟩, ht⟩ := h
  exact fun hp => (h0 hp).2
theorem RS.nil (w : World) (g o : Nat) : RS k enc w (.slice none 0 0) g o [] := ⟨none, 0, rfl, by simp, fun h => absurd h (by simp), fun j h => absurd h (by simp)⟩
theorem RW.nil (w : World) (g : Nat) : RW k enc w (.slice none 0 0) g [] := ⟨RS.nil w g 0, fun j h => absurd h (by simp)⟩

theorem flat_len (hk : ∀ x, (enc x).length = k) (l : List α) : (l.flatMap enc).length = l.length * k := by
  induction l with
  | nil => simp
  | cons x r ih => rw [List.flatMap_cons, List.length_append, ih, hk, List.length_cons, Nat.succ_mul, Nat.add_comm]
theorem flat_at (hk : ∀ x, (enc x).length = k) : ∀ (l : List α) (j : Nat) (h : j < l.length) (i : Nat), i < k → (l.flatMap enc)[j * k + i]? = (enc l[j])[i]?
  | [], j, h, i, _ => by simp at h
  | x :: r, 0, _, i, hi => by
    rw [List.flatMap_cons, Nat.zero_mul, Nat.zero_add, List.getElem?_append_left (by rw [hk]; exact hi)]
    rfl
  | x :: r, j + 1, h, i, hi => by
    rw [List.flatMap_cons, List.getElem?_append_right (by rw [hk, Nat.succ_mul]; omega), hk]
    have e : (j + 1) * k + i - k = j * k + i := by rw [Nat.succ_mul]; omega
    rw [e, flat_at hk r j (by simpa using h) i hi]
    rfl

/-- v owns the records l, in blocks from B on; below B all is as it was in w0 -/
def OR (T k : Nat) (enc : α → List Value) (B : Nat) (w0 w : World) (v : Value) (l : List α) : Prop :=
  w.ownsRow B T k v l.length (l.flatMap enc) ∧ Below B w0 w ∧ B ≤ w.heap.size
variable {T B : Nat} {w0 w1 : World}
theorem OR.alloc (h : OR T k enc B w0 w v l) (o : Obj) : OR T k enc B w0 (w.alloc o) v l :=
  ⟨h.1.alloc o, h.2.1.alloc h.2.2 o, by have := h.2.2; simp; omega⟩
theorem OR.drew (h : OR T k enc B w0 w v l) : OR T k enc B w0 w.drew v l := ⟨h.1.drew, h.2.1.drew, h.2.2⟩
theorem OR.nil (w : World) : OR T k enc w.heap.size w w (.slice none 0 0) ([] : List α) := ⟨World.ownsRow_nil _ _ _ _, Below.refl _ _, Nat.le_refl _⟩
theorem OR.later (h : OR T k enc B w0 w v l) (hb : Below w.heap.size w w') : OR T k enc B w0 w' v l := by
  refine ⟨⟨h.1.1, ?_⟩, h.2.1.trans (hb.mono h.2.2), Nat.le_trans h.2.2 hb.size⟩
  rcases h.1.2 with hn | ⟨g, cap, cur, hv, hbg, hg, rest⟩
  · exact .inl hn
  · refine .inr ⟨g, cap, cur, hv, hbg, ?_, rest⟩
    rw [hb.block g (Array.getElem?_eq_some_iff.1 hg).1]
    exact hg
theorem OR.from (h : OR T k enc B w1 w v l) (hb : Below B w0 w1) : OR T k enc B w0 w v l := ⟨h.1, hb.trans h.2.1, h.2.2⟩
theorem OR.grown {row : Option Nat} (h : OR T k enc B w0 w v l) (hg : w.grownBy w' row) (hne : ∀ q, row = some q → B ≤ q ∧ v.ownBlock ≠ some q) : OR T k enc B w0 w' v l := by
  refine ⟨⟨h.1.1, ?_⟩, h.2.1.grown hg h.2.2 (fun q hq => (hne q hq).1), Nat.le_trans h.2.2 hg.size⟩
  rcases h.1.2 with hn | ⟨g, cap, cur, hv, hbg, hgg, rest⟩
  · exact .inl hn
  · refine .inr ⟨g, cap, cur, hv, hbg, ?_, rest⟩
    rw [hg.block g (Array.getElem?_eq_some_iff.1 hgg).1 (fun e => (hne g e.symm).2 (by rw [hv]; rfl))]
    exact hgg
/-- what is owned, as a row that may be written -/
theorem OR.rw (hk : ∀ x, (enc x).length = k) (hk0 : 0 < k) (h : OR T k enc B w0 w v l) (hl : l.length ≤ 1100000) : ∃ g, RW k enc w v g l ∧ B ≤ g ∧ (∀ q, v.ownBlock = some q → q = g) := by
  rcases h.1.2 with ⟨hv, hn⟩ | ⟨g, cap, cur, hv, hbg, hg, hnc, hcm, hsz, htk⟩
  · have : l = [] := List.length_eq_zero_iff.1 hn
    subst this
    subst hv
    exact ⟨B, RW.nil w B, Nat.le_refl _, fun q hq => by cases hq⟩
  · have hlt := (Array.getElem?_eq_some_iff.1 hg).1
    have hc : ∀ q, q < l.length * k → w.cell? ⟨g, q, none⟩ = (l.flatMap enc)[q]? := by
      intro q hq
      rw [cell_of_row w g q cur T (0, 0) hg, ← htk, List.getElem?_take_of_lt hq, Array.getElem?_toList]
    refine ⟨g, ⟨⟨some ⟨g, 0, none⟩, cap, hv, hl, fun _ => ⟨rfl, hlt⟩, fun j hj i u hu => ?_⟩, fun j hj i hi => ⟨?_, ?_⟩⟩, hbg, fun q hq => ?_⟩
    · have hi : i < k := by rw [← hk l[j]]; exact (List.getElem?_eq_some_iff.1 hu).1
      have hb : j * k + i < l.length * k := by
        have := Nat.mul_le_mul_right k (show j + 1 ≤ l.length by omega)
        rw [Nat.succ_mul] at this
        omega
      rw [Nat.zero_add, hc _ hb, flat_at hk l j hj i hi]
      exact hu
    · have hb : j * k + i < l.length * k := by
        have := Nat.mul_le_mul_right k (show j + 1 ≤ l.length by omega)
        rw [Nat.succ_mul] at this
        omega
      rw [hc _ hb, flat_at hk l j hj i hi, List.getElem?_eq_getElem (by rw [hk]; exact hi)]
      rfl
    · simp [World.frozen?, hg]
    · rw [hv] at hq
      simpa [Value.ownBlock] using hq.symm
end

theorem fcs_len (f : Fl) : (fcs f).length = 3 := rfl
theorem acs_len (a : Ac) : (acs a).length = 4 := rfl

theorem RS.file {w : World} {v : Value} {g o : Nat} {l : List Fl} (h : RS 3 fcs w v g o l) (j : Nat) (hj : j < l.length) :
    w.cell? ⟨g, o + j * 3, none⟩ = some (.string l[j].n) ∧ w.cell? ⟨g, o + j * 3 + 1, none⟩ = some (.string l[j].t) ∧ w.cell? ⟨g, o + j * 3 + 2, none⟩ = some (.int .i64 l[j].k) := by
  obtain ⟨a, c, _, _, _, hc⟩ := h
  exact ⟨hc j hj 0 _ rfl, hc j hj 1 _ rfl, hc j hj 2 _ rfl⟩
theorem RS.act {w : World} {v : Value} {g o : Nat} {l : List Ac} (h : RS 4 acs w v g o l) (j : Nat) (hj : j < l.length) :
    w.cell? ⟨g, o + j * 4, none⟩ = some (.int .i64 l[j].k) ∧ w.cell? ⟨g, o + j * 4 + 1, none⟩ = some (.string l[j].n) ∧ w.cell? ⟨g, o + j * 4 + 2, none⟩ = some (.string l[j].t) ∧ w.cell? ⟨g, o + j * 4 + 3, none⟩ = some (.string l[j].o) := by
  obtain ⟨a, c, _, _, _, hc⟩ := h
  exact ⟨hc j hj 0 _ rfl, hc j hj 1 _ rfl, hc j hj 2 _ rfl, hc j hj 3 _ rfl⟩

end Go.Proofs.YthlgohplljcgfaaGreatDoor
