/-
  Texts laid together: Dtag, Os, Dd.
-/
import Derived.Test.YtklpanjedolkdaaGreatDoorPkELS6
import Derived.Test.YtklpanjedolkdaaGreatDoorRows
import Derived.WalkKit
import Derived.Lib.ItoaMem
/-
  What DrawTagText draws: some kind, and some parts.
-/
namespace Go.Proofs.YtklpanjedolkdaaGreatDoor
open Go.RowKit
set_option linter.unusedVariables false

def svs (l : List ByteArray) : List Value := l.map Value.string
theorem svs_append (l r : List ByteArray) : svs (l ++ r) = svs l ++ svs r := by simp [svs]

theorem wp_appT {w : World} {ops : Array Oper} {rest : List Oper} {o : Oper} {a : Act} {Q : Exit → Act → World → Prop} (hgd : o.guard = none) (s x : Operand)
    (ho : o.op = .call { callee := .builtin .append, args := #[s, x], argTypes := #[53, 53] })
    (B : Nat) (v : Value) (l : List ByteArray) (hs : a.eval s = v) (hown : w.ownsRow B 9 1 v l.length (svs l)) (hsz : B ≤ w.heap.size)
    (ad : Addr) (t : ByteArray) (hx : a.eval x = .slice (some ad) 1 1) (hnews : w.cell? ad = some (.string t)) (hlen : l.length ≤ 1000000)
    (h : ∀ v' w', w'.ownsRow B 9 1 v' (l ++ [t]).length (svs (l ++ [t])) → w.grownBy w' v.ownBlock → wpList Tryz.prog ops Q rest (a.put o.dst v') w') : wpList Tryz.prog ops Q (o :: rest) a w := by
  obtain ⟨i0, hi, hz0, hz1, hz2⟩ := info_parts Tryz.info9
  refine wpList_append_own _ hgd s x 53 ho B 9 i0 (.string ByteArray.empty) 1 16 Tryz.underlying53 hi hz0 hz1 hz2 rfl (by decide) v l.length (svs l) hs hown ad 1 1 (svs [t]) hx (by simp [svs]) ?_
    (fun u hu => by simp [svs] at hu; subst hu; rfl) (by unfold maxLen; omega) (by omega) hsz ?_
  · intro j u hj
    match j, hj with
    | 0, hj =>
      simp [svs] at hj
      subst hj
      have : ad.add 0 = ad := by unfold Addr.add; split <;> simp_all
      rw [this]
      exact hnews
  · intro v' w' h1 h2 _
    exact h v' w' (by rw [List.length_append, svs_append]; exact h1) h2

theorem one_text (w : World) (t : ByteArray) (y : TypeId) : (w.alloc (.cells #[.string t] y)).cell? ⟨w.heap.size, 0, none⟩ = some (.string t) := by simp

def kindsL : List Int := [1, 2, 3, 8, 0, 9, 5]
def kindsC : Array Value := #[.int .i64 1, .int .i64 2, .int .i64 3, .int .i64 8, .int .i64 0, .int .i64 9, .int .i64 5]
theorem kinds_at (w : World) : Hid (∀ j, (h : j < kindsL.length) → (w.alloc (.cells kindsC 3)).cell? ⟨w.heap.size, j, none⟩ = some (.int .i64 kindsL[j])) := by
  intro j hj
  rw [World.cell?_alloc_at _ _ _ _ rfl]
  have : j = 0 ∨ j = 1 ∨ j = 2 ∨ j = 3 ∨ j = 4 ∨ j = 5 ∨ j = 6 := by simp [kindsL] at hj; omega
  rcases this with rfl | rfl | rfl | rfl | rfl | rfl | rfl <;> rfl

/-- what the second loop holds -/
def DuR (w : World) (u : Value) (wr : World) : Prop :=
  ∃ l : List ByteArray, l.length ≤ 61 ∧ wr.ownsRow w.heap.size 9 1 u l.length (svs l) ∧ Below w.heap.size w wr ∧ w.heap.size ≤ wr.heap.size

theorem ss_own {B n : Nat} {w : World} {u : Value} {l : List ByteArray} (h : w.ownsRow B 9 1 u n (svs l)) (hn : n = l.length) (hl : l.length ≤ 1100000) : ∃ g, SS w u g 0 l := by
  subst hn
  rcases h.2 with ⟨hv, hn⟩ | ⟨g, cap, cur, hv, hbg, hg, rest⟩
  · have e : l = [] := List.length_eq_zero_iff.1 hn
    subst e
    exact ⟨0, none, 0, hv, by simp, fun h => absurd h (by simp), fun j hj => absurd hj (by simp)⟩
  · subst hv
    refine ⟨g, _, cap, rfl, hl, fun _ => rfl, fun j hj => ?_⟩
    rw [Nat.zero_add, World.ownsRow.cellAt h j (by omega)]
    simp [svs, List.getElem?_eq_getElem hj]

theorem own_later {B n e : Nat} {w w' : World} {v : Value} {xs : List Value} (h : w.ownsRow B e 1 v n xs) (hb : Below w.heap.size w w') : w'.ownsRow B e 1 v n xs := by
  refine ⟨h.1, ?_⟩
  rcases h.2 with hn | ⟨g, cap, cur, hv, hbg, hg, rest⟩
  · exact .inl hn
  · refine .inr ⟨g, cap, cur, hv, hbg, ?_, rest⟩
    rw [hb.block g (Array.getElem?_eq_some_iff.1 hg).1]
    exact hg

theorem own_slice {B n e : Nat} {w : World} {v : Value} {xs : List Value} (h : w.ownsRow B e 1 v n xs) : ∃ a c, v = .slice a n c := by
  rcases h.2 with ⟨hv, hn⟩ | ⟨g, cap, cur, hv, hbg, hg, rest⟩
  · exact ⟨none, 0, by rw [hv, hn]⟩
  · exact ⟨_, cap, hv⟩

def lenOf : Value → Nat
  | .slice _ n _ => n
  | _ => 0

/-- what DrawTagText gives -/
def DtAns (w : World) (e : Ending) (w' : World) : Prop := ∃ (k : Int) (u : Value) (g : Nat) (l : List ByteArray), e = .returned (.tuple #[.int .i64 k, u]) ∧ SS w' u g 0 l ∧ Below w.heap.size w w'

end Go.Proofs.YtklpanjedolkdaaGreatDoor
/-
  Laws on a slice of texts that the call itself has made: appending to it, reading it, storing into it.
-/
namespace Go.Proofs.YtklpanjedolkdaaGreatDoor
open Go.RowKit
set_option linter.unusedVariables false

/-- v owns the texts l, in blocks from B on; below B all is as it was in w0 -/
def OS (B : Nat) (w0 w : World) (v : Value) (l : List ByteArray) : Prop :=
  w.ownsRow B 9 1 v l.length (svs l) ∧ Below B w0 w ∧ B ≤ w.heap.size

theorem OS.alloc {B : Nat} {w0 w : World} {v : Value} {l : List ByteArray} (h : OS B w0 w v l) (o : Obj) : OS B w0 (w.alloc o) v l :=
  ⟨h.1.alloc o, h.2.1.alloc h.2.2 o, by have := h.2.2; simp; omega⟩
theorem OS.drew {B : Nat} {w0 w : World} {v : Value} {l : List ByteArray} (h : OS B w0 w v l) : OS B w0 w.drew v l :=
  ⟨h.1.drew, h.2.1.drew, h.2.2⟩
theorem below_drn {B : Nat} {a w : World} (h : Below B a w) (n : Nat) : Below B a (w.drewN n) := h.trans ⟨rfl, rfl, rfl, Nat.le_refl _, fun _ _ => rfl⟩
theorem OS.drewN {B : Nat} {w0 w : World} {v : Value} {l : List ByteArray} (h : OS B w0 w v l) (n : Nat) : OS B w0 (w.drewN n) v l :=
  ⟨h.1, below_drn h.2.1 n, h.2.2⟩
theorem OS.made (w : World) : OS w.heap.size w (w.alloc (.cells #[] 9)) (.slice (some ⟨w.heap.size, 0, none⟩) 0 0) [] :=
  ⟨World.ownsRow_made w #[] 0 (Nat.le_refl _) (by decide) (by simp), (Below.refl _ _).alloc (Nat.le_refl _) _, by simp⟩
/-- what is owned stays so behind a call that leaves all that was there as it was -/
theorem OS.later {B : Nat} {w0 w w' : World} {v : Value} {l : List ByteArray} (h : OS B w0 w v l) (hb : Below w.heap.size w w') : OS B w0 w' v l := by
  refine ⟨⟨h.1.1, ?_⟩, h.2.1.trans (hb.mono h.2.2), Nat.le_trans h.2.2 hb.size⟩
  rcases h.1.2 with hn | ⟨g, cap, cur, hv, hbg, hg, rest⟩
  · exact .inl hn
  · refine .inr ⟨g, cap, cur, hv, hbg, ?_, rest⟩
    rw [hb.block g (Array.getElem?_eq_some_iff.1 hg).1]
    exact hg
/-- the same with another world at the bottom -/
theorem OS.from {B : Nat} {w0 w1 w : World} {v : Value} {l : List ByteArray} (h : OS B w1 w v l) (hb : Below B w0 w1) : OS B w0 w v l := ⟨h.1, hb.trans h.2.1, h.2.2⟩

theorem wp_appS {w : World} {ops : Array Oper} {rest : List Oper} {o : Oper} {a : Act} {Q : Exit → Act → World → Prop} (hgd : o.guard = none) (s x : Operand)
    (ho : o.op = .call { callee := .builtin .append, args := #[s, x], argTypes := #[53, 53] })
    (B : Nat) (w0 : World) (v : Value) (l : List ByteArray) (hs : a.eval s = v) (hown : OS B w0 w v l)
    (ad : Addr) (t : ByteArray) (hx : a.eval x = .slice (some ad) 1 1) (hnews : w.cell? ad = some (.string t)) (hlen : l.length ≤ 1000000)
    (h : ∀ v' w', OS B w0 w' v' (l ++ [t]) → wpList Tryz.prog ops Q rest (a.put o.dst v') w') : wpList Tryz.prog ops Q (o :: rest) a w := by
  obtain ⟨i0, hi, hz0, hz1, hz2⟩ := info_parts Tryz.info9
  refine wpList_append_own _ hgd s x 53 ho B 9 i0 (.string ByteArray.empty) 1 16 Tryz.underlying53 hi hz0 hz1 hz2 rfl (by decide) v l.length (svs l) hs hown.1 ad 1 1 [.string t] hx rfl ?_
    (fun u hu => by simp at hu; subst hu; rfl) (by unfold maxLen; omega) (by omega) hown.2.2 ?_
  · intro j u hj
    match j, hj with
    | 0, hj =>
      simp at hj
      subst hj
      have : ad.add 0 = ad := by unfold Addr.add; split <;> simp_all
      rw [this]
      exact hnews
  · intro v' w' h1 h2 _
    refine h v' w' ⟨by simpa [svs] using h1, hown.2.1.grown h2 hown.2.2 (fun k hk => (hown.1.lt k hk).1), ?_⟩
    exact Nat.le_trans hown.2.2 h2.size

/-- the shape of what is owned: nil and nothing, or a row from the head of a block -/
theorem OS.shape {B : Nat} {w0 w : World} {v : Value} {l : List ByteArray} (h : OS B w0 w v l) :
    (v = .slice none 0 0 ∧ l = []) ∨ ∃ g cap, v = .slice (some ⟨g, 0, none⟩) l.length cap ∧ B ≤ g ∧ g < w.heap.size := by
  rcases h.1.2 with ⟨hv, hn⟩ | ⟨g, cap, cur, hv, hbg, hg, rest⟩
  · exact .inl ⟨hv, List.length_eq_zero_iff.1 hn⟩
  · exact .inr ⟨g, cap, hv, hbg, (Array.getElem?_eq_some_iff.1 hg).1⟩

/-- a cell of what is owned -/
theorem OS.at {B : Nat} {w0 w : World} {l : List ByteArray} {g n cap : Nat} (h : OS B w0 w (.slice (some ⟨g, 0, none⟩) n cap) l) (j : Nat) (hj : j < l.length) : w.cell? ⟨g, j, none⟩ = some (.string l[j]) := by
  have h1 := h.1.cells (g := g) rfl j (.string l[j]) (by simp [svs, List.getElem?_eq_getElem hj])
  have e : (⟨g, 0, none⟩ : Addr).add j = ⟨g, j, none⟩ := by unfold Addr.add; split <;> simp_all
  rw [e] at h1
  exact h1

/-- what is owned begins its block -/
theorem OS.tb {B : Nat} {w0 w : World} {l : List ByteArray} {g n cap : Nat} (h : OS B w0 w (.slice (some ⟨g, 0, none⟩) n cap) l) : TB w g l := by
  have hat := fun j hj => h.at j hj
  rcases h.1.2 with ⟨hv, hn⟩ | ⟨g', cap', cur, hv, hbg, hg, rest⟩
  · simp at hv
  · simp at hv
    obtain ⟨rfl, _⟩ := hv
    refine ⟨cur, hg, fun j hj => ?_⟩
    have h1 := hat j hj
    rw [cell_of_row w g j cur 9 (0, 0) hg] at h1
    exact h1
theorem OS.ss {B : Nat} {w0 w : World} {v : Value} {l : List ByteArray} (h : OS B w0 w v l) (hl : l.length ≤ 1100000) : ∃ g, SS w v g 0 l := ss_own h.1 rfl hl
theorem OS.nil (w : World) : OS w.heap.size w w (.slice none 0 0) [] := ⟨World.ownsRow_nil _ _ _ _, Below.refl _ _, Nat.le_refl _⟩
theorem OS.lit (w : World) (t : ByteArray) : OS w.heap.size w (w.alloc (.cells #[.string t] 9)) (.slice (some ⟨w.heap.size, 0, none⟩) 1 1) [t] :=
  ⟨World.ownsRow_lit w #[.string t] 1 (Nat.le_refl _) (by decide) (by simp), (Below.refl _ _).alloc (Nat.le_refl _) _, by simp⟩

end Go.Proofs.YtklpanjedolkdaaGreatDoor
/-
  What the specification's Decimal answers: the numeral that strconv.Itoa's own contract names.
-/
namespace Go.Proofs.YtklpanjedolkdaaGreatDoor.D
open Go.RowKit
set_option linter.unusedVariables false

def fig (x : Nat) : UInt8 := UInt8.ofNat (48 + x)

def decR : Nat → Nat → List UInt8
  | 0, _ => []
  | f + 1, n => if n = 0 then [] else decR f (n / 10) ++ [fig (n % 10)]

theorem decR_digits : ∀ (f n : Nat), 0 < n → n < 10 ^ f → decR f n = Lib.decDigits n := by
  intro f
  induction f with
  | zero => intro n h0 h; simp at h; omega
  | succ f ih =>
    intro n h0 h
    rw [decR, if_neg (by omega)]
    by_cases hs : n < 10
    · rw [Lib.decDigits_one hs]
      have e1 : n / 10 = 0 := by omega
      have e2 : n % 10 = n := by omega
      rw [e1, e2]
      have e3 : decR f 0 = [] := by cases f <;> simp [decR]
      rw [e3]
      rfl
    · rw [Lib.decDigits, dif_neg hs, ih (n / 10) (by omega) (by rw [Nat.pow_succ] at h; omega)]
      rfl

theorem fig_nat (x : Nat) (h : x < 10) : (fig x).toNat = 48 + x := by
  unfold fig
  simp
  omega

theorem one_str (w : World) (b : UInt8) : (convert 175 9 (.slice (some ⟨w.heap.size, 0, none⟩) 1 1)).run Tryz.prog (w.alloc (.cells #[.int .u8 (b.toNat : Int)] 5)) = .ok (.string ⟨[b].toArray⟩) (w.alloc (.cells #[.int .u8 (b.toNat : Int)] 5)) := by
  refine run_convert_bytes_back (P := Tryz.prog) _ 175 9 5 ⟨w.heap.size, 0, none⟩ 1 [b] Tryz.underlying175 Tryz.underlying5 Tryz.underlying9 ?_
  intro j hj
  have h0 : j = 0 := by simpa using hj
  subst h0
  simp [Addr.add]

/-- one figure ahead of a text -/
def consB (b : UInt8) (t : ByteArray) : ByteArray := ⟨[b].toArray⟩ ++ t
theorem consB_list (b : UInt8) (t : ByteArray) : (consB b t).data.toList = b :: t.data.toList := by
  unfold consB
  simp
theorem consB_size (b : UInt8) (t : ByteArray) : (consB b t).size = t.size + 1 := by
  unfold consB
  rw [ByteArray.size_append]
  show 1 + t.size = _
  omega

def itoaB (n : Int) : ByteArray := ⟨(Lib.itoa n).toArray⟩

def DecRel (sg : Int) (n : Nat) (w : World) (x s : Value) (wr : World) : Prop :=
  ∃ (m f : Nat) (t : ByteArray), m ≤ n ∧ x = .int .i64 (sg * m) ∧ s = .string t ∧ t.size + f = 20 ∧ Hid (m < 10 ^ f) ∧ Hid (decR f m ++ t.data.toList = decR 20 n) ∧ Below w.heap.size w wr

theorem dec_end {n m f : Nat} {t : ByteArray} (h0 : 0 < n) (hn : n < 10 ^ 20) (hm : m = 0) (h : decR f m ++ t.data.toList = decR 20 n) : t = ⟨(Lib.decDigits n).toArray⟩ := by
  have h2 : decR f m = [] := by rw [hm]; cases f <;> simp [decR]
  rw [h2, List.nil_append, decR_digits 20 n h0 hn] at h
  rw [← h]

theorem dec_step {n m f : Nat} {t : ByteArray} (hm : ¬ m = 0) (hF : m < 10 ^ f) (h : decR f m ++ t.data.toList = decR 20 n) : ∃ f', f = f' + 1 ∧ m / 10 < 10 ^ f' ∧ decR f' (m / 10) ++ (consB (fig (m % 10)) t).data.toList = decR 20 n := by
  cases f with
  | zero => simp at hF; omega
  | succ f =>
    refine ⟨f, rfl, by rw [Nat.pow_succ] at hF; omega, ?_⟩
    rw [decR, if_neg hm] at h
    rw [consB_list]
    simpa using h

end Go.Proofs.YtklpanjedolkdaaGreatDoor.D
