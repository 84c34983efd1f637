/-
  Texts laid together: Drawc, Txt, Dtag.
-/
import Derived.Test.YtiabodhgjeoejaaPkC6
import Derived.Test.YtiabodhgjeoejaaPkC0
import Derived.Deep.QuietTactic
import Derived.BigQuiet
import Derived.SliceStrings
/-
  What is drawn for numbers and texts: DrawVarText, DrawHex.
-/
namespace Go.Proofs.Ytiabodhgjeoejaa
open Go.RowKit
set_option linter.unusedVariables false

def LgRel (w : World) (n : Nat) (x : UInt8) (i : Value) (wr : World) : Prop :=
  ∃ k : Nat, k ≤ n ∧ i = .int .i64 k ∧ wr.ownsRow w.heap.size 5 1 (.slice (some ⟨w.heap.size, 0, none⟩) n n) n (bv (List.replicate k x ++ List.replicate (n - k) 0)) ∧ Below w.heap.size w wr

theorem lg_set (x : UInt8) (n k : Nat) (h : k < n) : (bv (List.replicate k x ++ List.replicate (n - k) 0)).set k (.int .u8 (x.toNat : Int)) = bv (List.replicate (k + 1) x ++ List.replicate (n - (k + 1)) 0) := by
  have e : n - k = (n - (k + 1)) + 1 := by omega
  have e2 : List.replicate k x ++ List.replicate (n - k) 0 = List.replicate k x ++ 0 :: List.replicate (n - (k + 1)) 0 := by rw [e, List.replicate_succ]
  have e3 : List.replicate (k + 1) x = List.replicate k x ++ [x] := List.replicate_succ'
  rw [e2, e3]
  unfold bv
  rw [List.map_append, List.map_cons, List.set_append_right _ _ (by simp), List.length_map, List.length_replicate, Nat.sub_self, List.set_cons_zero]
  simp

theorem l01PickInt_in (B : Nat) (w0 w : World) (g : Nat) (v : Value) (gl cap : Nat) (zs : List Int) (hc : Cur B w0 w g v) (h0 : 0 < zs.length) (h1 : zs.length ≤ 1000000) (hne : gl ≠ g) (hgl : gl < w.heap.size)
    (hcell : Hid (∀ j, (h : j < zs.length) → w.cell? ⟨gl, j, none⟩ = some (.int .i64 zs[j]))) :
    Calls Try.prog 82 #[.pointer (some ⟨g, 0, none⟩), .slice (some ⟨gl, 0, none⟩) zs.length cap] w fun e w' => ∃ y : Int, y ∈ zs ∧ e = .returned (.int .i64 y) ∧ Cur B w0 w' g v ∧ w.grownBy w' (some g) := by
  go_enter Try.func82, Try.ntmps82
  go_wp2_with fail
  refine (l01Below_nat B w0 _ g v zs.length hc h0 (by omega)).mono ?_
  rintro e w1 ⟨j, hj, rfl, hc1, hg1⟩
  have hcl : w1.cell? ⟨gl, j, none⟩ = some (.int .i64 zs[j]) := hg1.cell (hcell.out j hj) (by simpa using hne)
  go_wp2
  go_ret
  exact ⟨zs[j], List.getElem_mem _, rfl, hc1, hg1⟩

def numList : List Int := [-1, 0, 127, 128, 16383, 16384, 1000000000, 1000000001, 9223372036854775807, -9223372036854775808]
theorem numList_in (y : Int) (h : y ∈ numList) : -9223372036854775808 ≤ y ∧ y ≤ 9223372036854775807 := by
  simp [numList] at h
  omega

def numCells : Array Value := #[.int .i64 (-1), .int .i64 0, .int .i64 127, .int .i64 128, .int .i64 16383, .int .i64 16384, .int .i64 1000000000, .int .i64 1000000001, .int .i64 9223372036854775807, .int .i64 (-9223372036854775808)]
theorem numCells_at (w : World) : Hid (∀ j, (h : j < numList.length) → (w.alloc (.cells numCells 3)).cell? ⟨w.heap.size, j, none⟩ = some (.int .i64 numList[j])) := by
  intro j hj
  rw [World.cell?_alloc_at _ _ _ _ rfl]
  have : j = 0 ∨ j = 1 ∨ j = 2 ∨ j = 3 ∨ j = 4 ∨ j = 5 ∨ j = 6 ∨ j = 7 ∨ j = 8 ∨ j = 9 := by simp [numList] at hj; omega
  rcases this with rfl | rfl | rfl | rfl | rfl | rfl | rfl | rfl | rfl | rfl <;> rfl

end Go.Proofs.Ytiabodhgjeoejaa
/-
  Rows of texts: one measured, one taken over into a new one, two compared.
-/
namespace Go.Proofs.Ytiabodhgjeoejaa
open Go.RowKit Go.BigFrame
set_option linter.unusedVariables false

theorem Try.info9 : (Try.prog.info? 9).map (fun i => (i.zero, i.size, i.bytes)) = some (some (.string ByteArray.empty), 1, 16) := by kernel_rfl

/-- v reads as the texts l, which lie in block g from place o on -/
def SS (w : World) (v : Value) (g o : Nat) (l : List ByteArray) : Prop :=
  ∃ a cap, v = .slice a l.length cap ∧ l.length ≤ 1100000 ∧ (0 < l.length → a = some ⟨g, o, none⟩) ∧ ∀ j (h : j < l.length), w.cell? ⟨g, o + j, none⟩ = some (.string l[j])

theorem SS.below {w w' : World} {v : Value} {g o B : Nat} {l : List ByteArray} (h : SS w v g o l) (hb : Below B w w') (hg : 0 < l.length → g < B) : SS w' v g o l := by
  obtain ⟨a, cap, h1, h2, h3, h4⟩ := h
  exact ⟨a, cap, h1, h2, h3, fun j hj => (hb.cell (p := ⟨g, o + j, none⟩) (hg (by omega))).trans (h4 j hj)⟩
theorem SS.drewN {w : World} {v : Value} {g o : Nat} {l : List ByteArray} (h : SS w v g o l) (n : Nat) : SS (w.drewN n) v g o l := h

def EqS (n : Nat) (w : World) (i : Value) (wr : World) : Prop := ∃ m q : Nat, m ≤ n ∧ i = .int .i64 m ∧ wr = w.drewN q

/-- block g begins with the texts l, and may be written -/
def TB (w : World) (g : Nat) (l : List ByteArray) : Prop := ∃ cur, w.heap[g]? = some (.cells cur 9 (0, 0)) ∧ ∀ j (h : j < l.length), cur[j]? = some (.string l[j])
theorem TB.cell {w : World} {g : Nat} {l : List ByteArray} (h : TB w g l) (j : Nat) (hj : j < l.length) : w.cell? ⟨g, j, none⟩ = some (.string l[j]) := by
  obtain ⟨cur, h1, h2⟩ := h
  rw [cell_of_row w g j cur 9 (0, 0) h1]
  exact h2 j hj
theorem TB.frozen {w : World} {g : Nat} {l : List ByteArray} (h : TB w g l) (j : Nat) : w.frozen? ⟨g, j, none⟩ = false := by
  obtain ⟨cur, h1, h2⟩ := h
  simp [World.frozen?, h1]
theorem TB.lt {w : World} {g : Nat} {l : List ByteArray} (h : TB w g l) : g < w.heap.size := by
  obtain ⟨cur, h1, h2⟩ := h
  exact (Array.getElem?_eq_some_iff.1 h1).1
theorem TB.set {w : World} {g : Nat} {l : List ByteArray} (h : TB w g l) (i : Nat) (hi : i < l.length) (x : ByteArray) : TB (w.setCell ⟨g, i, none⟩ (.string x)) g (l.set i x) := by
  obtain ⟨cur, h1, h2⟩ := h
  have hc := h2 i hi
  have his : i < cur.size := (Array.getElem?_eq_some_iff.1 hc).1
  refine ⟨_, heap_setCell_same w g i cur 9 _ h1, fun j hj => ?_⟩
  have hj' : j < l.length := by simpa using hj
  rw [Array.getElem?_setIfInBounds]
  by_cases he : i = j
  · subst he
    simp [his]
  · rw [if_neg he, h2 j hj']
    simp [List.getElem_set_ne he]
theorem TB.below {w w' : World} {g B : Nat} {l : List ByteArray} (h : TB w g l) (hb : Below B w w') (hg : g < B) : TB w' g l := by
  obtain ⟨cur, h1, h2⟩ := h
  exact ⟨cur, by rw [hb.block g hg]; exact h1, h2⟩
theorem TB.ss {w : World} {g : Nat} {l : List ByteArray} (h : TB w g l) (cap n : Nat) (hn : l.length = n) (hl : n ≤ 1100000) : SS w (.slice (some ⟨g, 0, none⟩) n cap) g 0 l := by
  subst hn
  exact ⟨_, cap, rfl, hl, fun _ => rfl, fun j hj => by rw [Nat.zero_add]; exact h.cell j hj⟩

/-- 'make([]string, n)' -/
theorem TB.made (n : Nat) (h : n ≤ 1000000000) (W : World) : ∃ w', (Instr.makeSlice 111 (.int .i64 (n : Int)) (.int .i64 (n : Int))).run Try.prog W = .ok (.slice (some ⟨W.heap.size, 0, none⟩) n n) w' ∧ TB w' W.heap.size (List.replicate n ByteArray.empty) ∧ Below W.heap.size W w' ∧ w'.heap.size = W.heap.size + 1 := by
  obtain ⟨i0, hi, hz0, hz1, hz2⟩ := info_parts Try.info9
  have h1 := run_make (P := Try.prog) W 111 9 i0 (.string ByteArray.empty) Try.underlying111 hi hz0 .i64 .i64 (n : Int) (n : Int) (by omega) (by omega) (by rw [hz2]; omega) (by omega)
  refine ⟨_, by simpa using h1, ⟨_, Go.heap_alloc_new W _, fun j hj => ?_⟩, (Below.refl _ _).alloc (Nat.le_refl _) _, by simp⟩
  have hj' : j < n := by simpa using hj
  have e : (madeCells (Value.string ByteArray.empty).cells (n * i0.size)).toList = List.replicate n (.string ByteArray.empty) := by
    rw [hz1]
    simp [Value.cells, toList_madeCells_one]
  rw [← Array.getElem?_toList, e]
  simp [hj']

def srow (l : List ByteArray) (m : Nat) : List ByteArray := l.take m ++ List.replicate (l.length - m) ByteArray.empty
theorem srow_len (l : List ByteArray) (m : Nat) (h : m ≤ l.length) : (srow l m).length = l.length := by simp [srow]; omega
theorem srow_step (l : List ByteArray) (m : Nat) (h : m < l.length) : (srow l m).set m l[m] = srow l (m + 1) := by
  unfold srow
  have e : l.length - m = (l.length - (m + 1)) + 1 := by omega
  have e2 : (l.take m).length = m := by simp; omega
  rw [e, List.replicate_succ, List.set_append_right _ _ (by omega), e2, Nat.sub_self, List.set_cons_zero, ← List.take_append_getElem h, List.append_assoc]
  rfl
theorem srow_all (l : List ByteArray) : srow l l.length = l := by simp [srow]
def ToS (w : World) (l : List ByteArray) (g : Nat) (i : Value) (wr : World) : Prop := ∃ m : Nat, m ≤ l.length ∧ i = .int .i64 m ∧ TB wr g (srow l m) ∧ Below w.heap.size w wr

/-- so many bytes in all, and one for each text -/
def szL (l : List ByteArray) : Nat := l.length + (l.map ByteArray.size).sum
theorem sz_le (l : List ByteArray) (x : ByteArray) (h : x ∈ l) : x.size ≤ szL l := by
  unfold szL
  induction l with
  | nil => simp at h
  | cons y r ih =>
    rcases List.mem_cons.1 h with rfl | h
    · simp; omega
    · have := ih h
      simp at this ⊢
      omega
def preS (l : List ByteArray) (m : Nat) : Nat := ((l.take m).map ByteArray.size).sum
theorem preS_step (l : List ByteArray) (m : Nat) (h : m < l.length) : preS l (m + 1) = preS l m + l[m].size := by
  unfold preS
  rw [← List.take_append_getElem h, List.map_append, List.sum_append]
  simp
theorem preS_le (l : List ByteArray) (m : Nat) : preS l m ≤ (l.map ByteArray.size).sum := by
  have e : (l.map ByteArray.size).sum = preS l m + ((l.drop m).map ByteArray.size).sum := by
    unfold preS
    rw [← List.sum_append, ← List.map_append, List.take_append_drop]
  omega
theorem preS_all (l : List ByteArray) : preS l l.length = (l.map ByteArray.size).sum := by simp [preS]

def SzR (l : List ByteArray) (w : World) (x i : Value) (wr : World) : Prop := ∃ m : Nat, m ≤ l.length ∧ i = .int .i64 m ∧ x = .int .i64 (1048576 - (l.length : Int) - (preS l m : Int)) ∧ l.length + preS l m ≤ 1048576 ∧ wr = w

def wr_cell (w : World) (g o m : Nat) (x : ByteArray) : Prop := w.cell? ⟨g, o + m, none⟩ = some (.string x)

/-- what the law measures: what is left of 1 << 20, or less than nothing -/
def szA (l : List ByteArray) : Int := if szL l ≤ 1048576 then 1048576 - (szL l : Int) else -1

/-- what is put into the hands of a law: texts that were there, all up to the capacity -/
def IsRowS (w : World) (a : Option Addr) (len cap : Nat) (ss : List ByteArray) : Prop :=
  (a = none ∧ len = 0 ∧ cap = 0 ∧ ss = []) ∨ ∃ x : Addr, a = some x ∧ len ≤ cap ∧ cap ≤ maxLen ∧ len ≤ ss.length ∧ (∀ i, i < ss.length → w.cell? (x.add i) = some (.string (ss.getD i ByteArray.empty))) ∧ ∀ s ∈ ss, s.size ≤ maxLen
theorem IsRowS.len {w : World} {a : Option Addr} {len cap : Nat} {ss : List ByteArray} (h : IsRowS w a len cap ss) : len ≤ maxLen := by
  rcases h with ⟨_, rfl, _⟩ | ⟨x, _, h1, h2, _⟩
  · omega
  · omega
theorem SS.lt {w : World} {v : Value} {g o : Nat} {l : List ByteArray} (h : SS w v g o l) : 0 < l.length → g < w.heap.size := by
  intro h0
  obtain ⟨_, _, _, _, _, hc⟩ := h
  have h4 := hc 0 h0
  rcases Nat.lt_or_ge g w.heap.size with hlt | hge
  · exact hlt
  · simp [World.cell?, Array.getElem?_eq_none hge] at h4
theorem ss_of_row {w : World} {a : Option Addr} {len cap : Nat} {ss : List ByteArray} (h : IsRowS w a len cap ss) (hl : len ≤ 1048576) : ∃ (g o : Nat) (l : List ByteArray), l.length = len ∧ SS w (.slice a len cap) g o l ∧ ∀ x ∈ l, x.size ≤ maxLen := by
  rcases h with ⟨rfl, rfl, rfl, rfl⟩ | ⟨x, rfl, h1, h2, h3, hc, hz⟩
  · exact ⟨0, 0, [], rfl, ⟨none, 0, rfl, by simp, fun h => absurd h (by simp), fun j hj => absurd hj (by simp)⟩, fun x hx => absurd hx (by simp)⟩
  · have hlen : (ss.take len).length = len := by simp; omega
    have hadd : ∀ j, 0 < len → x.add j = ⟨x.block, x.off + j, none⟩ := fun j h0 => by
      have h4 := hc 0 (by omega)
      have e : x.add 0 = x := by unfold Addr.add; simp
      rw [e] at h4
      have hs := World.cell?_spot h4
      cases x
      simp at hs
      subst hs
      unfold Addr.add
      split <;> simp_all
    refine ⟨x.block, x.off, ss.take len, hlen, ⟨some x, cap, by rw [hlen], by omega, fun h0 => ?_, fun j hj => ?_⟩, fun y hy => hz y (List.mem_of_mem_take hy)⟩
    · have := hadd 0 (by omega)
      have e : x.add 0 = x := by unfold Addr.add; simp
      rw [e] at this
      rw [this]
    · have h4 := hc j (by omega)
      rw [hadd j (by omega)] at h4
      rw [h4]
      simp [List.getD, List.getElem?_eq_getElem (show j < ss.length by omega)]

end Go.Proofs.Ytiabodhgjeoejaa
/-
  What DrawTagText draws: some kind, and some parts.
-/
namespace Go.Proofs.Ytiabodhgjeoejaa
open Go.RowKit
set_option linter.unusedVariables false

def svs (l : List ByteArray) : List Value := l.map Value.string
theorem svs_append (l r : List ByteArray) : svs (l ++ r) = svs l ++ svs r := by simp [svs]

theorem own_neS {B Bw : Nat} {w0 w : World} {g n : Nat} {v u : Value} {xs : List Value} (hc : Cur B w0 w g v) (ho : w.ownsRow Bw 9 1 u n xs) : some g ≠ u.ownBlock := by
  intro he
  obtain ⟨_, _, _, i, x, hb, _⟩ := hc
  rcases ho.2 with ⟨rfl, _⟩ | ⟨g', cap, cur, rfl, _, hg, _⟩
  · simp [Value.ownBlock] at he
  · simp [Value.ownBlock] at he
    subst he
    rw [hb] at hg
    simp at hg

theorem wp_appT {w : World} {ops : Array Oper} {rest : List Oper} {o : Oper} {a : Act} {Q : Exit → Act → World → Prop} (hgd : o.guard = none) (s x : Operand)
    (ho : o.op = .call { callee := .builtin .append, args := #[s, x], argTypes := #[111, 111] })
    (B : Nat) (v : Value) (l : List ByteArray) (hs : a.eval s = v) (hown : w.ownsRow B 9 1 v l.length (svs l)) (hsz : B ≤ w.heap.size)
    (ad : Addr) (t : ByteArray) (hx : a.eval x = .slice (some ad) 1 1) (hnews : w.cell? ad = some (.string t)) (hlen : l.length ≤ 1000000)
    (h : ∀ v' w', w'.ownsRow B 9 1 v' (l ++ [t]).length (svs (l ++ [t])) → w.grownBy w' v.ownBlock → wpList Try.prog ops Q rest (a.put o.dst v') w') : wpList Try.prog ops Q (o :: rest) a w := by
  obtain ⟨i0, hi, hz0, hz1, hz2⟩ := info_parts Try.info9
  refine wpList_append_own _ hgd s x 111 ho B 9 i0 (.string ByteArray.empty) 1 16 Try.underlying111 hi hz0 hz1 hz2 rfl (by decide) v l.length (svs l) hs hown ad 1 1 (svs [t]) hx (by simp [svs]) ?_
    (fun u hu => by simp [svs] at hu; subst hu; rfl) (by unfold maxLen; omega) (by omega) hsz ?_
  · intro j u hj
    match j, hj with
    | 0, hj =>
      simp [svs] at hj
      subst hj
      have : ad.add 0 = ad := by unfold Addr.add; split <;> simp_all
      rw [this]
      exact hnews
  · intro v' w' h1 h2 _
    exact h v' w' (by rw [List.length_append, svs_append]; exact h1) h2

theorem one_text (w : World) (t : ByteArray) (y : TypeId) : (w.alloc (.cells #[.string t] y)).cell? ⟨w.heap.size, 0, none⟩ = some (.string t) := by simp

def kindsL : List Int := [1, 2, 3, 8, 0, 9, 5]
def kindsC : Array Value := #[.int .i64 1, .int .i64 2, .int .i64 3, .int .i64 8, .int .i64 0, .int .i64 9, .int .i64 5]
theorem kinds_at (w : World) : Hid (∀ j, (h : j < kindsL.length) → (w.alloc (.cells kindsC 3)).cell? ⟨w.heap.size, j, none⟩ = some (.int .i64 kindsL[j])) := by
  intro j hj
  rw [World.cell?_alloc_at _ _ _ _ rfl]
  have : j = 0 ∨ j = 1 ∨ j = 2 ∨ j = 3 ∨ j = 4 ∨ j = 5 ∨ j = 6 := by simp [kindsL] at hj; omega
  rcases this with rfl | rfl | rfl | rfl | rfl | rfl | rfl <;> rfl

/-- what the first loop holds: as many texts as rounds -/
def DtR (w : World) (g : Nat) (v u i : Value) (wr : World) : Prop :=
  ∃ (k : Nat) (l : List ByteArray), k ≤ 4 ∧ i = .int .i64 k ∧ l.length = k ∧ wr.ownsRow w.heap.size 9 1 u l.length (svs l) ∧ Cur w.heap.size w wr g v

/-- what the second loop holds -/
def DuR (w : World) (u : Value) (wr : World) : Prop :=
  ∃ l : List ByteArray, l.length ≤ 61 ∧ wr.ownsRow w.heap.size 9 1 u l.length (svs l) ∧ Below w.heap.size w wr ∧ w.heap.size ≤ wr.heap.size

theorem ss_own {B n : Nat} {w : World} {u : Value} {l : List ByteArray} (h : w.ownsRow B 9 1 u n (svs l)) (hn : n = l.length) (hl : l.length ≤ 1100000) : ∃ g, SS w u g 0 l := by
  subst hn
  rcases h.2 with ⟨hv, hn⟩ | ⟨g, cap, cur, hv, hbg, hg, rest⟩
  · have e : l = [] := List.length_eq_zero_iff.1 hn
    subst e
    exact ⟨0, none, 0, hv, by simp, fun h => absurd h (by simp), fun j hj => absurd hj (by simp)⟩
  · subst hv
    refine ⟨g, _, cap, rfl, hl, fun _ => rfl, fun j hj => ?_⟩
    rw [Nat.zero_add, World.ownsRow.cellAt h j (by omega)]
    simp [svs, List.getElem?_eq_getElem hj]

theorem own_later {B n e : Nat} {w w' : World} {v : Value} {xs : List Value} (h : w.ownsRow B e 1 v n xs) (hb : Below w.heap.size w w') : w'.ownsRow B e 1 v n xs := by
  refine ⟨h.1, ?_⟩
  rcases h.2 with hn | ⟨g, cap, cur, hv, hbg, hg, rest⟩
  · exact .inl hn
  · refine .inr ⟨g, cap, cur, hv, hbg, ?_, rest⟩
    rw [hb.block g (Array.getElem?_eq_some_iff.1 hg).1]
    exact hg

theorem own_slice {B n e : Nat} {w : World} {v : Value} {xs : List Value} (h : w.ownsRow B e 1 v n xs) : ∃ a c, v = .slice a n c := by
  rcases h.2 with ⟨hv, hn⟩ | ⟨g, cap, cur, hv, hbg, hg, rest⟩
  · exact ⟨none, 0, by rw [hv, hn]⟩
  · exact ⟨_, cap, hv⟩

def lenOf : Value → Nat
  | .slice _ n _ => n
  | _ => 0

/-- what DrawTagText gives -/
def DtAns (w : World) (e : Ending) (w' : World) : Prop := ∃ (k : Int) (u : Value) (g : Nat) (l : List ByteArray), e = .returned (.tuple #[.int .i64 k, u]) ∧ SS w' u g 0 l ∧ Below w.heap.size w w'

end Go.Proofs.Ytiabodhgjeoejaa
