/-
  Texts laid together: Dn, Sgl, Dsg.
-/
import Derived.Test.YtaejeemjndmjcaaDoorPkS1
import Derived.Test.YtaejeemjndmjcaaDoorPkS11
import Derived.Test.YtaejeemjndmjcaaDoorPkS23
import Derived.Test.YtaejeemjndmjcaaDoorPkS34
/-
  What the draws of names, values and places of bits give.
-/
namespace Go.Proofs.YtaejeemjndmjcaaDoor
open Go.RowKit
set_option linter.unusedVariables false

def nameL : List ByteArray := [⟨#[97, 110, 110]⟩, ⟨#[98, 111, 98]⟩, ⟨#[99, 97, 116]⟩, ⟨#[100, 97, 110]⟩, ⟨#[101, 118, 101]⟩, ⟨#[102, 97, 121]⟩, ⟨#[103, 117, 115]⟩, ⟨#[104, 97, 108]⟩, ⟨#[105, 118, 121]⟩, ⟨#[106, 111, 101, 64, 120, 46, 111, 114, 103]⟩, ⟨#[107, 105, 109]⟩, ⟨#[108, 101, 111]⟩]
def nameC : Array Value := #[.string ⟨#[97, 110, 110]⟩, .string ⟨#[98, 111, 98]⟩, .string ⟨#[99, 97, 116]⟩, .string ⟨#[100, 97, 110]⟩, .string ⟨#[101, 118, 101]⟩, .string ⟨#[102, 97, 121]⟩, .string ⟨#[103, 117, 115]⟩, .string ⟨#[104, 97, 108]⟩, .string ⟨#[105, 118, 121]⟩, .string ⟨#[106, 111, 101, 64, 120, 46, 111, 114, 103]⟩, .string ⟨#[107, 105, 109]⟩, .string ⟨#[108, 101, 111]⟩]
theorem name_at (w : World) : Hid (∀ j, (h : j < nameL.length) → (w.alloc (.cells nameC 9)).cell? ⟨w.heap.size, j, none⟩ = some (.string nameL[j])) := by
  intro j hj
  rw [World.cell?_alloc_at _ _ _ _ rfl]
  have : j = 0 ∨ j = 1 ∨ j = 2 ∨ j = 3 ∨ j = 4 ∨ j = 5 ∨ j = 6 ∨ j = 7 ∨ j = 8 ∨ j = 9 ∨ j = 10 ∨ j = 11 := by simp [nameL] at hj; omega
  rcases this with rfl | rfl | rfl | rfl | rfl | rfl | rfl | rfl | rfl | rfl | rfl | rfl <;> rfl

theorem nameL_ok : ∀ y ∈ nameL, okB nameB y = true ∧ y.size ≤ 12 := by decide +kernel

def nokL : List ByteArray := [⟨#[]⟩, ⟨#[97, 110, 110]⟩, ⟨#[106, 111, 101, 64, 120, 46, 111, 114, 103]⟩, ⟨#[65]⟩, ⟨#[116, 119, 101, 108, 118, 101, 116, 119, 101, 108, 118, 101]⟩, ⟨#[116, 104, 105, 114, 116, 101, 101, 110, 116, 104, 105, 114, 116]⟩, ⟨#[97, 32, 98]⟩, ⟨#[48]⟩, ⟨#[97, 0]⟩]
def nokC : Array Value := #[.string ⟨#[]⟩, .string ⟨#[97, 110, 110]⟩, .string ⟨#[106, 111, 101, 64, 120, 46, 111, 114, 103]⟩, .string ⟨#[65]⟩, .string ⟨#[116, 119, 101, 108, 118, 101, 116, 119, 101, 108, 118, 101]⟩, .string ⟨#[116, 104, 105, 114, 116, 101, 101, 110, 116, 104, 105, 114, 116]⟩, .string ⟨#[97, 32, 98]⟩, .string ⟨#[48]⟩, .string ⟨#[97, 0]⟩]
theorem nok_at (w : World) : Hid (∀ j, (h : j < nokL.length) → (w.alloc (.cells nokC 9)).cell? ⟨w.heap.size, j, none⟩ = some (.string nokL[j])) := by
  intro j hj
  rw [World.cell?_alloc_at _ _ _ _ rfl]
  have : j = 0 ∨ j = 1 ∨ j = 2 ∨ j = 3 ∨ j = 4 ∨ j = 5 ∨ j = 6 ∨ j = 7 ∨ j = 8 := by simp [nokL] at hj; omega
  rcases this with rfl | rfl | rfl | rfl | rfl | rfl | rfl | rfl | rfl <;> rfl

theorem nokL_ok : ∀ y ∈ nokL, y.size ≤ 13 := by decide +kernel

def vokL : List ByteArray := [⟨#[]⟩, ⟨#[107, 49]⟩, ⟨#[126]⟩, ⟨#[116, 119, 101, 108, 118, 101, 116, 119, 101, 108, 118, 101]⟩, ⟨#[116, 104, 105, 114, 116, 101, 101, 110, 116, 104, 105, 114, 116]⟩, ⟨#[97, 32, 98]⟩, ⟨#[127]⟩, ⟨#[65, 33]⟩]
def vokC : Array Value := #[.string ⟨#[]⟩, .string ⟨#[107, 49]⟩, .string ⟨#[126]⟩, .string ⟨#[116, 119, 101, 108, 118, 101, 116, 119, 101, 108, 118, 101]⟩, .string ⟨#[116, 104, 105, 114, 116, 101, 101, 110, 116, 104, 105, 114, 116]⟩, .string ⟨#[97, 32, 98]⟩, .string ⟨#[127]⟩, .string ⟨#[65, 33]⟩]
theorem vok_at (w : World) : Hid (∀ j, (h : j < vokL.length) → (w.alloc (.cells vokC 9)).cell? ⟨w.heap.size, j, none⟩ = some (.string vokL[j])) := by
  intro j hj
  rw [World.cell?_alloc_at _ _ _ _ rfl]
  have : j = 0 ∨ j = 1 ∨ j = 2 ∨ j = 3 ∨ j = 4 ∨ j = 5 ∨ j = 6 ∨ j = 7 := by simp [vokL] at hj; omega
  rcases this with rfl | rfl | rfl | rfl | rfl | rfl | rfl | rfl <;> rfl

theorem vokL_ok : ∀ y ∈ vokL, y.size ≤ 13 := by decide +kernel

/-- a number that fits -/
def fits (y : Int) : Prop := -9223372036854775808 ≤ y ∧ y ≤ 9223372036854775807
def plL (n : Nat) : List Int := [-1, (n : Int), (n : Int) + 1, 9223372036854775807, -9223372036854775808]
def plC (n : Nat) : Array Value := #[.int .i64 (-1), .int .i64 (n : Int), .int .i64 ((n : Int) + 1), .int .i64 9223372036854775807, .int .i64 (-9223372036854775808)]
theorem pl_at (n : Nat) (w : World) : Hid (∀ j, (h : j < (plL n).length) → (w.alloc (.cells (plC n) 3)).cell? ⟨w.heap.size, j, none⟩ = some (.int .i64 (plL n)[j])) := by
  intro j hj
  rw [World.cell?_alloc_at _ _ _ _ rfl]
  have : j = 0 ∨ j = 1 ∨ j = 2 ∨ j = 3 ∨ j = 4 := by simp [plL] at hj; omega
  rcases this with rfl | rfl | rfl | rfl | rfl <;> rfl
theorem plL_in (n : Nat) (hn : n ≤ 1000000) (y : Int) (h : y ∈ plL n) : fits y := by
  unfold fits
  simp [plL] at h
  omega

end Go.Proofs.YtaejeemjndmjcaaDoor
/-
  What the laws' own helpers do with signatures: measured, taken over, compared, marked, held.
-/
namespace Go.Proofs.YtaejeemjndmjcaaDoor
open Go.RowKit Go.BigFrame
set_option linter.unusedVariables false

def SzT (n : Nat) (w : World) (x i : Value) (wr : World) : Prop := ∃ (m : Nat) (y : Int), m ≤ n ∧ i = .int .i64 m ∧ x = .int .i64 y ∧ (0 ≤ y ∧ y ≤ 1048576) ∧ wr = w

/-- behind what was written into three rows alone -/
def Grown3 (w w' : World) (r1 r2 r3 : Option Nat) : Prop := ∃ wa wb, w.grownBy wa r1 ∧ wa.grownBy wb r2 ∧ wb.grownBy w' r3
theorem Grown3.ts {w w' : World} {r1 r2 r3 : Option Nat} {g : Nat} {v : Value} {l : List ByteArray} (h : Grown3 w w' r1 r2 r3) (ht : TS w v g l) (hn : 0 < l.length → some g ≠ r1 ∧ some g ≠ r2 ∧ some g ≠ r3) : TS w' v g l := by
  obtain ⟨wa, wb, ha, hb, hc⟩ := h
  exact ((ht.keptG ha (fun h => (hn h).1)).keptG hb (fun h => (hn h).2.1)).keptG hc (fun h => (hn h).2.2)
theorem Grown3.below {B : Nat} {w0 w w' : World} {r1 r2 r3 : Option Nat} (h : Grown3 w w' r1 r2 r3) (hb : Below B w0 w) (hB : B ≤ w.heap.size) (h1 : ∀ k, r1 = some k → B ≤ k) (h2 : ∀ k, r2 = some k → B ≤ k) (h3 : ∀ k, r3 = some k → B ≤ k) : Below B w0 w' := by
  obtain ⟨wa, wb, ha, hb2, hc⟩ := h
  have hB1 : B ≤ wa.heap.size := Nat.le_trans hB ha.size
  exact ((hb.grown ha hB h1).grown hb2 hB1 h2).grown hc (Nat.le_trans hB1 hb2.size) h3
theorem Grown3.size {w w' : World} {r1 r2 r3 : Option Nat} (h : Grown3 w w' r1 r2 r3) : w.heap.size ≤ w'.heap.size := by
  obtain ⟨wa, wb, ha, hb2, hc⟩ := h
  exact Nat.le_trans ha.size (Nat.le_trans hb2.size hc.size)
theorem rowOf_le {B g : Nat} {l : List ByteArray} (h : B ≤ g) : ∀ k, rowOf g l = some k → B ≤ k := by
  intro k hk
  unfold rowOf at hk
  split at hk
  · cases hk
  · simp at hk
    omega

end Go.Proofs.YtaejeemjndmjcaaDoor
/-
  What DrawSignText gives; two signatures compared by the law.
-/
namespace Go.Proofs.YtaejeemjndmjcaaDoor
open Go.RowKit Go.BigFrame
set_option linter.unusedVariables false
set_option linter.unusedSimpArgs false

set_option maxRecDepth 100000 in
set_option maxHeartbeats 400000 in
theorem sameTexts_yes (va vb : Value) (ga oa gb ob : Nat) (l : List ByteArray) (w : World) (ha : SS w va ga oa l) (hb : SS w vb gb ob l) :
    Calls Tryd.prog 79 #[va, vb] w fun e w' => e = .returned (.bool true) ∧ ∃ q, w' = w.drewN q := by
  obtain ⟨a, ca, rfl, hl, hA, hcA⟩ := ha
  obtain ⟨b, cb, rfl, _, hB, hcB⟩ := hb
  obtain ⟨n, hn⟩ : ∃ n, l.length = n := ⟨_, rfl⟩
  rw [hn] at hl ⊢
  have HA : Hid (0 < n → a = some ⟨ga, oa, none⟩) := by rw [← hn]; exact hA
  have HB : Hid (0 < n → b = some ⟨gb, ob, none⟩) := by rw [← hn]; exact hB
  clear hA hB
  go_enter Tryd.func79, Tryd.ntmps79
  go_wp2
  go_loopw [5] (fun i wr => EqS n w i wr) (fun i _ => n - (intOf i).toNat)
  case atStart => exact ⟨0, 0, by omega, rfl, rfl⟩
  case round =>
    obtain ⟨m, q, hm, rfl, rfl⟩ := hrel
    by_cases hlt : m < n
    · have ea := HA.out (by omega)
      have eb := HB.out (by omega)
      subst ea
      subst eb
      have c1 := hcA m (by omega)
      have c2 := hcB m (by omega)
      generalize l[m]'(by omega) = X at *
      have i1 : (m : Int) < (n : Int) := by omega
      have i2 : (0 : Int) ≤ (m : Int) := by omega
      clear hcA hcB HA HB
      go_wp2
      go_quiet (fail)
      go_wp2
      go_roundw
      case rel => exact ⟨m + 1, _, by omega, by go_num, rfl⟩
      case measure => simp [intOf]; omega
    · have hme : m = n := by omega
      subst hme
      clear hcA hcB HA HB
      go_wp2
      go_ret
      exact ⟨rfl, q, rfl⟩

set_option maxRecDepth 100000 in
set_option maxHeartbeats 1000000 in
theorem sameSig_yes (a : Int) (v1 v2 v3 u1 u2 u3 : Value) (g1 o1 g2 o2 g3 o3 p1 q1 p2 q2 p3 q3 : Nat) (o s d : List ByteArray) (w : World) (h1 : SS w v1 g1 o1 o) (h2 : SS w v2 g2 o2 s) (h3 : SS w v3 g3 o3 d) (k1 : SS w u1 p1 q1 o) (k2 : SS w u2 p2 q2 s) (k3 : SS w u3 p3 q3 d) :
    Calls Tryd.prog 47 #[.agg #[.int .i64 a, v1, v2, v3], .agg #[.int .i64 a, u1, u2, u3]] w fun e w' => e = .returned (.bool true) ∧ Below w.heap.size w w' := by
  have H1 : Hid (∀ W, Below w.heap.size w W → Calls Tryd.prog 79 #[v1, u1] W fun e w' => e = .returned (.bool true) ∧ ∃ q, w' = W.drewN q) := fun W hW => sameTexts_yes v1 u1 g1 o1 p1 q1 o W (h1.below hW h1.lt) (k1.below hW k1.lt)
  have H2 : Hid (∀ W, Below w.heap.size w W → Calls Tryd.prog 79 #[v2, u2] W fun e w' => e = .returned (.bool true) ∧ ∃ q, w' = W.drewN q) := fun W hW => sameTexts_yes v2 u2 g2 o2 p2 q2 s W (h2.below hW h2.lt) (k2.below hW k2.lt)
  have H3 : Hid (∀ W, Below w.heap.size w W → Calls Tryd.prog 79 #[v3, u3] W fun e w' => e = .returned (.bool true) ∧ ∃ q, w' = W.drewN q) := fun W hW => sameTexts_yes v3 u3 g3 o3 p3 q3 d W (h3.below hW h3.lt) (k3.below hW k3.lt)
  have HB : Hid (∀ x y : Obj, Below w.heap.size w ((w.alloc x).alloc y)) := fun x y => ((Below.refl _ _).alloc (Nat.le_refl _) _).alloc (by simp) _
  obtain ⟨_, _, rfl, x1, y1⟩ := h1
  obtain ⟨_, _, rfl, x2, y2⟩ := h2
  obtain ⟨_, _, rfl, x3, y3⟩ := h3
  obtain ⟨_, _, rfl, x4, y4⟩ := k1
  obtain ⟨_, _, rfl, x5, y5⟩ := k2
  obtain ⟨_, _, rfl, x6, y6⟩ := k3
  clear x1 x2 x3 x4 x5 x6 y1 y2 y3 y4 y5 y6
  generalize o.length = n1 at *
  generalize s.length = n2 at *
  generalize d.length = n3 at *
  go_enter Tryd.func47, Tryd.ntmps47
  go_wp2_with fail
  refine (H1.out _ (HB.out _ _)).mono ?_
  rintro e w' ⟨rfl, q1, rfl⟩
  go_wp2_with fail
  refine (H2.out _ (below_drn (HB.out _ _) _)).mono ?_
  rintro e w' ⟨rfl, q2, rfl⟩
  go_wp2_with fail
  refine (H3.out _ (below_drn (HB.out _ _) _)).mono ?_
  rintro e w' ⟨rfl, q3, rfl⟩
  go_wp2
  go_ret
  exact ⟨rfl, below_drn (HB.out _ _) _⟩

def seedL : List ByteArray := [⟨#[111, 110, 101]⟩, ⟨#[116, 119, 111]⟩, ⟨#[116, 104, 114, 101, 101]⟩]
def seedC : Array Value := #[.string ⟨#[111, 110, 101]⟩, .string ⟨#[116, 119, 111]⟩, .string ⟨#[116, 104, 114, 101, 101]⟩]
theorem seed_at (w : World) : Hid (∀ j, (h : j < seedL.length) → (w.alloc (.cells seedC 9)).cell? ⟨w.heap.size, j, none⟩ = some (.string seedL[j])) := by
  intro j hj
  rw [World.cell?_alloc_at _ _ _ _ rfl]
  have : j = 0 ∨ j = 1 ∨ j = 2 := by simp [seedL] at hj; omega
  rcases this with rfl | rfl | rfl <;> rfl
theorem seedL_ok : ∀ y ∈ seedL, y.size ≤ 5 := by decide +kernel
def atL : List Int := [0, 1, 7, 15, 16, -1, 4]
def atC : Array Value := #[.int .i64 0, .int .i64 1, .int .i64 7, .int .i64 15, .int .i64 16, .int .i64 (-1), .int .i64 4]
theorem at_at (w : World) : Hid (∀ j, (h : j < atL.length) → (w.alloc (.cells atC 3)).cell? ⟨w.heap.size, j, none⟩ = some (.int .i64 atL[j])) := by
  intro j hj
  rw [World.cell?_alloc_at _ _ _ _ rfl]
  have : j = 0 ∨ j = 1 ∨ j = 2 ∨ j = 3 ∨ j = 4 ∨ j = 5 ∨ j = 6 := by simp [atL] at hj; omega
  rcases this with rfl | rfl | rfl | rfl | rfl | rfl | rfl <;> rfl

theorem pubA_small (s : ByteArray) (a : Int) : (pubA s a).size ≤ 1048576 := by
  unfold pubA
  split
  · exact hashB_small _ _
  · exact Nat.zero_le _
theorem poolL_small (s : ByteArray) (j : Nat) : (gB (poolL s) j).size ≤ 1048576 := by
  by_cases h : j < (poolL s).length
  · rw [← gB_eq _ _ h, poolL_at]
    exact pubA_small _ _
  · unfold gB
    rw [List.getD_eq_getElem?_getD, List.getElem?_eq_none (by omega)]
    simp
theorem gB_tail (l : List ByteArray) (j : Nat) : gB l.tail j = gB l (j + 1) := by
  unfold gB
  cases l <;> simp

/-- four values, answered -/
theorem ret_four {fn : Func} {Rp : Ending → World → Prop} {a : Act} {w : World} (i j k m : Nat) (v0 v1 v2 v3 : Value) (hres : fn.results = #[.tmp i, .tmp j, .tmp k, .tmp m]) (hd : a.defers = []) (h0 : a.tmps.getD i undef = v0) (h1 : a.tmps.getD j undef = v1) (h2 : a.tmps.getD k undef = v2) (h3 : a.tmps.getD m undef = v3)
    (h : Rp (.returned (.tuple #[v0, v1, v2, v3])) w) : bodyPost Tryd.prog fn Rp .ret a w := by
  refine bodyPost_ret (v := .tuple #[v0, v1, v2, v3]) ?_ hd h
  have h0' : a.tmps[i]?.getD undef = v0 := by simpa using h0
  have h1' : a.tmps[j]?.getD undef = v1 := by simpa using h1
  have h2' : a.tmps[k]?.getD undef = v2 := by simpa using h2
  have h3' : a.tmps[m]?.getD undef = v3 := by simpa using h3
  simp [results, hres, h0', h1', h2', h3']

/-- what DrawSignText gives -/
def DsAns (w : World) (e : Ending) (w' : World) : Prop := ∃ (s : ByteArray) (x : Option Addr) (n c : Nat) (g o : Nat) (l : List ByteArray) (y : Int) (t : ByteArray), e = .returned (.tuple #[.string s, .slice x n c, .int .i64 y, .string t]) ∧ s.size ≤ 100 ∧ t.size ≤ 1000 ∧ (-1 ≤ y ∧ y ≤ 16) ∧ l.length = n ∧ n ≤ 16 ∧ (∀ j, (gB l j).size ≤ 1048576) ∧ SS w' (.slice x n c) g o l ∧ Below w.heap.size w w'

end Go.Proofs.YtaejeemjndmjcaaDoor
