/-
  What DrawSignText gives; two signatures compared by the law.
-/
import Derived.Test.YtdifilcdiacbpaaDoorSge
import Derived.Test.YtdifilcdiacbpaaDoorDn
namespace Go.Proofs.YtdifilcdiacbpaaDoor
open Go.RowKit Go.BigFrame
set_option linter.unusedVariables false
set_option linter.unusedSimpArgs false

set_option maxRecDepth 100000 in
set_option maxHeartbeats 400000 in
theorem sameTexts_yes (va vb : Value) (ga oa gb ob : Nat) (l : List ByteArray) (w : World) (ha : SS w va ga oa l) (hb : SS w vb gb ob l) :
    Calls Tryd.prog 14 #[va, vb] w fun e w' => e = .returned (.bool true) ∧ ∃ q, w' = w.drewN q := by
  obtain ⟨a, ca, rfl, hl, hA, hcA⟩ := ha
  obtain ⟨b, cb, rfl, _, hB, hcB⟩ := hb
  obtain ⟨n, hn⟩ : ∃ n, l.length = n := ⟨_, rfl⟩
  rw [hn] at hl ⊢
  have HA : Hid (0 < n → a = some ⟨ga, oa, none⟩) := by rw [← hn]; exact hA
  have HB : Hid (0 < n → b = some ⟨gb, ob, none⟩) := by rw [← hn]; exact hB
  clear hA hB
  go_enter Tryd.func14, Tryd.ntmps14
  go_wp2
  go_loopw [5] (fun i wr => EqS n w i wr) (fun i _ => n - (intOf i).toNat)
  case atStart => exact ⟨0, 0, by omega, rfl, rfl⟩
  case round =>
    obtain ⟨m, q, hm, rfl, rfl⟩ := hrel
    by_cases hlt : m < n
    · have ea := HA.out (by omega)
      have eb := HB.out (by omega)
      subst ea
      subst eb
      have c1 := hcA m (by omega)
      have c2 := hcB m (by omega)
      generalize l[m]'(by omega) = X at *
      have i1 : (m : Int) < (n : Int) := by omega
      have i2 : (0 : Int) ≤ (m : Int) := by omega
      clear hcA hcB HA HB
      go_wp2
      go_quiet (fail)
      go_wp2
      go_roundw
      case rel => exact ⟨m + 1, _, by omega, by go_num, rfl⟩
      case measure => simp [intOf]; omega
    · have hme : m = n := by omega
      subst hme
      clear hcA hcB HA HB
      go_wp2
      go_ret
      exact ⟨rfl, q, rfl⟩

set_option maxRecDepth 100000 in
set_option maxHeartbeats 1000000 in
theorem sameSig_yes (a : Int) (v1 v2 v3 u1 u2 u3 : Value) (g1 o1 g2 o2 g3 o3 p1 q1 p2 q2 p3 q3 : Nat) (o s d : List ByteArray) (w : World) (h1 : SS w v1 g1 o1 o) (h2 : SS w v2 g2 o2 s) (h3 : SS w v3 g3 o3 d) (k1 : SS w u1 p1 q1 o) (k2 : SS w u2 p2 q2 s) (k3 : SS w u3 p3 q3 d) :
    Calls Tryd.prog 17 #[.agg #[.int .i64 a, v1, v2, v3], .agg #[.int .i64 a, u1, u2, u3]] w fun e w' => e = .returned (.bool true) ∧ Below w.heap.size w w' := by
  have H1 : Hid (∀ W, Below w.heap.size w W → Calls Tryd.prog 14 #[v1, u1] W fun e w' => e = .returned (.bool true) ∧ ∃ q, w' = W.drewN q) := fun W hW => sameTexts_yes v1 u1 g1 o1 p1 q1 o W (h1.below hW h1.lt) (k1.below hW k1.lt)
  have H2 : Hid (∀ W, Below w.heap.size w W → Calls Tryd.prog 14 #[v2, u2] W fun e w' => e = .returned (.bool true) ∧ ∃ q, w' = W.drewN q) := fun W hW => sameTexts_yes v2 u2 g2 o2 p2 q2 s W (h2.below hW h2.lt) (k2.below hW k2.lt)
  have H3 : Hid (∀ W, Below w.heap.size w W → Calls Tryd.prog 14 #[v3, u3] W fun e w' => e = .returned (.bool true) ∧ ∃ q, w' = W.drewN q) := fun W hW => sameTexts_yes v3 u3 g3 o3 p3 q3 d W (h3.below hW h3.lt) (k3.below hW k3.lt)
  have HB : Hid (∀ x y : Obj, Below w.heap.size w ((w.alloc x).alloc y)) := fun x y => ((Below.refl _ _).alloc (Nat.le_refl _) _).alloc (by simp) _
  obtain ⟨_, _, rfl, x1, y1⟩ := h1
  obtain ⟨_, _, rfl, x2, y2⟩ := h2
  obtain ⟨_, _, rfl, x3, y3⟩ := h3
  obtain ⟨_, _, rfl, x4, y4⟩ := k1
  obtain ⟨_, _, rfl, x5, y5⟩ := k2
  obtain ⟨_, _, rfl, x6, y6⟩ := k3
  clear x1 x2 x3 x4 x5 x6 y1 y2 y3 y4 y5 y6
  generalize o.length = n1 at *
  generalize s.length = n2 at *
  generalize d.length = n3 at *
  go_enter Tryd.func17, Tryd.ntmps17
  go_wp2_with fail
  refine (H1.out _ (HB.out _ _)).mono ?_
  rintro e w' ⟨rfl, q1, rfl⟩
  go_wp2_with fail
  refine (H2.out _ (below_drn (HB.out _ _) _)).mono ?_
  rintro e w' ⟨rfl, q2, rfl⟩
  go_wp2_with fail
  refine (H3.out _ (below_drn (HB.out _ _) _)).mono ?_
  rintro e w' ⟨rfl, q3, rfl⟩
  go_wp2
  go_ret
  exact ⟨rfl, below_drn (HB.out _ _) _⟩

def seedL : List ByteArray := [⟨#[111, 110, 101]⟩, ⟨#[116, 119, 111]⟩, ⟨#[116, 104, 114, 101, 101]⟩]
def seedC : Array Value := #[.string ⟨#[111, 110, 101]⟩, .string ⟨#[116, 119, 111]⟩, .string ⟨#[116, 104, 114, 101, 101]⟩]
theorem seed_at (w : World) : Hid (∀ j, (h : j < seedL.length) → (w.alloc (.cells seedC 9)).cell? ⟨w.heap.size, j, none⟩ = some (.string seedL[j])) := by
  intro j hj
  rw [World.cell?_alloc_at _ _ _ _ rfl]
  have : j = 0 ∨ j = 1 ∨ j = 2 := by simp [seedL] at hj; omega
  rcases this with rfl | rfl | rfl <;> rfl
theorem seedL_ok : ∀ y ∈ seedL, y.size ≤ 5 := by decide +kernel
theorem l05Seed_in (B : Nat) (w0 w : World) (g : Nat) (v : Value) (hc : Cur B w0 w g v) :
    Calls Tryd.prog 51 #[.pointer (some ⟨g, 0, none⟩)] w fun e w' => ∃ y : ByteArray, y.size ≤ 5 ∧ e = .returned (.string y) ∧ Cur B w0 w' g v ∧ w.grownBy w' (some g) := by
  have CP := pick_lit B w0 w g v 3 seedL seedC hc rfl (by omega) (by omega) (seed_at w)
  go_enter Tryd.func51, Tryd.ntmps51
  go_wp2_with fail
  refine CP.out.mono ?_
  rintro e w2 ⟨y, hy, rfl, hc2, hg2⟩
  go_wp2
  go_ret
  exact ⟨y, seedL_ok y hy, rfl, hc2, hg2⟩

def atL : List Int := [0, 1, 7, 15, 16, -1, 4]
def atC : Array Value := #[.int .i64 0, .int .i64 1, .int .i64 7, .int .i64 15, .int .i64 16, .int .i64 (-1), .int .i64 4]
theorem at_at (w : World) : Hid (∀ j, (h : j < atL.length) → (w.alloc (.cells atC 3)).cell? ⟨w.heap.size, j, none⟩ = some (.int .i64 atL[j])) := by
  intro j hj
  rw [World.cell?_alloc_at _ _ _ _ rfl]
  have : j = 0 ∨ j = 1 ∨ j = 2 ∨ j = 3 ∨ j = 4 ∨ j = 5 ∨ j = 6 := by simp [atL] at hj; omega
  rcases this with rfl | rfl | rfl | rfl | rfl | rfl | rfl <;> rfl

theorem pubA_small (s : ByteArray) (a : Int) : (pubA s a).size ≤ 1048576 := by
  unfold pubA
  split
  · exact hashB_small _ _
  · exact Nat.zero_le _
theorem poolL_small (s : ByteArray) (j : Nat) : (gB (poolL s) j).size ≤ 1048576 := by
  by_cases h : j < (poolL s).length
  · rw [← gB_eq _ _ h, poolL_at]
    exact pubA_small _ _
  · unfold gB
    rw [List.getD_eq_getElem?_getD, List.getElem?_eq_none (by omega)]
    simp
theorem gB_tail (l : List ByteArray) (j : Nat) : gB l.tail j = gB l (j + 1) := by
  unfold gB
  cases l <;> simp

/-- four values, answered -/
theorem ret_four {fn : Func} {Rp : Ending → World → Prop} {a : Act} {w : World} (i j k m : Nat) (v0 v1 v2 v3 : Value) (hres : fn.results = #[.tmp i, .tmp j, .tmp k, .tmp m]) (hd : a.defers = []) (h0 : a.tmps.getD i undef = v0) (h1 : a.tmps.getD j undef = v1) (h2 : a.tmps.getD k undef = v2) (h3 : a.tmps.getD m undef = v3)
    (h : Rp (.returned (.tuple #[v0, v1, v2, v3])) w) : bodyPost Tryd.prog fn Rp .ret a w := by
  refine bodyPost_ret (v := .tuple #[v0, v1, v2, v3]) ?_ hd h
  have h0' : a.tmps[i]?.getD undef = v0 := by simpa using h0
  have h1' : a.tmps[j]?.getD undef = v1 := by simpa using h1
  have h2' : a.tmps[k]?.getD undef = v2 := by simpa using h2
  have h3' : a.tmps[m]?.getD undef = v3 := by simpa using h3
  simp [results, hres, h0', h1', h2', h3']

/-- what DrawSignText gives -/
def DsAns (w : World) (e : Ending) (w' : World) : Prop := ∃ (s : ByteArray) (x : Option Addr) (n c : Nat) (g o : Nat) (l : List ByteArray) (y : Int) (t : ByteArray), e = .returned (.tuple #[.string s, .slice x n c, .int .i64 y, .string t]) ∧ s.size ≤ 100 ∧ t.size ≤ 1000 ∧ (-1 ≤ y ∧ y ≤ 16) ∧ l.length = n ∧ n ≤ 16 ∧ (∀ j, (gB l j).size ≤ 1048576) ∧ SS w' (.slice x n c) g o l ∧ Below w.heap.size w w'

end Go.Proofs.YtdifilcdiacbpaaDoor
