/-
  What DrawSignText gives; two signatures compared by the law.
-/
import Derived.Test.YtmfoliocibjdnaaDoorSge
import Derived.Test.YtmfoliocibjdnaaDoorDn
import Derived.Test.YtmfoliocibjdnaaDoorPkF
namespace Go.Proofs.YtmfoliocibjdnaaDoor
open Go.RowKit Go.BigFrame
set_option linter.unusedVariables false
set_option linter.unusedSimpArgs false

set_option maxRecDepth 100000 in
set_option maxHeartbeats 400000 in
theorem sameTexts_yes (va vb : Value) (ga oa gb ob : Nat) (l : List ByteArray) (w : World) (ha : SS w va ga oa l) (hb : SS w vb gb ob l) :
    Calls Tryd.prog 22 #[va, vb] w fun e w' => e = .returned (.bool true) ∧ ∃ q, w' = w.drewN q := by
  obtain ⟨a, ca, rfl, hl, hA, hcA⟩ := ha
  obtain ⟨b, cb, rfl, _, hB, hcB⟩ := hb
  obtain ⟨n, hn⟩ : ∃ n, l.length = n := ⟨_, rfl⟩
  rw [hn] at hl ⊢
  have HA : Hid (0 < n → a = some ⟨ga, oa, none⟩) := by rw [← hn]; exact hA
  have HB : Hid (0 < n → b = some ⟨gb, ob, none⟩) := by rw [← hn]; exact hB
  clear hA hB
  go_enter Tryd.func22, Tryd.ntmps22
  go_wp2
  go_loopw [5] (fun i wr => EqS n w i wr) (fun i _ => n - (intOf i).toNat)
  case atStart => exact ⟨0, 0, by omega, rfl, rfl⟩
  case round =>
    obtain ⟨m, q, hm, rfl, rfl⟩ := hrel
    by_cases hlt : m < n
    · have ea := HA.out (by omega)
      have eb := HB.out (by omega)
      subst ea
      subst eb
      have c1 := hcA m (by omega)
      have c2 := hcB m (by omega)
      generalize l[m]'(by omega) = X at *
      have i1 : (m : Int) < (n : Int) := by omega
      have i2 : (0 : Int) ≤ (m : Int) := by omega
      clear hcA hcB HA HB
      go_wp2
      go_quiet (fail)
      go_wp2
      go_roundw
      case rel => exact ⟨m + 1, _, by omega, by go_num, rfl⟩
      case measure => simp [intOf]; omega
    · have hme : m = n := by omega
      subst hme
      clear hcA hcB HA HB
      go_wp2
      go_ret
      exact ⟨rfl, q, rfl⟩

set_option maxRecDepth 100000 in
set_option maxHeartbeats 1000000 in
theorem sameSig_yes (a : Int) (v1 v2 v3 u1 u2 u3 : Value) (g1 o1 g2 o2 g3 o3 p1 q1 p2 q2 p3 q3 : Nat) (o s d : List ByteArray) (w : World) (h1 : SS w v1 g1 o1 o) (h2 : SS w v2 g2 o2 s) (h3 : SS w v3 g3 o3 d) (k1 : SS w u1 p1 q1 o) (k2 : SS w u2 p2 q2 s) (k3 : SS w u3 p3 q3 d) :
    Calls Tryd.prog 25 #[.agg #[.int .i64 a, v1, v2, v3], .agg #[.int .i64 a, u1, u2, u3]] w fun e w' => e = .returned (.bool true) ∧ Below w.heap.size w w' := by
  have H1 : Hid (∀ W, Below w.heap.size w W → Calls Tryd.prog 22 #[v1, u1] W fun e w' => e = .returned (.bool true) ∧ ∃ q, w' = W.drewN q) := fun W hW => sameTexts_yes v1 u1 g1 o1 p1 q1 o W (h1.below hW h1.lt) (k1.below hW k1.lt)
  have H2 : Hid (∀ W, Below w.heap.size w W → Calls Tryd.prog 22 #[v2, u2] W fun e w' => e = .returned (.bool true) ∧ ∃ q, w' = W.drewN q) := fun W hW => sameTexts_yes v2 u2 g2 o2 p2 q2 s W (h2.below hW h2.lt) (k2.below hW k2.lt)
  have H3 : Hid (∀ W, Below w.heap.size w W → Calls Tryd.prog 22 #[v3, u3] W fun e w' => e = .returned (.bool true) ∧ ∃ q, w' = W.drewN q) := fun W hW => sameTexts_yes v3 u3 g3 o3 p3 q3 d W (h3.below hW h3.lt) (k3.below hW k3.lt)
  have HB : Hid (∀ x y : Obj, Below w.heap.size w ((w.alloc x).alloc y)) := fun x y => ((Below.refl _ _).alloc (Nat.le_refl _) _).alloc (by simp) _
  obtain ⟨_, _, rfl, x1, y1⟩ := h1
  obtain ⟨_, _, rfl, x2, y2⟩ := h2
  obtain ⟨_, _, rfl, x3, y3⟩ := h3
  obtain ⟨_, _, rfl, x4, y4⟩ := k1
  obtain ⟨_, _, rfl, x5, y5⟩ := k2
  obtain ⟨_, _, rfl, x6, y6⟩ := k3
  clear x1 x2 x3 x4 x5 x6 y1 y2 y3 y4 y5 y6
  generalize o.length = n1 at *
  generalize s.length = n2 at *
  generalize d.length = n3 at *
  go_enter Tryd.func25, Tryd.ntmps25
  go_wp2_with fail
  refine (H1.out _ (HB.out _ _)).mono ?_
  rintro e w' ⟨rfl, q1, rfl⟩
  go_wp2_with fail
  refine (H2.out _ (below_drn (HB.out _ _) _)).mono ?_
  rintro e w' ⟨rfl, q2, rfl⟩
  go_wp2_with fail
  refine (H3.out _ (below_drn (HB.out _ _) _)).mono ?_
  rintro e w' ⟨rfl, q3, rfl⟩
  go_wp2
  go_ret
  exact ⟨rfl, below_drn (HB.out _ _) _⟩

def seedL : List ByteArray := [⟨#[111, 110, 101]⟩, ⟨#[116, 119, 111]⟩, ⟨#[116, 104, 114, 101, 101]⟩]
def seedC : Array Value := #[.string ⟨#[111, 110, 101]⟩, .string ⟨#[116, 119, 111]⟩, .string ⟨#[116, 104, 114, 101, 101]⟩]
theorem seed_at (w : World) : Hid (∀ j, (h : j < seedL.length) → (w.alloc (.cells seedC 9)).cell? ⟨w.heap.size, j, none⟩ = some (.string seedL[j])) := by
  intro j hj
  rw [World.cell?_alloc_at _ _ _ _ rfl]
  have : j = 0 ∨ j = 1 ∨ j = 2 := by simp [seedL] at hj; omega
  rcases this with rfl | rfl | rfl <;> rfl
theorem seedL_ok : ∀ y ∈ seedL, y.size ≤ 5 := by decide +kernel
theorem l05Seed_in (B : Nat) (w0 w : World) (g : Nat) (v : Value) (hc : Cur B w0 w g v) :
    Calls Tryd.prog 103 #[.pointer (some ⟨g, 0, none⟩)] w fun e w' => ∃ y : ByteArray, y.size ≤ 5 ∧ e = .returned (.string y) ∧ Cur B w0 w' g v ∧ w.grownBy w' (some g) := by
  have CP := pick_lit B w0 w g v 3 seedL seedC hc rfl (by omega) (by omega) (seed_at w)
  go_enter Tryd.func103, Tryd.ntmps103
  go_wp2_with fail
  refine CP.out.mono ?_
  rintro e w2 ⟨y, hy, rfl, hc2, hg2⟩
  go_wp2
  go_ret
  exact ⟨y, seedL_ok y hy, rfl, hc2, hg2⟩

def atL : List Int := [0, 1, 7, 15, 16, -1, 4]
def atC : Array Value := #[.int .i64 0, .int .i64 1, .int .i64 7, .int .i64 15, .int .i64 16, .int .i64 (-1), .int .i64 4]
theorem at_at (w : World) : Hid (∀ j, (h : j < atL.length) → (w.alloc (.cells atC 3)).cell? ⟨w.heap.size, j, none⟩ = some (.int .i64 atL[j])) := by
  intro j hj
  rw [World.cell?_alloc_at _ _ _ _ rfl]
  have : j = 0 ∨ j = 1 ∨ j = 2 ∨ j = 3 ∨ j = 4 ∨ j = 5 ∨ j = 6 := by simp [atL] at hj; omega
  rcases this with rfl | rfl | rfl | rfl | rfl | rfl | rfl <;> rfl

theorem pubA_small (s : ByteArray) (a : Int) : (pubA s a).size ≤ 1048576 := by
  unfold pubA
  split
  · exact hashB_small _ _
  · exact Nat.zero_le _
theorem poolL_small (s : ByteArray) (j : Nat) : (gB (poolL s) j).size ≤ 1048576 := by
  by_cases h : j < (poolL s).length
  · rw [← gB_eq _ _ h, poolL_at]
    exact pubA_small _ _
  · unfold gB
    rw [List.getD_eq_getElem?_getD, List.getElem?_eq_none (by omega)]
    simp
theorem gB_tail (l : List ByteArray) (j : Nat) : gB l.tail j = gB l (j + 1) := by
  unfold gB
  cases l <;> simp

/-- four values, answered -/
theorem ret_four {fn : Func} {Rp : Ending → World → Prop} {a : Act} {w : World} (i j k m : Nat) (v0 v1 v2 v3 : Value) (hres : fn.results = #[.tmp i, .tmp j, .tmp k, .tmp m]) (hd : a.defers = []) (h0 : a.tmps.getD i undef = v0) (h1 : a.tmps.getD j undef = v1) (h2 : a.tmps.getD k undef = v2) (h3 : a.tmps.getD m undef = v3)
    (h : Rp (.returned (.tuple #[v0, v1, v2, v3])) w) : bodyPost Tryd.prog fn Rp .ret a w := by
  refine bodyPost_ret (v := .tuple #[v0, v1, v2, v3]) ?_ hd h
  have h0' : a.tmps[i]?.getD undef = v0 := by simpa using h0
  have h1' : a.tmps[j]?.getD undef = v1 := by simpa using h1
  have h2' : a.tmps[k]?.getD undef = v2 := by simpa using h2
  have h3' : a.tmps[m]?.getD undef = v3 := by simpa using h3
  simp [results, hres, h0', h1', h2', h3']

/-- what DrawSignText gives -/
def DsAns (w : World) (e : Ending) (w' : World) : Prop := ∃ (s : ByteArray) (x : Option Addr) (n c : Nat) (g o : Nat) (l : List ByteArray) (y : Int) (t : ByteArray), e = .returned (.tuple #[.string s, .slice x n c, .int .i64 y, .string t]) ∧ s.size ≤ 100 ∧ t.size ≤ 1000 ∧ (-1 ≤ y ∧ y ≤ 16) ∧ l.length = n ∧ n ≤ 16 ∧ (∀ j, (gB l j).size ≤ 1048576) ∧ SS w' (.slice x n c) g o l ∧ Below w.heap.size w w'

set_option maxRecDepth 100000 in
set_option maxHeartbeats 1000000 in
theorem DrawSignText_any (w : World) (ao : Option Addr) (len cap : Nat) (hlen : len ≤ 1048576) (hc : Code w.heap.size w (.slice ao len cap)) :
    Calls Tryd.prog 36 #[.slice ao len cap] w (DsAns w) := by
  have HC : Hid (Code w.heap.size w (.slice ao len cap)) := hc
  clear hc
  go_enter Tryd.func36, Tryd.ntmps36
  go_wp2_with fail
  refine (l01New_in w _ HC.out).mono ?_
  rintro e w1 ⟨g, rfl, hc1, hb1⟩
  obtain ⟨v, hv⟩ : ∃ v, Value.slice ao len cap = v := ⟨_, rfl⟩
  rw [hv] at hc1
  go_wp2_with fail
  refine (l01Below_in w.heap.size w _ g v 10 10 rfl hc1 (by omega) (by omega)).mono ?_
  rintro e w2 ⟨kk, hkk, rfl, hc2, hg2⟩
  clear hc1 hg2 hb1
  go_wp2_with fail
  refine (l05Seed_in w.heap.size w _ g v hc2).mono ?_
  rintro e w3 ⟨s, hs, rfl, hc3, hg3⟩
  clear hc2 hg3
  have HCP : Hid (Calls Tryd.prog 104 #[.pointer (some ⟨g, 0, none⟩), .slice (some ⟨w3.heap.size, 0, none⟩) 7 7] (w3.alloc (.cells atC 3)) fun e w' => ∃ y : Int, y ∈ atL ∧ e = .returned (.int .i64 y) ∧ Cur w.heap.size w w' g v ∧ w3.grownBy w' (some g)) := by
    have hca : Cur w.heap.size w (w3.alloc (.cells atC 3)) g v := hc3.kept (World.grownBy_alloc w3 _ none) (by simp) hc3.size (fun k hk => by cases hk)
    have hga : w3.grownBy (w3.alloc (.cells atC 3)) (some g) := World.grownBy_alloc w3 _ (some g)
    have hgl := hc3.lt
    exact (l01PickInt_in w.heap.size w (w3.alloc (.cells atC 3)) g v w3.heap.size 7 atL hca (by decide) (by decide) (by omega) (by simp) (at_at w3)).mono fun e w' ⟨y, hy, he, hc, hg⟩ => ⟨y, hy, he, hc, hga.trans hg⟩
  clear hc3
  go_wp2_with fail
  refine HCP.out.mono ?_
  rintro e w4 ⟨y, hy, rfl, hc4, hg4⟩
  clear hg4 HCP
  go_wp2_with fail
  refine (l01Below_in w.heap.size w _ g v 9 9 rfl hc4 (by omega) (by omega)).mono ?_
  rintro e w5 ⟨n5, hn5, rfl, hc5, hg5⟩
  clear hc4 hg5
  go_wp2_with fail
  refine (l01Text_in w.heap.size w _ g v _ n5 rfl hc5 (by omega)).mono ?_
  rintro e w6 ⟨tl, htl, rfl, hc6, hg6⟩
  have b6 := hc6.2.1
  have hB6 := hc6.size
  have htz : (⟨tl.toArray⟩ : ByteArray).size ≤ 1000 := by simp [ByteArray.size]; omega
  generalize (⟨tl.toArray⟩ : ByteArray) = T at *
  clear hc5 hg6 hc6 htl
  go_wp2_with fail
  refine (sPoolOf_any s _ (by omega)).mono ?_
  rintro e w7 ⟨u, rfl, hos⟩
  have hpl := poolL_len s
  have hps := poolL_small s
  have hb7 := b6.trans (hos.2.1.mono hB6)
  generalize poolL s = L at *
  rcases hos.shape with ⟨_, hz⟩ | ⟨gp, cp, rfl, hgp, hgp2⟩
  · rw [hz] at hpl
    simp at hpl
  rw [hpl] at hos ⊢
  have hss : SS w7 (.slice (some ⟨gp, 0, none⟩) 16 cp) gp 0 L := (hos.tb.ts 16 cp hpl (by omega)).ss
  have hcap : 16 ≤ cp := by
    rcases hos.1.2 with ⟨h, _⟩ | ⟨g', cap', cur, hv', hbg, hg', rest⟩
    · simp at h
    · simp at hv'
      obtain ⟨_, _, rfl⟩ := hv'
      have h1 := rest.1
      omega
  have hyy : -1 ≤ y ∧ y ≤ 16 := by
    simp [atL] at hy
    omega
  clear hos
  by_cases k0 : kk = 0
  · subst k0
    go_wp2
    refine ret_four 2 3 4 5 _ _ _ _ rfl rfl rfl rfl rfl rfl ?_
    exact ⟨_, _, _, _, gp, 0, L, y, T, rfl, by decide, htz, hyy, hpl, by omega, hps, hss, hb7⟩
  · have q0 : ((kk : Int) == 0) = false := by simp; omega
    by_cases k1 : kk = 1
    · subst k1
      have htl1 : L.tail.length = 15 := by simp [hpl]
      have hpt : ∀ j, (gB L.tail j).size ≤ 1048576 := fun j => by rw [gB_tail]; exact hps _
      have hst : ∀ c, SS w7 (.slice (some ⟨gp, 1, none⟩) 15 c) gp 1 L.tail := fun c => by
        obtain ⟨_, _, _, _, _, hcc⟩ := id hss
        refine ⟨_, c, by rw [htl1], by omega, fun _ => rfl, fun j hj => ?_⟩
        have h1 := hcc (j + 1) (by omega)
        rw [show 1 + j = 0 + (j + 1) by omega, h1]
        simp
      have hcne : cp ≠ 1 := by omega
      go_wp2
      refine ret_four 2 3 4 5 _ _ _ _ rfl rfl rfl rfl rfl rfl ?_
      exact ⟨_, _, _, _, gp, 1, L.tail, y, T, rfl, by omega, htz, hyy, htl1, by omega, hpt, hst _, hb7⟩
    · have q1 : ((kk : Int) == 1) = false := by simp; omega
      by_cases k2 : kk = 2
      · subst k2
        have hmod : ∃ n : Nat, n ≤ 201 ∧ 200 + y.tmod 2 = (n : Int) := by
          simp [atL] at hy
          rcases hy with rfl | rfl | rfl | rfl | rfl | rfl | rfl
          · exact ⟨200, by omega, rfl⟩
          · exact ⟨201, by omega, rfl⟩
          · exact ⟨201, by omega, rfl⟩
          · exact ⟨201, by omega, rfl⟩
          · exact ⟨200, by omega, rfl⟩
          · exact ⟨199, by omega, rfl⟩
          · exact ⟨200, by omega, rfl⟩
        obtain ⟨m, hm, hme⟩ := hmod
        have hss8 := fun (W : World) (hW : Below w7.heap.size w7 W) => hss.below hW hss.lt
        go_wp2_with fail
        refine (l01Long_in _ m 97 _ _ (by first | exact hme | omega) rfl (by omega)).mono ?_
        rintro e w8 ⟨rfl, hb8⟩
        have hlz : (⟨(List.replicate m 97).toArray⟩ : ByteArray).size ≤ 1000 := by simp [ByteArray.size]; omega
        generalize (⟨(List.replicate m 97).toArray⟩ : ByteArray) = Z at *
        go_wp2
        refine ret_four 2 3 4 5 _ _ _ _ rfl rfl rfl rfl rfl rfl ?_
        exact ⟨_, _, _, _, gp, 0, L, y, Z, rfl, by omega, hlz, hyy, hpl, by omega, hps, hss8 _ hb8, hb7.trans (hb8.mono hb7.size)⟩
      · have q2 : ((kk : Int) == 2) = false := by simp; omega
        go_wp2
        refine ret_four 2 3 4 5 _ _ _ _ rfl rfl rfl rfl rfl rfl ?_
        exact ⟨_, _, _, _, gp, 0, L, y, T, rfl, by omega, htz, hyy, hpl, by omega, hps, hss, hb7⟩

end Go.Proofs.YtmfoliocibjdnaaDoor
