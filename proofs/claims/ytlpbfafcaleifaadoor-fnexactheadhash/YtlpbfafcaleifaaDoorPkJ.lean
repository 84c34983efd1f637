/-
  Texts laid together: Hg, Hh, Hi, Hj.
-/
import Derived.Test.YtlpbfafcaleifaaDoorPkH
import Derived.Test.YtlpbfafcaleifaaDoorPkG
import Derived.Deep.RegionHeld3
import Derived.ScopeJumps
import Derived.WalkMore
/-
  The hash of a head: the program's and the specification's answers.
-/
namespace Go.Proofs.YtlpbfafcaleifaaDoor
open Go.RowKit Go.BigFrame Go.Sort
set_option linter.unusedVariables false
set_option linter.unusedSimpArgs false

/-- the hash of a head, when it is right -/
def HV.hashH (x : Hd) : ByteArray := if HV.okH x = true then hashB 4 [HV.txtH x] 16 else ⟨#[]⟩

set_option maxRecDepth 100000 in
set_option maxHeartbeats 1000000 in
theorem HeadHash_any (x : Hd) (w : World) (hT : Tb w) : Calls Tryd.prog 24 #[.agg #[.int .i64 x.h, .int .i64 x.e, .string x.r, .string x.p]] w fun e w' => e = .returned (.string (HV.hashH x)) ∧ Below w.heap.size w w' := by
  have HC : Hid (∀ W, Calls Tryd.prog 18 #[.agg #[.int .i64 x.h, .int .i64 x.e, .string x.r, .string x.p]] W fun e w' => e = .returned (.tuple #[.string (HV.textH x), .bool (HV.okH x)]) ∧ Below W.heap.size W w') := fun W => HeadText_any x W
  have HTB : Hid (Tb w) := hT
  unfold HV.hashH
  unfold HV.textH at HC
  clear hT
  generalize HV.txtH x = t at *
  generalize HV.okH x = b at *
  obtain ⟨h, e, r, p⟩ := x
  have HB : Hid (Below w.heap.size w (w.alloc (.cells #[.int .i64 h, .int .i64 e, .string r, .string p] 33))) := (Below.refl _ _).alloc (Nat.le_refl _) _
  cases b
  · rw [if_neg (by simp)] at HC ⊢
    go_enter Tryd.func24, Tryd.ntmps24
    go_wp2_with fail
    refine (HC.out _).mono ?_
    rintro e1 w1 ⟨rfl, hb1⟩
    have HB1 : Hid (Below w.heap.size w w1) := HB.out.trans (hb1.mono HB.out.size)
    clear HC hb1 HB HTB
    go_wp2
    go_ret
    exact ⟨rfl, HB1.out⟩
  · rw [if_pos rfl] at HC ⊢
    go_enter Tryd.func24, Tryd.ntmps24
    go_wp2_with fail
    refine (HC.out _).mono ?_
    rintro e1 w1 ⟨rfl, hb1⟩
    have HB1 : Hid (Below w.heap.size w w1) := HB.out.trans (hb1.mono HB.out.size)
    have CT := taggedHash_w 16 4 [t] 1 #[.string t] w1 w1.heap.size rfl rfl (by omega) rfl (HTB.out.later HB1.out)
    clear HC hb1 HB HTB
    go_wp2_with fail
    refine CT.out.mono ?_
    rintro e2 w2 ⟨rfl, hb2⟩
    have HB2 : Hid (Below w.heap.size w w2) := HB1.out.trans (hb2.mono HB1.out.size)
    clear CT
    go_wp2
    go_ret
    exact ⟨rfl, HB2.out⟩

set_option maxRecDepth 100000 in
set_option maxHeartbeats 1000000 in
theorem sHeadHash_any (x : Hd) (w : World) : Calls Tryd.prog 16 #[.agg #[.int .i64 x.h, .int .i64 x.e, .string x.r, .string x.p]] w fun e w' => e = .returned (.string (HV.hashH x)) ∧ Below w.heap.size w w' := by
  have HC : Hid (∀ W, Calls Tryd.prog 42 #[.agg #[.int .i64 x.h, .int .i64 x.e, .string x.r, .string x.p]] W fun e w' => e = .returned (.tuple #[.string (HV.textH x), .bool (HV.okH x)]) ∧ Below W.heap.size W w') := fun W => sHeadText_any x W
  unfold HV.hashH
  unfold HV.textH at HC
  generalize HV.txtH x = t at *
  generalize HV.okH x = b at *
  obtain ⟨h, e, r, p⟩ := x
  have HB : Hid (Below w.heap.size w (w.alloc (.cells #[.int .i64 h, .int .i64 e, .string r, .string p] 33))) := (Below.refl _ _).alloc (Nat.le_refl _) _
  cases b
  · rw [if_neg (by simp)] at HC ⊢
    go_enter Tryd.func16, Tryd.ntmps16
    go_wp2_with fail
    refine (HC.out _).mono ?_
    rintro e1 w1 ⟨rfl, hb1⟩
    have HB1 : Hid (Below w.heap.size w w1) := HB.out.trans (hb1.mono HB.out.size)
    clear HC hb1 HB
    go_wp2
    go_ret
    exact ⟨rfl, HB1.out⟩
  · rw [if_pos rfl] at HC ⊢
    go_enter Tryd.func16, Tryd.ntmps16
    go_wp2_with fail
    refine (HC.out _).mono ?_
    rintro e1 w1 ⟨rfl, hb1⟩
    have HB1 : Hid (Below w.heap.size w w1) := HB.out.trans (hb1.mono HB.out.size)
    have CT := sTagHash_w 16 4 [t] 1 #[.string t] w1 w1.heap.size rfl rfl (by omega) rfl
    clear HC hb1 HB
    go_wp2_with fail
    refine CT.out.mono ?_
    rintro e2 w2 ⟨rfl, hb2⟩
    have HB2 : Hid (Below w.heap.size w w2) := HB1.out.trans (hb2.mono HB1.out.size)
    clear CT
    go_wp2
    go_ret
    exact ⟨rfl, HB2.out⟩

end Go.Proofs.YtlpbfafcaleifaaDoor
/-
  The head behind a list: the program's answer; chains as plain words.
-/
namespace Go.Proofs.YtlpbfafcaleifaaDoor
open Go.RowKit Go.BigFrame Go.Sort
set_option linter.unusedVariables false
set_option linter.unusedSimpArgs false

namespace HV
def lastP (L : List Hd) : ByteArray := match L.getLast? with
  | none => ⟨#[]⟩
  | some y => hashH y
theorem lastP_nil : lastP [] = ⟨#[]⟩ := rfl
theorem lastP_at {L : List Hd} {m : Nat} (h : L.length = m + 1) : lastP L = hashH (L[m]'(by omega)) := by
  have e : L.getLast? = some (L[m]'(by omega)) := by
    rw [List.getLast?_eq_getElem?, show L.length - 1 = m by omega]
    exact List.getElem?_eq_getElem (by omega)
  unfold lastP
  rw [e]
/-- the head behind a list, right or not -/
def behind (L : List Hd) (h : Int) (r : ByteArray) : Hd := ⟨h, (L.length : Int) + 1, r, lastP L⟩
end HV

set_option maxRecDepth 100000 in
set_option maxHeartbeats 1000000 in
theorem headBehind_any (v : Value) (ga oa : Nat) (L : List Hd) (h : Int) (r : ByteArray) (w : World) (hv : RS 4 hcs w v ga oa L) (hT : Tb w) :
    Calls Tryd.prog 37 #[v, .int .i64 h, .string r] w fun e w' => e = .returned (.agg #[.int .i64 (HV.behind L h r).h, .int .i64 (HV.behind L h r).e, .string (HV.behind L h r).r, .string (HV.behind L h r).p]) ∧ Below w.heap.size w w' := by
  have HV0 : Hid (RS 4 hcs w v ga oa L) := hv
  have HT : Hid (Tb w) := hT
  obtain ⟨a, cap, rfl, hl, hA, _⟩ := hv
  obtain ⟨n, hn⟩ : ∃ n, L.length = n := ⟨_, rfl⟩
  have HA : Hid (0 < n → a = some ⟨ga, oa, none⟩ ∧ ga < w.heap.size) := by rw [← hn]; exact hA
  unfold HV.behind
  simp only
  rw [hn] at hl ⊢
  clear hA hT
  by_cases h0 : n = 0
  · subst h0
    have hL : L = [] := List.length_eq_zero_iff.1 hn
    subst hL
    clear hn HA HV0
    have HB : Hid (BH ((w.alloc (.cells #[.int .i64 h, .int .i64 1, .string r, .string ⟨#[]⟩] 33)).alloc (.cells #[.int .i64 h, .int .i64 1, .string r, .string ⟨#[]⟩] 33)) w.heap.size ⟨h, 1, r, ⟨#[]⟩⟩ ∧ Below w.heap.size w ((w.alloc (.cells #[.int .i64 h, .int .i64 1, .string r, .string ⟨#[]⟩] 33)).alloc (.cells #[.int .i64 h, .int .i64 1, .string r, .string ⟨#[]⟩] 33))) := ⟨alloc_snd _ _ _ rfl, ((Below.refl _ _).alloc (Nat.le_refl _) _).alloc (by simp) _⟩
    rw [HV.lastP_nil]
    go_enter Tryd.func37, Tryd.ntmps37
    go_wp2
    exact ret_hd 6 w.heap.size ⟨h, 1, r, ⟨#[]⟩⟩ rfl rfl rfl HB.out.1 ⟨rfl, HB.out.2⟩
  · obtain ⟨m, rfl⟩ : ∃ m, n = m + 1 := ⟨n - 1, by omega⟩
    have HL : Hid (HV.lastP L = HV.hashH (L[m]'(by omega))) := HV.lastP_at hn
    rw [HL.out]
    obtain ⟨ea, hga⟩ := HA.out (by omega)
    subst ea
    have HC : Hid (∀ W, Tb W → Calls Tryd.prog 24 #[.agg #[.int .i64 (L[m]'(by omega)).h, .int .i64 (L[m]'(by omega)).e, .string (L[m]'(by omega)).r, .string (L[m]'(by omega)).p]] W fun e w' => e = .returned (.string (HV.hashH (L[m]'(by omega)))) ∧ Below W.heap.size W w') := fun W hW => HeadHash_any _ W hW
    have HX : Hid (Below w.heap.size w (w.alloc (.cells #[.int .i64 0, .int .i64 0, .string ⟨#[]⟩, .string ⟨#[]⟩] 33)) ∧ Below w.heap.size w ((w.alloc (.cells #[.int .i64 0, .int .i64 0, .string ⟨#[]⟩, .string ⟨#[]⟩] 33)).alloc (.cells #[.int .i64 h, .int .i64 ((m : Int) + 1 + 1), .string r, .string ⟨#[]⟩] 33))) := ⟨(Below.refl _ _).alloc (Nat.le_refl _) _, ((Below.refl _ _).alloc (Nat.le_refl _) _).alloc (by simp) _⟩
    obtain ⟨c0, c1, c2, c3⟩ := (HV0.out.later HX.out.2).head m (by omega)
    generalize HV.hashH (L[m]'(by omega)) = P at *
    generalize (L[m]'(by omega)) = X at *
    have HY : Hid (BH ((w.alloc (.cells #[.int .i64 0, .int .i64 0, .string ⟨#[]⟩, .string ⟨#[]⟩] 33)).alloc (.cells #[.int .i64 h, .int .i64 ((m : Int) + 1 + 1), .string r, .string ⟨#[]⟩] 33)) w.heap.size ⟨0, 0, ⟨#[]⟩, ⟨#[]⟩⟩ ∧ BH ((w.alloc (.cells #[.int .i64 0, .int .i64 0, .string ⟨#[]⟩, .string ⟨#[]⟩] 33)).alloc (.cells #[.int .i64 h, .int .i64 ((m : Int) + 1 + 1), .string r, .string ⟨#[]⟩] 33)) (w.heap.size + 1) ⟨h, (m : Int) + 1 + 1, r, ⟨#[]⟩⟩ ∧ Tb ((w.alloc (.cells #[.int .i64 0, .int .i64 0, .string ⟨#[]⟩, .string ⟨#[]⟩] 33)).alloc (.cells #[.int .i64 h, .int .i64 ((m : Int) + 1 + 1), .string r, .string ⟨#[]⟩] 33))) := ⟨alloc_snd _ _ _ rfl, alloc_fst _ _ (by simp), HT.out.later HX.out.2⟩
    clear HV0 HL HA HT
    go_enter Tryd.func37, Tryd.ntmps37
    go_wp2_with fail
    refine (HC.out _ HY.out.2.2).mono ?_
    rintro e2 w2 ⟨rfl, hb2⟩
    have HW2 : Hid (BH w2 w.heap.size ⟨0, 0, ⟨#[]⟩, ⟨#[]⟩⟩ ∧ BH w2 (w.heap.size + 1) ⟨h, (m : Int) + 1 + 1, r, ⟨#[]⟩⟩ ∧ Below w.heap.size w w2) := ⟨HY.out.1.later hb2, HY.out.2.1.later hb2, HX.out.2.trans (hb2.mono HX.out.2.size)⟩
    clear HC hb2 HX HY c0 c1 c2 c3
    have t3 := HW2.out.2.1.c3
    have g3 := HW2.out.2.1.fz 3
    have HW3 : Hid (BH (w2.setCell ⟨w.heap.size + 1, 3, none⟩ (.string P)) w.heap.size ⟨0, 0, ⟨#[]⟩, ⟨#[]⟩⟩ ∧ BH (w2.setCell ⟨w.heap.size + 1, 3, none⟩ (.string P)) (w.heap.size + 1) ⟨h, (m : Int) + 1 + 1, r, P⟩ ∧ Below w.heap.size w (w2.setCell ⟨w.heap.size + 1, 3, none⟩ (.string P))) := ⟨HW2.out.1.grown (grown_setC _ _ _ _) (by simp), HW2.out.2.1.set3 P, HW2.out.2.2.setCell (p := ⟨w.heap.size + 1, 3, none⟩) (by simp) _⟩
    clear HW2
    have z0 := HW3.out.2.1.c0
    have z1 := HW3.out.2.1.c1
    have z2 := HW3.out.2.1.c2
    have z3 := HW3.out.2.1.c3
    have y0 := HW3.out.1.c0
    have y1 := HW3.out.1.c1
    have y2 := HW3.out.1.c2
    have y3 := HW3.out.1.c3
    have f0 := HW3.out.1.fz 0
    have f1 := HW3.out.1.fz 1
    have f2 := HW3.out.1.fz 2
    have f3 := HW3.out.1.fz 3
    have HE : Hid (BH ((w2.setCell ⟨w.heap.size + 1, 3, none⟩ (.string P)).setCells w.heap.size 0 (hcs ⟨h, (m : Int) + 1 + 1, r, P⟩)) w.heap.size ⟨h, (m : Int) + 1 + 1, r, P⟩ ∧ Below w.heap.size w ((w2.setCell ⟨w.heap.size + 1, 3, none⟩ (.string P)).setCells w.heap.size 0 (hcs ⟨h, (m : Int) + 1 + 1, r, P⟩))) := ⟨HW3.out.1.put _, below_setCells (Nat.le_refl _) _ _ _ HW3.out.2.2⟩
    clear HW3
    simp only at t3 z0 z1 z2 z3 y0 y1 y2 y3
    go_wp2
    exact ret_hd 6 w.heap.size ⟨h, (m : Int) + 1 + 1, r, P⟩ rfl rfl rfl HE.out.1 ⟨rfl, HE.out.2⟩

namespace HV
/-- the first m heads stand as a chain of the house h -/
def Upto (L : List Hd) (h : Int) (m : Nat) : Prop := ∀ i (hi : i < L.length), i < m → okH L[i] = true ∧ L[i] = behind (L.take i) h L[i].r
def ChOk (L : List Hd) (h : Int) : Prop := Upto L h L.length
open Classical in
noncomputable def chB (L : List Hd) (h : Int) : Bool := decide (ChOk L h)
theorem chB_iff {L : List Hd} {h : Int} : chB L h = true ↔ ChOk L h := by simp [chB]
theorem chB_no {L : List Hd} {h : Int} : chB L h = false ↔ ¬ ChOk L h := by simp [chB]
theorem Upto.zero (L : List Hd) (h : Int) : Upto L h 0 := fun i _ hi => by omega
theorem Upto.step {L : List Hd} {h : Int} {m : Nat} (hu : Upto L h m) (hm : m < L.length) (h1 : okH L[m] = true) (h2 : L[m] = behind (L.take m) h L[m].r) : Upto L h (m + 1) := by
  intro i hi hlt
  rcases Nat.lt_or_ge i m with h3 | h3
  · exact hu i hi h3
  · have : i = m := by omega
    subst this
    exact ⟨h1, h2⟩
theorem not_ok {L : List Hd} {h : Int} {m : Nat} (hm : m < L.length) (h1 : okH L[m] = false) : chB L h = false := by
  rw [chB_no]
  intro hc
  have := (hc m hm hm).1
  rw [h1] at this
  cases this
theorem not_behind {L : List Hd} {h : Int} {m : Nat} (hm : m < L.length) (h1 : L[m] ≠ behind (L.take m) h L[m].r) : chB L h = false := by
  rw [chB_no]
  exact fun hc => h1 (hc m hm hm).2
theorem all_ok {L : List Hd} {h : Int} (hu : Upto L h L.length) : chB L h = true := chB_iff.2 hu
end HV

/-- the first heads of a row -/
theorem RS.takeH {w : World} {a : Option Addr} {c g o : Nat} {l : List Hd} (h : RS 4 hcs w (.slice a l.length c) g o l) (k : Nat) (hk : k ≤ l.length) (c' : Nat) : RS 4 hcs w (.slice a k c') g o (l.take k) := by
  obtain ⟨a', c1, e, hl, h0, hc⟩ := h
  obtain ⟨rfl, rfl⟩ : a = a' ∧ c = c1 := by simpa using e
  refine ⟨a, c', by rw [List.length_take, Nat.min_eq_left hk], by rw [List.length_take]; omega, fun hp => h0 (by rw [List.length_take] at hp; omega), fun j hj => ?_⟩
  rw [List.length_take] at hj
  have := hc j (by omega)
  rw [List.getElem_take]
  exact this

theorem HV.ne_cases {a b a' b' : Int} {c d c' d' : ByteArray} (h : (⟨a, b, c, d⟩ : Hd) ≠ ⟨a', b', c', d'⟩) : ¬ a = a' ∨ (a = a' ∧ ¬ b = b') ∨ (a = a' ∧ b = b' ∧ ¬ c.toList = c'.toList) ∨ (a = a' ∧ b = b' ∧ c = c' ∧ ¬ d.toList = d'.toList) := by
  by_cases h1 : a = a'
  · by_cases h2 : b = b'
    · by_cases h3 : c = c'
      · by_cases h4 : d = d'
        · rw [h1, h2, h3, h4] at h
          exact absurd rfl h
        · exact .inr (.inr (.inr ⟨h1, h2, h3, fun e => h4 (F.toList_inj e)⟩))
      · exact .inr (.inr (.inl ⟨h1, h2, fun e => h3 (F.toList_inj e)⟩))
    · exact .inr (.inl ⟨h1, h2⟩)
  · exact .inl h1

def ChR (L : List Hd) (h : Int) (w : World) (i : Value) (wr : World) : Prop := ∃ m : Nat, m ≤ L.length ∧ i = .int .i64 m ∧ Hid (HV.Upto L h m) ∧ Below w.heap.size w wr

set_option maxRecDepth 100000 in
set_option maxHeartbeats 1000000 in
theorem ChainOk_any (v : Value) (ga oa : Nat) (L : List Hd) (h : Int) (w : World) (hv : RS 4 hcs w v ga oa L) (hcap : ∀ a n c, v = .slice a n c → n ≤ c) (hT : Tb w) :
    Calls Tryd.prog 11 #[v, .int .i64 h] w fun e w' => e = .returned (.bool (HV.chB L h)) ∧ Below w.heap.size w w' := by
  have HV0 : Hid (RS 4 hcs w v ga oa L) := hv
  have HT : Hid (Tb w) := hT
  obtain ⟨a, cap, rfl, hl, hA, _⟩ := hv
  obtain ⟨n, hn⟩ : ∃ n, L.length = n := ⟨_, rfl⟩
  have HA : Hid (0 < n → a = some ⟨ga, oa, none⟩ ∧ ga < w.heap.size) := by rw [← hn]; exact hA
  have hnc : n ≤ cap := by rw [← hn]; exact hcap _ _ _ rfl
  clear hcap
  obtain ⟨R, hR⟩ : ∃ R, HV.chB L h = R := ⟨_, rfl⟩
  have HR : Hid (HV.chB L h = R) := hR
  rw [hR]
  rw [hn] at hl ⊢
  clear hA hT hR
  have HST : Hid (ChR L h w (.int .i64 0) w) := ⟨0, by omega, rfl, HV.Upto.zero L h, Below.refl _ _⟩
  go_enter Tryd.func11, Tryd.ntmps11
  go_wp2
  refine wp_scope_jumps 0 (fun a' W => (R = false ∧ Below w.heap.size w W) ∧ ∃ u0 u1 u2 u3 u4 u5 u6 u7 u8 u9 u10 u11 u12 u13 u14 u15 u16 u17 u18 u19 u20 u21 u22 u23 u24 u25 u26 u27 u28 : Value, a' = { tmps := #[u0, u1, u2, u3, u4, u5, u6, u7, u8, u9, u10, u11, u12, u13, u14, u15, u16, u17, u18, u19, u20, u21, u22, u23, u24, u25, u26, u27, u28], defers := [] }) (fun _ _ => 0) rfl ?_ ?_
  · go_wp2
    go_loopw [9] (fun i wr => ChR L h w i wr) (fun i _ => n - (intOf i).toNat)
    case atStart => exact HST.out
    case round =>
      obtain ⟨m, hm, rfl, HU, hbel⟩ := hrel
      rw [hn] at hm
      clear HST
      by_cases hlt : m < n
      · obtain ⟨ea, hga⟩ := HA.out (by omega)
        subst ea
        have hrs := HV0.out.later hbel
        obtain ⟨c0, c1, c2, c3⟩ := hrs.head m (by omega)
        obtain ⟨X, hX⟩ : ∃ X, L[m]'(by omega) = X := ⟨_, rfl⟩
        rw [hX] at c0 c1 c2 c3
        have i1 : (m : Int) < (n : Int) := by omega
        have i2 : (0 : Int) ≤ (m : Int) := by omega
        have HBW : Hid (Below w.heap.size w (wr.alloc (.cells #[.int .i64 X.h, .int .i64 X.e, .string X.r, .string X.p] 33))) := hbel.alloc hbel.size _
        have HBS : w.heap.size ≤ (wr.alloc (.cells #[.int .i64 X.h, .int .i64 X.e, .string X.r, .string X.p] 33)).heap.size := HBW.out.size
        have HOK : Hid (∀ W, Calls Tryd.prog 23 #[.agg #[.int .i64 X.h, .int .i64 X.e, .string X.r, .string X.p]] W fun e w' => e = .returned (.bool (HV.okH X)) ∧ Below W.heap.size W w') := fun W => HeadOk_any X W
        have HX : Hid (L[m]'(by omega) = X) := hX
        have z0 : (wr.alloc (.cells #[.int .i64 X.h, .int .i64 X.e, .string X.r, .string X.p] 33)).cell? ⟨wr.heap.size, 0, none⟩ = some (.int .i64 X.h) := (BH.new wr X).c0
        have z1 : (wr.alloc (.cells #[.int .i64 X.h, .int .i64 X.e, .string X.r, .string X.p] 33)).cell? ⟨wr.heap.size, 1, none⟩ = some (.int .i64 X.e) := (BH.new wr X).c1
        have z2 : (wr.alloc (.cells #[.int .i64 X.h, .int .i64 X.e, .string X.r, .string X.p] 33)).cell? ⟨wr.heap.size, 2, none⟩ = some (.string X.r) := (BH.new wr X).c2
        have z3 : (wr.alloc (.cells #[.int .i64 X.h, .int .i64 X.e, .string X.r, .string X.p] 33)).cell? ⟨wr.heap.size, 3, none⟩ = some (.string X.p) := (BH.new wr X).c3
        clear hX
        cases hk : HV.okH X
        · rw [hk] at HOK
          have hF : R = false := by rw [← HR.out]; exact HV.not_ok (m := m) (by omega) (by rw [HX.out]; exact hk)
          clear hrs HV0 HX HU HA HR hk HT
          go_wp2
          have kq0 := cell_regrown (w := (wr.alloc (.cells #[.int .i64 X.h, .int .i64 X.e, .string X.r, .string X.p] 33))) z0
          have kq1 := cell_regrown (w := (wr.alloc (.cells #[.int .i64 X.h, .int .i64 X.e, .string X.r, .string X.p] 33))) z1
          have kq2 := cell_regrown (w := (wr.alloc (.cells #[.int .i64 X.h, .int .i64 X.e, .string X.r, .string X.p] 33))) z2
          have kq3 := cell_regrown (w := (wr.alloc (.cells #[.int .i64 X.h, .int .i64 X.e, .string X.r, .string X.p] 33))) z3
          have cq0 := fun d os => Calls.regrown_of (w := (wr.alloc (.cells #[.int .i64 X.h, .int .i64 X.e, .string X.r, .string X.p] 33))) (d := d) (os := os) (HOK.out _)
          refine wp_region_quiet_below (by kernel_rfl) (by kernel_rfl) ?_
          repeat (go_big_quiet_step (first | (with_reducible exact cq0 _ _)))
          refine wpQuiet_nil ?_
          rintro _ ⟨⟨dq, osq⟩, rfl⟩
          have hb6 := HBW.out.trans ((below_regrown (wr.alloc (.cells #[.int .i64 X.h, .int .i64 X.e, .string X.r, .string X.p] 33)) dq osq).mono HBS)
          generalize grow (redrawn (wr.alloc (.cells #[.int .i64 X.h, .int .i64 X.e, .string X.r, .string X.p] 33)) dq) osq = w6 at *
          clear kq0 kq1 kq2 kq3 cq0
          go_wp2
          go_step3
          exact ⟨rfl, ⟨hF, hb6⟩, _, _, _, _, _, _, _, _, _, _, _, _, _, _, _, _, _, _, _, _, _, _, _, _, _, _, _, _, _, rfl⟩
        · rw [hk] at HOK
          obtain ⟨Y, hY⟩ : ∃ Y, HV.behind (L.take m) h X.r = Y := ⟨_, rfl⟩
          have HBH : Hid (∀ W, Below (wr.alloc (.cells #[.int .i64 X.h, .int .i64 X.e, .string X.r, .string X.p] 33)).heap.size (wr.alloc (.cells #[.int .i64 X.h, .int .i64 X.e, .string X.r, .string X.p] 33)) W → Calls Tryd.prog 37 #[.slice (some ⟨ga, oa, none⟩) m cap, .int .i64 h, .string X.r] W fun e w' => e = .returned (.agg #[.int .i64 Y.h, .int .i64 Y.e, .string Y.r, .string Y.p]) ∧ Below W.heap.size W w') := fun W hW => by
            have h1 := (hrs.later ((Below.refl _ _).alloc (Nat.le_refl _) _)).later hW
            have h2 := HT.out.later (HBW.out.trans (hW.mono HBS))
            rw [← hY]
            exact headBehind_any _ ga oa (L.take m) h X.r W (h1.takeH m (by omega) cap) h2
          have HY : Hid (HV.behind (L.take m) h X.r = Y) := hY
          clear hY
          have i3 : (m : Int) ≤ (cap : Int) := by omega
          by_cases hxy : X = Y
          · have HU2 : Hid (HV.Upto L h (m + 1)) := HU.out.step (by omega) (by rw [HX.out]; exact hk) (by rw [HX.out, HY.out]; exact hxy)
            clear HY hk
            subst hxy
            clear hrs HV0 HX HU HA HR HT
            go_wp2
            have kq0 := cell_regrown (w := (wr.alloc (.cells #[.int .i64 X.h, .int .i64 X.e, .string X.r, .string X.p] 33))) z0
            have kq1 := cell_regrown (w := (wr.alloc (.cells #[.int .i64 X.h, .int .i64 X.e, .string X.r, .string X.p] 33))) z1
            have kq2 := cell_regrown (w := (wr.alloc (.cells #[.int .i64 X.h, .int .i64 X.e, .string X.r, .string X.p] 33))) z2
            have kq3 := cell_regrown (w := (wr.alloc (.cells #[.int .i64 X.h, .int .i64 X.e, .string X.r, .string X.p] 33))) z3
            have cq0 := fun d os => Calls.regrown_of (w := (wr.alloc (.cells #[.int .i64 X.h, .int .i64 X.e, .string X.r, .string X.p] 33))) (d := d) (os := os) (HOK.out _)
            have cq1 := fun d os => Calls.regrown_of (w := (wr.alloc (.cells #[.int .i64 X.h, .int .i64 X.e, .string X.r, .string X.p] 33))) (d := d) (os := os) (HBH.out _ (below_regrown (wr.alloc (.cells #[.int .i64 X.h, .int .i64 X.e, .string X.r, .string X.p] 33)) d os))
            refine wp_region_quiet_below (by kernel_rfl) (by kernel_rfl) ?_
            repeat (go_big_quiet_step (first | (with_reducible exact cq0 _ _) | (with_reducible exact cq1 _ _)))
            refine wpQuiet_nil ?_
            rintro _ ⟨⟨dq, osq⟩, rfl⟩
            have hb6 := HBW.out.trans ((below_regrown (wr.alloc (.cells #[.int .i64 X.h, .int .i64 X.e, .string X.r, .string X.p] 33)) dq osq).mono HBS)
            generalize grow (redrawn (wr.alloc (.cells #[.int .i64 X.h, .int .i64 X.e, .string X.r, .string X.p] 33)) dq) osq = w6 at *
            clear kq0 kq1 kq2 kq3 cq0 cq1
            go_wp2
            go_roundw
            case rel => exact ⟨m + 1, by omega, by go_num, HU2, hb6⟩
            case measure => simp [intOf]; omega
          · have hF : R = false := by rw [← HR.out]; exact HV.not_behind (m := m) (by omega) (by rw [HX.out, HY.out]; exact hxy)
            clear hrs HV0 HX HU HA HR HT HY hk
            obtain ⟨xh, xe, xr, xp⟩ := X
            obtain ⟨yh, ye, yr, yp⟩ := Y
            simp only at HOK HBH HBW HBS z0 z1 z2 z3 c0 c1 c2 c3
            rcases HV.ne_cases hxy with hq | ⟨hq1, hq⟩ | ⟨hq1, hq2, hq⟩ | ⟨hq1, hq2, hq3, hq⟩
            · clear hxy
              go_wp2
              have kq0 := cell_regrown (w := (wr.alloc (.cells #[.int .i64 xh, .int .i64 xe, .string xr, .string xp] 33))) z0
              have kq1 := cell_regrown (w := (wr.alloc (.cells #[.int .i64 xh, .int .i64 xe, .string xr, .string xp] 33))) z1
              have kq2 := cell_regrown (w := (wr.alloc (.cells #[.int .i64 xh, .int .i64 xe, .string xr, .string xp] 33))) z2
              have kq3 := cell_regrown (w := (wr.alloc (.cells #[.int .i64 xh, .int .i64 xe, .string xr, .string xp] 33))) z3
              have cq0 := fun d os => Calls.regrown_of (w := (wr.alloc (.cells #[.int .i64 xh, .int .i64 xe, .string xr, .string xp] 33))) (d := d) (os := os) (HOK.out _)
              have cq1 := fun d os => Calls.regrown_of (w := (wr.alloc (.cells #[.int .i64 xh, .int .i64 xe, .string xr, .string xp] 33))) (d := d) (os := os) (HBH.out _ (below_regrown (wr.alloc (.cells #[.int .i64 xh, .int .i64 xe, .string xr, .string xp] 33)) d os))
              refine wp_region_quiet_below (by kernel_rfl) (by kernel_rfl) ?_
              repeat (go_big_quiet_step (first | (with_reducible exact cq0 _ _) | (with_reducible exact cq1 _ _)))
              refine wpQuiet_nil ?_
              rintro _ ⟨⟨dq, osq⟩, rfl⟩
              have hb6 := HBW.out.trans ((below_regrown (wr.alloc (.cells #[.int .i64 xh, .int .i64 xe, .string xr, .string xp] 33)) dq osq).mono HBS)
              generalize grow (redrawn (wr.alloc (.cells #[.int .i64 xh, .int .i64 xe, .string xr, .string xp] 33)) dq) osq = w6 at *
              clear kq0 kq1 kq2 kq3 cq0 cq1
              go_wp2
              go_step3
              exact ⟨rfl, ⟨hF, hb6⟩, _, _, _, _, _, _, _, _, _, _, _, _, _, _, _, _, _, _, _, _, _, _, _, _, _, _, _, _, _, rfl⟩
            · clear hxy
              subst hq1
              go_wp2
              have kq0 := cell_regrown (w := (wr.alloc (.cells #[.int .i64 xh, .int .i64 xe, .string xr, .string xp] 33))) z0
              have kq1 := cell_regrown (w := (wr.alloc (.cells #[.int .i64 xh, .int .i64 xe, .string xr, .string xp] 33))) z1
              have kq2 := cell_regrown (w := (wr.alloc (.cells #[.int .i64 xh, .int .i64 xe, .string xr, .string xp] 33))) z2
              have kq3 := cell_regrown (w := (wr.alloc (.cells #[.int .i64 xh, .int .i64 xe, .string xr, .string xp] 33))) z3
              have cq0 := fun d os => Calls.regrown_of (w := (wr.alloc (.cells #[.int .i64 xh, .int .i64 xe, .string xr, .string xp] 33))) (d := d) (os := os) (HOK.out _)
              have cq1 := fun d os => Calls.regrown_of (w := (wr.alloc (.cells #[.int .i64 xh, .int .i64 xe, .string xr, .string xp] 33))) (d := d) (os := os) (HBH.out _ (below_regrown (wr.alloc (.cells #[.int .i64 xh, .int .i64 xe, .string xr, .string xp] 33)) d os))
              refine wp_region_quiet_below (by kernel_rfl) (by kernel_rfl) ?_
              repeat (go_big_quiet_step (first | (with_reducible exact cq0 _ _) | (with_reducible exact cq1 _ _)))
              refine wpQuiet_nil ?_
              rintro _ ⟨⟨dq, osq⟩, rfl⟩
              have hb6 := HBW.out.trans ((below_regrown (wr.alloc (.cells #[.int .i64 xh, .int .i64 xe, .string xr, .string xp] 33)) dq osq).mono HBS)
              generalize grow (redrawn (wr.alloc (.cells #[.int .i64 xh, .int .i64 xe, .string xr, .string xp] 33)) dq) osq = w6 at *
              clear kq0 kq1 kq2 kq3 cq0 cq1
              go_wp2
              go_step3
              exact ⟨rfl, ⟨hF, hb6⟩, _, _, _, _, _, _, _, _, _, _, _, _, _, _, _, _, _, _, _, _, _, _, _, _, _, _, _, _, _, rfl⟩
            · clear hxy
              subst hq1
              subst hq2
              go_wp2
              have kq0 := cell_regrown (w := (wr.alloc (.cells #[.int .i64 xh, .int .i64 xe, .string xr, .string xp] 33))) z0
              have kq1 := cell_regrown (w := (wr.alloc (.cells #[.int .i64 xh, .int .i64 xe, .string xr, .string xp] 33))) z1
              have kq2 := cell_regrown (w := (wr.alloc (.cells #[.int .i64 xh, .int .i64 xe, .string xr, .string xp] 33))) z2
              have kq3 := cell_regrown (w := (wr.alloc (.cells #[.int .i64 xh, .int .i64 xe, .string xr, .string xp] 33))) z3
              have cq0 := fun d os => Calls.regrown_of (w := (wr.alloc (.cells #[.int .i64 xh, .int .i64 xe, .string xr, .string xp] 33))) (d := d) (os := os) (HOK.out _)
              have cq1 := fun d os => Calls.regrown_of (w := (wr.alloc (.cells #[.int .i64 xh, .int .i64 xe, .string xr, .string xp] 33))) (d := d) (os := os) (HBH.out _ (below_regrown (wr.alloc (.cells #[.int .i64 xh, .int .i64 xe, .string xr, .string xp] 33)) d os))
              refine wp_region_quiet_below (by kernel_rfl) (by kernel_rfl) ?_
              repeat (go_big_quiet_step (first | (with_reducible exact cq0 _ _) | (with_reducible exact cq1 _ _)))
              refine wpQuiet_nil ?_
              rintro _ ⟨⟨dq, osq⟩, rfl⟩
              have hb6 := HBW.out.trans ((below_regrown (wr.alloc (.cells #[.int .i64 xh, .int .i64 xe, .string xr, .string xp] 33)) dq osq).mono HBS)
              generalize grow (redrawn (wr.alloc (.cells #[.int .i64 xh, .int .i64 xe, .string xr, .string xp] 33)) dq) osq = w6 at *
              clear kq0 kq1 kq2 kq3 cq0 cq1
              go_wp2
              go_step3
              exact ⟨rfl, ⟨hF, hb6⟩, _, _, _, _, _, _, _, _, _, _, _, _, _, _, _, _, _, _, _, _, _, _, _, _, _, _, _, _, _, rfl⟩
            · clear hxy
              subst hq1
              subst hq2
              subst hq3
              go_wp2
              have kq0 := cell_regrown (w := (wr.alloc (.cells #[.int .i64 xh, .int .i64 xe, .string xr, .string xp] 33))) z0
              have kq1 := cell_regrown (w := (wr.alloc (.cells #[.int .i64 xh, .int .i64 xe, .string xr, .string xp] 33))) z1
              have kq2 := cell_regrown (w := (wr.alloc (.cells #[.int .i64 xh, .int .i64 xe, .string xr, .string xp] 33))) z2
              have kq3 := cell_regrown (w := (wr.alloc (.cells #[.int .i64 xh, .int .i64 xe, .string xr, .string xp] 33))) z3
              have cq0 := fun d os => Calls.regrown_of (w := (wr.alloc (.cells #[.int .i64 xh, .int .i64 xe, .string xr, .string xp] 33))) (d := d) (os := os) (HOK.out _)
              have cq1 := fun d os => Calls.regrown_of (w := (wr.alloc (.cells #[.int .i64 xh, .int .i64 xe, .string xr, .string xp] 33))) (d := d) (os := os) (HBH.out _ (below_regrown (wr.alloc (.cells #[.int .i64 xh, .int .i64 xe, .string xr, .string xp] 33)) d os))
              refine wp_region_quiet_below (by kernel_rfl) (by kernel_rfl) ?_
              repeat (go_big_quiet_step (first | (with_reducible exact cq0 _ _) | (with_reducible exact cq1 _ _)))
              refine wpQuiet_nil ?_
              rintro _ ⟨⟨dq, osq⟩, rfl⟩
              have hb6 := HBW.out.trans ((below_regrown (wr.alloc (.cells #[.int .i64 xh, .int .i64 xe, .string xr, .string xp] 33)) dq osq).mono HBS)
              generalize grow (redrawn (wr.alloc (.cells #[.int .i64 xh, .int .i64 xe, .string xr, .string xp] 33)) dq) osq = w6 at *
              clear kq0 kq1 kq2 kq3 cq0 cq1
              go_wp2
              go_step3
              exact ⟨rfl, ⟨hF, hb6⟩, _, _, _, _, _, _, _, _, _, _, _, _, _, _, _, _, _, _, _, _, _, _, _, _, _, _, _, _, _, rfl⟩
      · have hme : m = n := by omega
        have hF : R = true := by rw [← HR.out]; exact HV.all_ok (by rw [hn, ← hme]; exact HU.out)
        subst hme
        clear HU HV0 HT HR
        subst hF
        go_wp2
        simp only [Exit.jump]
        go_ret
        exact ⟨rfl, hbel⟩
  · rintro a' W ⟨⟨hF, hb⟩, u0, u1, u2, u3, u4, u5, u6, u7, u8, u9, u10, u11, u12, u13, u14, u15, u16, u17, u18, u19, u20, u21, u22, u23, u24, u25, u26, u27, u28, rfl⟩
    subst hF
    go_wp2
    simp only [Exit.jump]
    go_ret
    exact ⟨rfl, hb⟩

end Go.Proofs.YtlpbfafcaleifaaDoor
/-
  A chain, and the next head: the specification's answers.
-/
namespace Go.Proofs.YtlpbfafcaleifaaDoor
open Go.RowKit Go.BigFrame Go.Sort
set_option linter.unusedVariables false
set_option linter.unusedSimpArgs false

namespace HV
theorem behind_iff {L : List Hd} {h : Int} {X : Hd} : X = behind L h X.r ↔ X.h = h ∧ X.e = (L.length : Int) + 1 ∧ X.p = lastP L := by
  obtain ⟨a, b, c, d⟩ := X
  unfold behind
  simp
theorem empty_of {p : ByteArray} (h : p.size = 0) : p = ⟨#[]⟩ := by
  have h0 : p.data.toList = [] := List.length_eq_zero_iff.1 (by rw [Array.length_toList]; exact h)
  exact ByteArray.ext (Array.toList_inj.1 h0)
theorem first_prev {X : Hd} (h : okH X = true) (he : X.e = 1) : X.p = ⟨#[]⟩ := by
  obtain ⟨_, _, _, h4⟩ := okH_iff.1 h
  rw [he] at h4
  exact empty_of h4
end HV

set_option maxRecDepth 100000 in
set_option maxHeartbeats 1000000 in
theorem sChainOk_any (v : Value) (ga oa : Nat) (L : List Hd) (h : Int) (w : World) (hv : RS 4 hcs w v ga oa L) :
    Calls Tryd.prog 32 #[v, .int .i64 h] w fun e w' => e = .returned (.bool (HV.chB L h)) ∧ Below w.heap.size w w' := by
  have HV0 : Hid (RS 4 hcs w v ga oa L) := hv
  obtain ⟨a, cap, rfl, hl, hA, _⟩ := hv
  obtain ⟨n, hn⟩ : ∃ n, L.length = n := ⟨_, rfl⟩
  have HA : Hid (0 < n → a = some ⟨ga, oa, none⟩ ∧ ga < w.heap.size) := by rw [← hn]; exact hA
  obtain ⟨R, hR⟩ : ∃ R, HV.chB L h = R := ⟨_, rfl⟩
  have HR : Hid (HV.chB L h = R) := hR
  rw [hR]
  rw [hn] at hl ⊢
  clear hA hR
  have HST : Hid (ChR L h w (.int .i64 0) w) := ⟨0, by omega, rfl, HV.Upto.zero L h, Below.refl _ _⟩
  go_enter Tryd.func32, Tryd.ntmps32
  go_wp2
  go_loopw [5] (fun i wr => ChR L h w i wr) (fun i _ => n - (intOf i).toNat)
  case atStart => exact HST.out
  case round =>
    obtain ⟨m, hm, rfl, HU, hbel⟩ := hrel
    rw [hn] at hm
    clear HST
    by_cases hlt : m < n
    · obtain ⟨ea, hga⟩ := HA.out (by omega)
      subst ea
      have hrs := HV0.out.later hbel
      obtain ⟨c0, c1, c2, c3⟩ := hrs.head m (by omega)
      obtain ⟨X, hX⟩ : ∃ X, L[m]'(by omega) = X := ⟨_, rfl⟩
      rw [hX] at c0 c1 c2 c3
      have i1 : (m : Int) < (n : Int) := by omega
      have i2 : (0 : Int) ≤ (m : Int) := by omega
      have i3 : IntKind.i64.wrap ((m : Int) + 1) = (m : Int) + 1 := IntWalk.i64_in _ (by omega)
      have HOK : Hid (∀ W, Calls Tryd.prog 22 #[.agg #[.int .i64 X.h, .int .i64 X.e, .string X.r, .string X.p]] W fun e w' => e = .returned (.bool (HV.okH X)) ∧ Below W.heap.size W w') := fun W => sHeadOk_any X W
      have HX : Hid (L[m]'(by omega) = X) := hX
      have HLT : Hid ((L.take m).length = m) := by
        show (L.take m).length = m
        rw [List.length_take]
        omega
      clear hX
      cases hk : HV.okH X
      · rw [hk] at HOK
        have hF : R = false := by rw [← HR.out]; exact HV.not_ok (m := m) (by omega) (by rw [HX.out]; exact hk)
        subst hF
        clear hrs HV0 HX HU HA HR hk HLT
        go_wp2
        have kq0 := cell_regrown (w := wr) c0
        have kq1 := cell_regrown (w := wr) c1
        have kq2 := cell_regrown (w := wr) c2
        have kq3 := cell_regrown (w := wr) c3
        have cq0 := fun d os => Calls.regrown_of (w := wr) (d := d) (os := os) (HOK.out _)
        refine wp_region_quiet_below (by kernel_rfl) (by kernel_rfl) ?_
        repeat (go_big_quiet_step (first | (with_reducible exact cq0 _ _)))
        refine wpQuiet_nil ?_
        rintro _ ⟨⟨dq, osq⟩, rfl⟩
        have hb6 := hbel.trans ((below_regrown wr dq osq).mono hbel.size)
        generalize grow (redrawn wr dq) osq = w6 at *
        clear kq0 kq1 kq2 kq3 cq0
        go_wp2
        try rw [Exit.noGoto_ret]
        go_ret
        exact ⟨rfl, hb6⟩
      · rw [hk] at HOK
        have HNB : Hid (¬ (X.h = h ∧ X.e = (m : Int) + 1 ∧ X.p = HV.lastP (L.take m)) → R = false) := fun hh => by
          rw [← HR.out]
          refine HV.not_behind (m := m) (by omega) ?_
          rw [HX.out]
          intro he
          have := HV.behind_iff.1 he
          rw [HLT.out] at this
          exact hh this
        have HNX : Hid (X.h = h ∧ X.e = (m : Int) + 1 ∧ X.p = HV.lastP (L.take m) → HV.Upto L h (m + 1)) := fun hh => by
          refine HU.out.step (by omega) (by rw [HX.out]; exact hk) ?_
          rw [HX.out]
          refine HV.behind_iff.2 ?_
          rw [HLT.out]
          exact hh
        have HK : Hid (HV.okH X = true) := hk
        clear hk HR HU HLT
        by_cases h1 : X.h = h
        · by_cases h2 : X.e = (m : Int) + 1
          · have h1' : (X.h != h) = false := by simp [h1]
            have h2' : (X.e != (m : Int) + 1) = false := by simp [h2]
            by_cases h0 : m = 0
            · have HU2 : Hid (HV.Upto L h (m + 1)) := HNX.out ⟨h1, h2, by subst h0; rw [List.take_zero, HV.lastP_nil]; exact HV.first_prev HK.out (by rw [h2]; rfl)⟩
              have q0 : decide ((0 : Int) < (m : Int)) = false := decide_eq_false (by omega)
              have q0' : decide (0 < m) = false := decide_eq_false (by omega)
              clear hrs HV0 HX HA HNB HNX HK h1 h2 h0
              go_wp2
              have kq0 := cell_regrown (w := wr) c0
              have kq1 := cell_regrown (w := wr) c1
              have kq2 := cell_regrown (w := wr) c2
              have kq3 := cell_regrown (w := wr) c3
              have cq0 := fun d os => Calls.regrown_of (w := wr) (d := d) (os := os) (HOK.out _)
              refine wp_region_quiet_below (by kernel_rfl) (by kernel_rfl) ?_
              repeat (go_big_quiet_step (first | (with_reducible exact cq0 _ _)))
              refine wpQuiet_nil ?_
              rintro _ ⟨⟨dq, osq⟩, rfl⟩
              have hb6 := hbel.trans ((below_regrown wr dq osq).mono hbel.size)
              generalize grow (redrawn wr dq) osq = w6 at *
              clear kq0 kq1 kq2 kq3 cq0
              go_wp2
              go_roundw
              case rel => exact ⟨m + 1, by omega, by go_num, HU2, hb6⟩
              case measure => simp [intOf]; omega
            · obtain ⟨p, rfl⟩ : ∃ p, m = p + 1 := ⟨m - 1, by omega⟩
              obtain ⟨b0, b1, b2, b3⟩ := hrs.head p (by omega)
              have HLP : Hid (HV.lastP (L.take (p + 1)) = HV.hashH (L[p]'(by omega))) := by
                show _ = _
                rw [HV.lastP_at (m := p) (by rw [List.length_take]; omega), List.getElem_take]
              have HHH : Hid (∀ W, Calls Tryd.prog 16 #[.agg #[.int .i64 (L[p]'(by omega)).h, .int .i64 (L[p]'(by omega)).e, .string (L[p]'(by omega)).r, .string (L[p]'(by omega)).p]] W fun e w' => e = .returned (.string (HV.hashH (L[p]'(by omega)))) ∧ Below W.heap.size W w') := fun W => sHeadHash_any _ W
              rw [HLP.out] at HNB HNX
              clear HLP
              generalize HV.hashH (L[p]'(by omega)) = H at *
              generalize (L[p]'(by omega)) = Y at *
              have q0 : (0 : Int) < ((p + 1 : Nat) : Int) := by omega
              have q0' : decide ((0 : Int) < ((p + 1 : Nat) : Int)) = true := decide_eq_true q0
              have q0'' : decide ((0 : Int) < (p : Int) + 1) = true := decide_eq_true (by omega)
              have j1' : IntKind.i64.wrap (p : Int) = (p : Int) := IntWalk.i64_in _ (by omega)
              have h2'' : (X.e != (p : Int) + 1 + 1) = false := by simp [h2]
              have j0 : (p : Int) + 1 < (n : Int) := by omega
              have j2 : (0 : Int) ≤ (p : Int) := by omega
              have j3 : (p : Int) < (n : Int) := by omega
              by_cases h3 : X.p = H
              · have HU2 : Hid (HV.Upto L h (p + 1 + 1)) := HNX.out ⟨h1, h2, h3⟩
                have h3' : (X.p.toList == H.toList) = true := by simp [h3]
                clear hrs HV0 HX HA HNB HNX HK h1 h2 h0 h3
                go_wp2
                have kq0 := cell_regrown (w := wr) c0
                have kq1 := cell_regrown (w := wr) c1
                have kq2 := cell_regrown (w := wr) c2
                have kq3 := cell_regrown (w := wr) c3
                have kp0 := cell_regrown (w := wr) b0
                have kp1 := cell_regrown (w := wr) b1
                have kp2 := cell_regrown (w := wr) b2
                have kp3 := cell_regrown (w := wr) b3
                have cq0 := fun d os => Calls.regrown_of (w := wr) (d := d) (os := os) (HOK.out _)
                have cq1 := fun d os => Calls.regrown_of (w := wr) (d := d) (os := os) (HHH.out _)
                refine wp_region_quiet_below (by kernel_rfl) (by kernel_rfl) ?_
                repeat (go_big_quiet_step (first | (with_reducible exact cq0 _ _) | (with_reducible exact cq1 _ _)))
                refine wpQuiet_nil ?_
                rintro _ ⟨⟨dq, osq⟩, rfl⟩
                have hb6 := hbel.trans ((below_regrown wr dq osq).mono hbel.size)
                generalize grow (redrawn wr dq) osq = w6 at *
                clear kq0 kq1 kq2 kq3 cq0 cq1 kp0 kp1 kp2 kp3
                go_wp2
                go_roundw
                case rel => exact ⟨p + 1 + 1, by omega, by go_num, HU2, hb6⟩
                case measure => simp [intOf]; omega
              · have hF : R = false := HNB.out (fun hh => h3 hh.2.2)
                subst hF
                have h3' : (X.p.toList == H.toList) = false := by
                  rw [Bool.eq_false_iff]
                  intro hh
                  exact h3 (F.toList_inj (by simpa using hh))
                clear hrs HV0 HX HA HNB HNX HK h1 h2 h0 h3
                go_wp2
                have kq0 := cell_regrown (w := wr) c0
                have kq1 := cell_regrown (w := wr) c1
                have kq2 := cell_regrown (w := wr) c2
                have kq3 := cell_regrown (w := wr) c3
                have kp0 := cell_regrown (w := wr) b0
                have kp1 := cell_regrown (w := wr) b1
                have kp2 := cell_regrown (w := wr) b2
                have kp3 := cell_regrown (w := wr) b3
                have cq0 := fun d os => Calls.regrown_of (w := wr) (d := d) (os := os) (HOK.out _)
                have cq1 := fun d os => Calls.regrown_of (w := wr) (d := d) (os := os) (HHH.out _)
                refine wp_region_quiet_below (by kernel_rfl) (by kernel_rfl) ?_
                repeat (go_big_quiet_step (first | (with_reducible exact cq0 _ _) | (with_reducible exact cq1 _ _)))
                refine wpQuiet_nil ?_
                rintro _ ⟨⟨dq, osq⟩, rfl⟩
                have hb6 := hbel.trans ((below_regrown wr dq osq).mono hbel.size)
                generalize grow (redrawn wr dq) osq = w6 at *
                clear kq0 kq1 kq2 kq3 cq0 cq1 kp0 kp1 kp2 kp3
                go_wp2
                try rw [Exit.noGoto_ret]
                go_ret
                exact ⟨rfl, hb6⟩
          · have hF : R = false := HNB.out (fun hh => h2 hh.2.1)
            subst hF
            have h1' : (X.h != h) = false := by simp [h1]
            have h2' : (X.e != (m : Int) + 1) = true := by simp [h2]
            clear hrs HV0 HX HA HNB HNX HK h1 h2
            go_wp2
            have kq0 := cell_regrown (w := wr) c0
            have kq1 := cell_regrown (w := wr) c1
            have kq2 := cell_regrown (w := wr) c2
            have kq3 := cell_regrown (w := wr) c3
            have cq0 := fun d os => Calls.regrown_of (w := wr) (d := d) (os := os) (HOK.out _)
            refine wp_region_quiet_below (by kernel_rfl) (by kernel_rfl) ?_
            repeat (go_big_quiet_step (first | (with_reducible exact cq0 _ _)))
            refine wpQuiet_nil ?_
            rintro _ ⟨⟨dq, osq⟩, rfl⟩
            have hb6 := hbel.trans ((below_regrown wr dq osq).mono hbel.size)
            generalize grow (redrawn wr dq) osq = w6 at *
            clear kq0 kq1 kq2 kq3 cq0
            go_wp2
            try rw [Exit.noGoto_ret]
            go_ret
            exact ⟨rfl, hb6⟩
        · have hF : R = false := HNB.out (fun hh => h1 hh.1)
          subst hF
          have h1' : (X.h != h) = true := by simp [h1]
          clear hrs HV0 HX HA HNB HNX HK h1
          go_wp2
          have kq0 := cell_regrown (w := wr) c0
          have kq1 := cell_regrown (w := wr) c1
          have kq2 := cell_regrown (w := wr) c2
          have kq3 := cell_regrown (w := wr) c3
          have cq0 := fun d os => Calls.regrown_of (w := wr) (d := d) (os := os) (HOK.out _)
          refine wp_region_quiet_below (by kernel_rfl) (by kernel_rfl) ?_
          repeat (go_big_quiet_step (first | (with_reducible exact cq0 _ _)))
          refine wpQuiet_nil ?_
          rintro _ ⟨⟨dq, osq⟩, rfl⟩
          have hb6 := hbel.trans ((below_regrown wr dq osq).mono hbel.size)
          generalize grow (redrawn wr dq) osq = w6 at *
          clear kq0 kq1 kq2 kq3 cq0
          go_wp2
          try rw [Exit.noGoto_ret]
          go_ret
          exact ⟨rfl, hb6⟩
    · have hme : m = n := by omega
      have hF : R = true := by rw [← HR.out]; exact HV.all_ok (by rw [hn, ← hme]; exact HU.out)
      subst hme
      clear HU HV0 HR
      subst hF
      go_wp2
      go_ret
      exact ⟨rfl, hbel⟩

end Go.Proofs.YtlpbfafcaleifaaDoor
/-
  The next head behind a list: the program's and the specification's answers.
-/
namespace Go.Proofs.YtlpbfafcaleifaaDoor
open Go.RowKit Go.BigFrame Go.Sort
set_option linter.unusedVariables false
set_option linter.unusedSimpArgs false

namespace HV
noncomputable def nxOk (L : List Hd) (h : Int) (r : ByteArray) : Bool := chB L h && okH (behind L h r)
/-- the next head, or the zero one -/
noncomputable def nxA (L : List Hd) (h : Int) (r : ByteArray) : Hd := if nxOk L h r = true then behind L h r else ⟨0, 0, ⟨#[]⟩, ⟨#[]⟩⟩
end HV

set_option maxRecDepth 100000 in
set_option maxHeartbeats 1000000 in
theorem NextHead_any (v : Value) (ga oa : Nat) (L : List Hd) (h : Int) (r : ByteArray) (w : World) (hv : RS 4 hcs w v ga oa L) (hcap : ∀ a n c, v = .slice a n c → n ≤ c) (hT : Tb w) :
    Calls Tryd.prog 14 #[v, .int .i64 h, .string r] w fun e w' => e = .returned (.tuple #[.agg #[.int .i64 (HV.nxA L h r).h, .int .i64 (HV.nxA L h r).e, .string (HV.nxA L h r).r, .string (HV.nxA L h r).p], .bool (HV.nxOk L h r)]) ∧ Below w.heap.size w w' := by
  have HB : Hid (Below w.heap.size w (w.alloc (.cells #[.int .i64 0, .int .i64 0, .string ⟨#[]⟩, .string ⟨#[]⟩] 33))) := (Below.refl _ _).alloc (Nat.le_refl _) _
  have HW0 : Hid (BH (w.alloc (.cells #[.int .i64 0, .int .i64 0, .string ⟨#[]⟩, .string ⟨#[]⟩] 33)) w.heap.size ⟨0, 0, ⟨#[]⟩, ⟨#[]⟩⟩) := BH.new w ⟨0, 0, ⟨#[]⟩, ⟨#[]⟩⟩
  have HC : Hid (∀ W, Below w.heap.size w W → Calls Tryd.prog 11 #[v, .int .i64 h] W fun e w' => e = .returned (.bool (HV.chB L h)) ∧ Below W.heap.size W w') := fun W hW => ChainOk_any v ga oa L h W (hv.later hW) hcap (hT.later hW)
  have HH : Hid (∀ W, Below w.heap.size w W → Calls Tryd.prog 37 #[v, .int .i64 h, .string r] W fun e w' => e = .returned (.agg #[.int .i64 (HV.behind L h r).h, .int .i64 (HV.behind L h r).e, .string (HV.behind L h r).r, .string (HV.behind L h r).p]) ∧ Below W.heap.size W w') := fun W hW => headBehind_any v ga oa L h r W (hv.later hW) (hT.later hW)
  unfold HV.nxA HV.nxOk
  generalize HV.chB L h = b1 at *
  obtain ⟨b2, hb2⟩ : ∃ b2, HV.okH (HV.behind L h r) = b2 := ⟨_, rfl⟩
  rw [hb2]
  have HO : Hid (∀ W, Calls Tryd.prog 23 #[.agg #[.int .i64 (HV.behind L h r).h, .int .i64 (HV.behind L h r).e, .string (HV.behind L h r).r, .string (HV.behind L h r).p]] W fun e w' => e = .returned (.bool b2) ∧ Below W.heap.size W w') := fun W => hb2 ▸ HeadOk_any _ W
  have HCC : Hid (b2 = true → ∀ W, Calls Tryd.prog 41 #[.agg #[.int .i64 (HV.behind L h r).h, .int .i64 (HV.behind L h r).e, .string (HV.behind L h r).r, .string (HV.behind L h r).p]] W fun e w' => e = .returned (.agg #[.int .i64 (HV.behind L h r).h, .int .i64 (HV.behind L h r).e, .string (HV.behind L h r).r, .string (HV.behind L h r).p]) ∧ Below W.heap.size W w') := fun e W => by
    rw [e] at hb2
    obtain ⟨_, _, h4, h5⟩ := HV.okH_iff.1 hb2
    exact copiedH_any _ W (by omega) (by rw [h5]; unfold HV.pw; split <;> omega)
  obtain ⟨av, cv, ev, _, _, _⟩ := hv
  subst ev
  clear hb2 hT hcap
  generalize HV.behind L h r = Y at *
  obtain ⟨yh, ye, yr, yp⟩ := Y
  simp only at HH HO HCC ⊢
  have HW1 : Hid (BH (w.alloc (.cells #[.int .i64 0, .int .i64 0, .string ⟨#[]⟩, .string ⟨#[]⟩] 33)) w.heap.size ⟨0, 0, ⟨#[]⟩, ⟨#[]⟩⟩ ∧ Below w.heap.size w (w.alloc (.cells #[.int .i64 0, .int .i64 0, .string ⟨#[]⟩, .string ⟨#[]⟩] 33))) := ⟨HW0.out, HB.out⟩
  clear HW0 HB
  cases b1
  · rw [if_neg (by simp)]
    simp only [Bool.false_and]
    go_enter Tryd.func14, Tryd.ntmps14
    go_wp2_with fail
    refine (HC.out _ HW1.out.2).mono ?_
    rintro e2 w2 ⟨rfl, hb2⟩
    have HW2 : Hid (BH w2 w.heap.size ⟨0, 0, ⟨#[]⟩, ⟨#[]⟩⟩ ∧ Below w.heap.size w w2) := ⟨HW1.out.1.later hb2, HW1.out.2.trans (hb2.mono HW1.out.2.size)⟩
    clear HC HH HO HCC hb2 HW1
    have y0 := HW2.out.1.c0
    have y1 := HW2.out.1.c1
    have y2 := HW2.out.1.c2
    have y3 := HW2.out.1.c3
    simp only at y0 y1 y2 y3
    have f0 := HW2.out.1.fz 0
    have f1 := HW2.out.1.fz 1
    have f2 := HW2.out.1.fz 2
    have f3 := HW2.out.1.fz 3
    have HE : Hid (BH (w2.setCells w.heap.size 0 (hcs ⟨0, 0, ⟨#[]⟩, ⟨#[]⟩⟩)) w.heap.size ⟨0, 0, ⟨#[]⟩, ⟨#[]⟩⟩ ∧ Below w.heap.size w (w2.setCells w.heap.size 0 (hcs ⟨0, 0, ⟨#[]⟩, ⟨#[]⟩⟩))) := ⟨HW2.out.1.put _, below_setCells (Nat.le_refl _) _ _ _ HW2.out.2⟩
    clear HW2
    go_wp2
    exact ret_hd2 6 7 w.heap.size ⟨0, 0, ⟨#[]⟩, ⟨#[]⟩⟩ _ rfl rfl rfl rfl HE.out.1 ⟨rfl, HE.out.2⟩
  · simp only [Bool.true_and]
    cases b2
    · rw [if_neg (by simp)]
      go_enter Tryd.func14, Tryd.ntmps14
      go_wp2_with fail
      refine (HC.out _ HW1.out.2).mono ?_
      rintro e2 w2 ⟨rfl, hb2⟩
      have HW2 : Hid (BH w2 w.heap.size ⟨0, 0, ⟨#[]⟩, ⟨#[]⟩⟩ ∧ Below w.heap.size w w2) := ⟨HW1.out.1.later hb2, HW1.out.2.trans (hb2.mono HW1.out.2.size)⟩
      clear HC hb2 HW1
      go_wp2_with fail
      refine (HH.out _ HW2.out.2).mono ?_
      rintro e3 w3 ⟨rfl, hb3⟩
      have HW3 : Hid (BH w3 w.heap.size ⟨0, 0, ⟨#[]⟩, ⟨#[]⟩⟩ ∧ Below w.heap.size w w3) := ⟨HW2.out.1.later hb3, HW2.out.2.trans (hb3.mono HW2.out.2.size)⟩
      clear HH hb3 HW2
      have HW4 : Hid (BH (w3.alloc (.cells #[.int .i64 yh, .int .i64 ye, .string yr, .string yp] 33)) w.heap.size ⟨0, 0, ⟨#[]⟩, ⟨#[]⟩⟩ ∧ BH (w3.alloc (.cells #[.int .i64 yh, .int .i64 ye, .string yr, .string yp] 33)) w3.heap.size ⟨yh, ye, yr, yp⟩ ∧ Below w.heap.size w (w3.alloc (.cells #[.int .i64 yh, .int .i64 ye, .string yr, .string yp] 33))) := ⟨HW3.out.1.later ((Below.refl _ _).alloc (Nat.le_refl _) _), BH.new w3 ⟨yh, ye, yr, yp⟩, HW3.out.2.alloc HW3.out.2.size _⟩
      clear HW3
      go_wp2_with fail
      refine (HO.out _).mono ?_
      rintro e5 w5 ⟨rfl, hb5⟩
      have HW5 : Hid (BH w5 w.heap.size ⟨0, 0, ⟨#[]⟩, ⟨#[]⟩⟩ ∧ BH w5 w3.heap.size ⟨yh, ye, yr, yp⟩ ∧ Below w.heap.size w w5) := ⟨HW4.out.1.later hb5, HW4.out.2.1.later hb5, HW4.out.2.2.trans (hb5.mono HW4.out.2.2.size)⟩
      clear HO hb5 HW4
      have y0 := HW5.out.1.c0
      have y1 := HW5.out.1.c1
      have y2 := HW5.out.1.c2
      have y3 := HW5.out.1.c3
      simp only at y0 y1 y2 y3
      have f0 := HW5.out.1.fz 0
      have f1 := HW5.out.1.fz 1
      have f2 := HW5.out.1.fz 2
      have f3 := HW5.out.1.fz 3
      have HE : Hid (BH (w5.setCells w.heap.size 0 (hcs ⟨0, 0, ⟨#[]⟩, ⟨#[]⟩⟩)) w.heap.size ⟨0, 0, ⟨#[]⟩, ⟨#[]⟩⟩ ∧ Below w.heap.size w (w5.setCells w.heap.size 0 (hcs ⟨0, 0, ⟨#[]⟩, ⟨#[]⟩⟩))) := ⟨HW5.out.1.put _, below_setCells (Nat.le_refl _) _ _ _ HW5.out.2.2⟩
      clear HW5
      go_wp2
      exact ret_hd2 6 7 w.heap.size ⟨0, 0, ⟨#[]⟩, ⟨#[]⟩⟩ _ rfl rfl rfl rfl HE.out.1 ⟨rfl, HE.out.2⟩
    · rw [if_pos rfl]
      go_enter Tryd.func14, Tryd.ntmps14
      go_wp2_with fail
      refine (HC.out _ HW1.out.2).mono ?_
      rintro e2 w2 ⟨rfl, hb2⟩
      have HW2 : Hid (BH w2 w.heap.size ⟨0, 0, ⟨#[]⟩, ⟨#[]⟩⟩ ∧ Below w.heap.size w w2) := ⟨HW1.out.1.later hb2, HW1.out.2.trans (hb2.mono HW1.out.2.size)⟩
      clear HC hb2 HW1
      go_wp2_with fail
      refine (HH.out _ HW2.out.2).mono ?_
      rintro e3 w3 ⟨rfl, hb3⟩
      have HW3 : Hid (BH w3 w.heap.size ⟨0, 0, ⟨#[]⟩, ⟨#[]⟩⟩ ∧ Below w.heap.size w w3) := ⟨HW2.out.1.later hb3, HW2.out.2.trans (hb3.mono HW2.out.2.size)⟩
      clear HH hb3 HW2
      have HW4 : Hid (BH (w3.alloc (.cells #[.int .i64 yh, .int .i64 ye, .string yr, .string yp] 33)) w.heap.size ⟨0, 0, ⟨#[]⟩, ⟨#[]⟩⟩ ∧ BH (w3.alloc (.cells #[.int .i64 yh, .int .i64 ye, .string yr, .string yp] 33)) w3.heap.size ⟨yh, ye, yr, yp⟩ ∧ Below w.heap.size w (w3.alloc (.cells #[.int .i64 yh, .int .i64 ye, .string yr, .string yp] 33))) := ⟨HW3.out.1.later ((Below.refl _ _).alloc (Nat.le_refl _) _), BH.new w3 ⟨yh, ye, yr, yp⟩, HW3.out.2.alloc HW3.out.2.size _⟩
      clear HW3
      go_wp2_with fail
      refine (HO.out _).mono ?_
      rintro e5 w5 ⟨rfl, hb5⟩
      have HW5 : Hid (BH w5 w.heap.size ⟨0, 0, ⟨#[]⟩, ⟨#[]⟩⟩ ∧ BH w5 w3.heap.size ⟨yh, ye, yr, yp⟩ ∧ Below w.heap.size w w5) := ⟨HW4.out.1.later hb5, HW4.out.2.1.later hb5, HW4.out.2.2.trans (hb5.mono HW4.out.2.2.size)⟩
      clear HO hb5 HW4
      have z0 := HW5.out.2.1.c0
      have z1 := HW5.out.2.1.c1
      have z2 := HW5.out.2.1.c2
      have z3 := HW5.out.2.1.c3
      simp only at z0 z1 z2 z3
      go_wp2_with fail
      refine (HCC.out trivial _).mono ?_
      rintro e6 w6 ⟨rfl, hb6⟩
      have HW6 : Hid (BH w6 w.heap.size ⟨0, 0, ⟨#[]⟩, ⟨#[]⟩⟩ ∧ BH w6 w3.heap.size ⟨yh, ye, yr, yp⟩ ∧ Below w.heap.size w w6) := ⟨HW5.out.1.later hb6, HW5.out.2.1.later hb6, HW5.out.2.2.trans (hb6.mono HW5.out.2.2.size)⟩
      clear HCC hb6 HW5 z0 z1 z2 z3
      have y0 := HW6.out.1.c0
      have y1 := HW6.out.1.c1
      have y2 := HW6.out.1.c2
      have y3 := HW6.out.1.c3
      simp only at y0 y1 y2 y3
      have f0 := HW6.out.1.fz 0
      have f1 := HW6.out.1.fz 1
      have f2 := HW6.out.1.fz 2
      have f3 := HW6.out.1.fz 3
      have HE : Hid (BH (w6.setCells w.heap.size 0 (hcs ⟨yh, ye, yr, yp⟩)) w.heap.size ⟨yh, ye, yr, yp⟩ ∧ Below w.heap.size w (w6.setCells w.heap.size 0 (hcs ⟨yh, ye, yr, yp⟩))) := ⟨HW6.out.1.put _, below_setCells (Nat.le_refl _) _ _ _ HW6.out.2.2⟩
      clear HW6
      go_wp2
      exact ret_hd2 6 7 w.heap.size ⟨yh, ye, yr, yp⟩ _ rfl rfl rfl rfl HE.out.1 ⟨rfl, HE.out.2⟩

set_option maxRecDepth 100000 in
set_option maxHeartbeats 1000000 in
theorem sNextHead_any (v : Value) (ga oa : Nat) (L : List Hd) (h : Int) (r : ByteArray) (w : World) (hv : RS 4 hcs w v ga oa L) :
    Calls Tryd.prog 28 #[v, .int .i64 h, .string r] w fun e w' => e = .returned (.tuple #[.agg #[.int .i64 (HV.nxA L h r).h, .int .i64 (HV.nxA L h r).e, .string (HV.nxA L h r).r, .string (HV.nxA L h r).p], .bool (HV.nxOk L h r)]) ∧ Below w.heap.size w w' := by
  have HC : Hid (∀ W, Below w.heap.size w W → Calls Tryd.prog 32 #[v, .int .i64 h] W fun e w' => e = .returned (.bool (HV.chB L h)) ∧ Below W.heap.size W w') := fun W hW => sChainOk_any v ga oa L h W (hv.later hW)
  unfold HV.nxA HV.nxOk
  generalize HV.chB L h = b1 at *
  obtain ⟨b2, hb2⟩ : ∃ b2, HV.okH (HV.behind L h r) = b2 := ⟨_, rfl⟩
  rw [hb2]
  have HO : Hid (∀ W, Calls Tryd.prog 22 #[.agg #[.int .i64 (HV.behind L h r).h, .int .i64 (HV.behind L h r).e, .string (HV.behind L h r).r, .string (HV.behind L h r).p]] W fun e w' => e = .returned (.bool b2) ∧ Below W.heap.size W w') := fun W => hb2 ▸ sHeadOk_any _ W
  have HV0 : Hid (RS 4 hcs w v ga oa L) := hv
  obtain ⟨a, cap, rfl, hl, hA, _⟩ := hv
  obtain ⟨n, hn⟩ : ∃ n, L.length = n := ⟨_, rfl⟩
  have HA : Hid (0 < n → a = some ⟨ga, oa, none⟩ ∧ ga < w.heap.size) := by rw [← hn]; exact hA
  rw [hn] at hl HC ⊢
  clear hA hb2
  by_cases h0 : n = 0
  · subst h0
    have hL : L = [] := List.length_eq_zero_iff.1 hn
    subst hL
    clear hn HA HV0
    have e1 : HV.behind [] h r = ⟨h, 1, r, ⟨#[]⟩⟩ := rfl
    rw [e1] at HO ⊢
    clear e1
    simp only at HO ⊢
    have HW1 : Hid (BH ((w.alloc (.cells #[.int .i64 0, .int .i64 0, .string ⟨#[]⟩, .string ⟨#[]⟩] 33)).alloc (.cells #[.int .i64 h, .int .i64 1, .string r, .string ⟨#[]⟩] 33)) w.heap.size ⟨0, 0, ⟨#[]⟩, ⟨#[]⟩⟩ ∧ BH ((w.alloc (.cells #[.int .i64 0, .int .i64 0, .string ⟨#[]⟩, .string ⟨#[]⟩] 33)).alloc (.cells #[.int .i64 h, .int .i64 1, .string r, .string ⟨#[]⟩] 33)) (w.heap.size + 1) ⟨h, 1, r, ⟨#[]⟩⟩ ∧ Below w.heap.size w ((w.alloc (.cells #[.int .i64 0, .int .i64 0, .string ⟨#[]⟩, .string ⟨#[]⟩] 33)).alloc (.cells #[.int .i64 h, .int .i64 1, .string r, .string ⟨#[]⟩] 33))) := ⟨alloc_snd _ _ _ rfl, alloc_fst _ _ (by simp), ((Below.refl _ _).alloc (Nat.le_refl _) _).alloc (by simp) _⟩
    cases b1
    · rw [if_neg (by simp)]
      simp only [Bool.false_and]
      go_enter Tryd.func28, Tryd.ntmps28
      go_wp2_with fail
      refine (HC.out _ HW1.out.2.2).mono ?_
      rintro e2 w2 ⟨rfl, hb2⟩
      have HW2 : Hid (BH w2 w.heap.size ⟨0, 0, ⟨#[]⟩, ⟨#[]⟩⟩ ∧ BH w2 (w.heap.size + 1) ⟨h, 1, r, ⟨#[]⟩⟩ ∧ Below w.heap.size w w2) := ⟨HW1.out.1.later hb2, HW1.out.2.1.later hb2, HW1.out.2.2.trans (hb2.mono HW1.out.2.2.size)⟩
      clear HC hb2 HW1
      have y0 := HW2.out.1.c0
      have y1 := HW2.out.1.c1
      have y2 := HW2.out.1.c2
      have y3 := HW2.out.1.c3
      simp only at y0 y1 y2 y3
      have f0 := HW2.out.1.fz 0
      have f1 := HW2.out.1.fz 1
      have f2 := HW2.out.1.fz 2
      have f3 := HW2.out.1.fz 3
      have HE : Hid (BH (w2.setCells w.heap.size 0 (hcs ⟨0, 0, ⟨#[]⟩, ⟨#[]⟩⟩)) w.heap.size ⟨0, 0, ⟨#[]⟩, ⟨#[]⟩⟩ ∧ Below w.heap.size w (w2.setCells w.heap.size 0 (hcs ⟨0, 0, ⟨#[]⟩, ⟨#[]⟩⟩))) := ⟨HW2.out.1.put _, below_setCells (Nat.le_refl _) _ _ _ HW2.out.2.2⟩
      clear HW2
      go_wp2
      exact ret_hd2 6 7 w.heap.size ⟨0, 0, ⟨#[]⟩, ⟨#[]⟩⟩ _ rfl rfl rfl rfl HE.out.1 ⟨rfl, HE.out.2⟩
    · simp only [Bool.true_and]
      cases b2
      · rw [if_neg (by simp)]
        go_enter Tryd.func28, Tryd.ntmps28
        go_wp2_with fail
        refine (HC.out _ HW1.out.2.2).mono ?_
        rintro e2 w2 ⟨rfl, hb2⟩
        have HW2 : Hid (BH w2 w.heap.size ⟨0, 0, ⟨#[]⟩, ⟨#[]⟩⟩ ∧ BH w2 (w.heap.size + 1) ⟨h, 1, r, ⟨#[]⟩⟩ ∧ Below w.heap.size w w2) := ⟨HW1.out.1.later hb2, HW1.out.2.1.later hb2, HW1.out.2.2.trans (hb2.mono HW1.out.2.2.size)⟩
        clear HC hb2 HW1
        have z0 := HW2.out.2.1.c0
        have z1 := HW2.out.2.1.c1
        have z2 := HW2.out.2.1.c2
        have z3 := HW2.out.2.1.c3
        simp only at z0 z1 z2 z3
        go_wp2_with fail
        refine (HO.out _).mono ?_
        rintro e3 w3 ⟨rfl, hb3⟩
        have HW3 : Hid (BH w3 w.heap.size ⟨0, 0, ⟨#[]⟩, ⟨#[]⟩⟩ ∧ BH w3 (w.heap.size + 1) ⟨h, 1, r, ⟨#[]⟩⟩ ∧ Below w.heap.size w w3) := ⟨HW2.out.1.later hb3, HW2.out.2.1.later hb3, HW2.out.2.2.trans (hb3.mono HW2.out.2.2.size)⟩
        clear HO hb3 HW2 z0 z1 z2 z3
        have y0 := HW3.out.1.c0
        have y1 := HW3.out.1.c1
        have y2 := HW3.out.1.c2
        have y3 := HW3.out.1.c3
        simp only at y0 y1 y2 y3
        have f0 := HW3.out.1.fz 0
        have f1 := HW3.out.1.fz 1
        have f2 := HW3.out.1.fz 2
        have f3 := HW3.out.1.fz 3
        have HE : Hid (BH (w3.setCells w.heap.size 0 (hcs ⟨0, 0, ⟨#[]⟩, ⟨#[]⟩⟩)) w.heap.size ⟨0, 0, ⟨#[]⟩, ⟨#[]⟩⟩ ∧ Below w.heap.size w (w3.setCells w.heap.size 0 (hcs ⟨0, 0, ⟨#[]⟩, ⟨#[]⟩⟩))) := ⟨HW3.out.1.put _, below_setCells (Nat.le_refl _) _ _ _ HW3.out.2.2⟩
        clear HW3
        go_wp2
        exact ret_hd2 6 7 w.heap.size ⟨0, 0, ⟨#[]⟩, ⟨#[]⟩⟩ _ rfl rfl rfl rfl HE.out.1 ⟨rfl, HE.out.2⟩
      · rw [if_pos rfl]
        go_enter Tryd.func28, Tryd.ntmps28
        go_wp2_with fail
        refine (HC.out _ HW1.out.2.2).mono ?_
        rintro e2 w2 ⟨rfl, hb2⟩
        have HW2 : Hid (BH w2 w.heap.size ⟨0, 0, ⟨#[]⟩, ⟨#[]⟩⟩ ∧ BH w2 (w.heap.size + 1) ⟨h, 1, r, ⟨#[]⟩⟩ ∧ Below w.heap.size w w2) := ⟨HW1.out.1.later hb2, HW1.out.2.1.later hb2, HW1.out.2.2.trans (hb2.mono HW1.out.2.2.size)⟩
        clear HC hb2 HW1
        have z0 := HW2.out.2.1.c0
        have z1 := HW2.out.2.1.c1
        have z2 := HW2.out.2.1.c2
        have z3 := HW2.out.2.1.c3
        simp only at z0 z1 z2 z3
        go_wp2_with fail
        refine (HO.out _).mono ?_
        rintro e3 w3 ⟨rfl, hb3⟩
        have HW3 : Hid (BH w3 w.heap.size ⟨0, 0, ⟨#[]⟩, ⟨#[]⟩⟩ ∧ BH w3 (w.heap.size + 1) ⟨h, 1, r, ⟨#[]⟩⟩ ∧ Below w.heap.size w w3) := ⟨HW2.out.1.later hb3, HW2.out.2.1.later hb3, HW2.out.2.2.trans (hb3.mono HW2.out.2.2.size)⟩
        clear HO hb3 HW2 z0 z1 z2 z3
        have z0 := HW3.out.2.1.c0
        have z1 := HW3.out.2.1.c1
        have z2 := HW3.out.2.1.c2
        have z3 := HW3.out.2.1.c3
        simp only at z0 z1 z2 z3
        have y0 := HW3.out.1.c0
        have y1 := HW3.out.1.c1
        have y2 := HW3.out.1.c2
        have y3 := HW3.out.1.c3
        simp only at y0 y1 y2 y3
        have f0 := HW3.out.1.fz 0
        have f1 := HW3.out.1.fz 1
        have f2 := HW3.out.1.fz 2
        have f3 := HW3.out.1.fz 3
        have HE : Hid (BH (w3.setCells w.heap.size 0 (hcs ⟨h, 1, r, ⟨#[]⟩⟩)) w.heap.size ⟨h, 1, r, ⟨#[]⟩⟩ ∧ Below w.heap.size w (w3.setCells w.heap.size 0 (hcs ⟨h, 1, r, ⟨#[]⟩⟩))) := ⟨HW3.out.1.put _, below_setCells (Nat.le_refl _) _ _ _ HW3.out.2.2⟩
        clear HW3
        go_wp2
        exact ret_hd2 6 7 w.heap.size ⟨h, 1, r, ⟨#[]⟩⟩ _ rfl rfl rfl rfl HE.out.1 ⟨rfl, HE.out.2⟩
  · obtain ⟨m, rfl⟩ : ∃ m, n = m + 1 := ⟨n - 1, by omega⟩
    have HL : Hid (HV.behind L h r = ⟨h, (m : Int) + 1 + 1, r, HV.hashH (L[m]'(by omega))⟩) := by
      show HV.behind L h r = _
      unfold HV.behind
      rw [HV.lastP_at hn, show ((L.length : Nat) : Int) = (m : Int) + 1 by omega]
    rw [HL.out] at HO ⊢
    simp only at HO ⊢
    obtain ⟨ea, hga⟩ := HA.out (by omega)
    subst ea
    have HS : Hid (∀ W, Calls Tryd.prog 16 #[.agg #[.int .i64 (L[m]'(by omega)).h, .int .i64 (L[m]'(by omega)).e, .string (L[m]'(by omega)).r, .string (L[m]'(by omega)).p]] W fun e w' => e = .returned (.string (HV.hashH (L[m]'(by omega)))) ∧ Below W.heap.size W w') := fun W => sHeadHash_any _ W
    have HW0 : Hid (BH ((w.alloc (.cells #[.int .i64 0, .int .i64 0, .string ⟨#[]⟩, .string ⟨#[]⟩] 33)).alloc (.cells #[.int .i64 h, .int .i64 ((m : Int) + 1 + 1), .string r, .string ⟨#[]⟩] 33)) w.heap.size ⟨0, 0, ⟨#[]⟩, ⟨#[]⟩⟩ ∧ BH ((w.alloc (.cells #[.int .i64 0, .int .i64 0, .string ⟨#[]⟩, .string ⟨#[]⟩] 33)).alloc (.cells #[.int .i64 h, .int .i64 ((m : Int) + 1 + 1), .string r, .string ⟨#[]⟩] 33)) (w.heap.size + 1) ⟨h, (m : Int) + 1 + 1, r, ⟨#[]⟩⟩ ∧ Below w.heap.size w ((w.alloc (.cells #[.int .i64 0, .int .i64 0, .string ⟨#[]⟩, .string ⟨#[]⟩] 33)).alloc (.cells #[.int .i64 h, .int .i64 ((m : Int) + 1 + 1), .string r, .string ⟨#[]⟩] 33))) := ⟨alloc_snd _ _ _ rfl, alloc_fst _ _ (by simp), ((Below.refl _ _).alloc (Nat.le_refl _) _).alloc (by simp) _⟩
    obtain ⟨c0, c1, c2, c3⟩ := (HV0.out.later HW0.out.2.2).head m (by omega)
    generalize HV.hashH (L[m]'(by omega)) = P at *
    generalize (L[m]'(by omega)) = X at *
    clear HL HV0 HA
    cases b1
    · rw [if_neg (by simp)]
      simp only [Bool.false_and]
      go_enter Tryd.func28, Tryd.ntmps28
      go_wp2_with fail
      refine (HS.out _).mono ?_
      rintro e1 w1 ⟨rfl, hb1⟩
      have HWA : Hid (BH w1 w.heap.size ⟨0, 0, ⟨#[]⟩, ⟨#[]⟩⟩ ∧ BH w1 (w.heap.size + 1) ⟨h, (m : Int) + 1 + 1, r, ⟨#[]⟩⟩ ∧ Below w.heap.size w w1) := ⟨HW0.out.1.later hb1, HW0.out.2.1.later hb1, HW0.out.2.2.trans (hb1.mono HW0.out.2.2.size)⟩
      have t3 := HWA.out.2.1.c3
      have g3 := HWA.out.2.1.fz 3
      simp only at t3
      have HW1 : Hid (BH (w1.setCell ⟨w.heap.size + 1, 3, none⟩ (.string P)) w.heap.size ⟨0, 0, ⟨#[]⟩, ⟨#[]⟩⟩ ∧ BH (w1.setCell ⟨w.heap.size + 1, 3, none⟩ (.string P)) (w.heap.size + 1) ⟨h, (m : Int) + 1 + 1, r, P⟩ ∧ Below w.heap.size w (w1.setCell ⟨w.heap.size + 1, 3, none⟩ (.string P))) := ⟨HWA.out.1.grown (grown_setC _ _ _ _) (by simp), HWA.out.2.1.set3 P, HWA.out.2.2.setCell (p := ⟨w.heap.size + 1, 3, none⟩) (by simp) _⟩
      clear HS hb1 HW0 HWA c0 c1 c2 c3
      go_wp2_with fail
      refine (HC.out _ HW1.out.2.2).mono ?_
      rintro e2 w2 ⟨rfl, hb2⟩
      have HW2 : Hid (BH w2 w.heap.size ⟨0, 0, ⟨#[]⟩, ⟨#[]⟩⟩ ∧ BH w2 (w.heap.size + 1) ⟨h, (m : Int) + 1 + 1, r, P⟩ ∧ Below w.heap.size w w2) := ⟨HW1.out.1.later hb2, HW1.out.2.1.later hb2, HW1.out.2.2.trans (hb2.mono HW1.out.2.2.size)⟩
      clear HC hb2 HW1
      have y0 := HW2.out.1.c0
      have y1 := HW2.out.1.c1
      have y2 := HW2.out.1.c2
      have y3 := HW2.out.1.c3
      simp only at y0 y1 y2 y3
      have f0 := HW2.out.1.fz 0
      have f1 := HW2.out.1.fz 1
      have f2 := HW2.out.1.fz 2
      have f3 := HW2.out.1.fz 3
      have HE : Hid (BH (w2.setCells w.heap.size 0 (hcs ⟨0, 0, ⟨#[]⟩, ⟨#[]⟩⟩)) w.heap.size ⟨0, 0, ⟨#[]⟩, ⟨#[]⟩⟩ ∧ Below w.heap.size w (w2.setCells w.heap.size 0 (hcs ⟨0, 0, ⟨#[]⟩, ⟨#[]⟩⟩))) := ⟨HW2.out.1.put _, below_setCells (Nat.le_refl _) _ _ _ HW2.out.2.2⟩
      clear HW2
      go_wp2
      exact ret_hd2 6 7 w.heap.size ⟨0, 0, ⟨#[]⟩, ⟨#[]⟩⟩ _ rfl rfl rfl rfl HE.out.1 ⟨rfl, HE.out.2⟩
    · simp only [Bool.true_and]
      cases b2
      · rw [if_neg (by simp)]
        go_enter Tryd.func28, Tryd.ntmps28
        go_wp2_with fail
        refine (HS.out _).mono ?_
        rintro e1 w1 ⟨rfl, hb1⟩
        have HWA : Hid (BH w1 w.heap.size ⟨0, 0, ⟨#[]⟩, ⟨#[]⟩⟩ ∧ BH w1 (w.heap.size + 1) ⟨h, (m : Int) + 1 + 1, r, ⟨#[]⟩⟩ ∧ Below w.heap.size w w1) := ⟨HW0.out.1.later hb1, HW0.out.2.1.later hb1, HW0.out.2.2.trans (hb1.mono HW0.out.2.2.size)⟩
        have t3 := HWA.out.2.1.c3
        have g3 := HWA.out.2.1.fz 3
        simp only at t3
        have HW1 : Hid (BH (w1.setCell ⟨w.heap.size + 1, 3, none⟩ (.string P)) w.heap.size ⟨0, 0, ⟨#[]⟩, ⟨#[]⟩⟩ ∧ BH (w1.setCell ⟨w.heap.size + 1, 3, none⟩ (.string P)) (w.heap.size + 1) ⟨h, (m : Int) + 1 + 1, r, P⟩ ∧ Below w.heap.size w (w1.setCell ⟨w.heap.size + 1, 3, none⟩ (.string P))) := ⟨HWA.out.1.grown (grown_setC _ _ _ _) (by simp), HWA.out.2.1.set3 P, HWA.out.2.2.setCell (p := ⟨w.heap.size + 1, 3, none⟩) (by simp) _⟩
        clear HS hb1 HW0 HWA c0 c1 c2 c3
        go_wp2_with fail
        refine (HC.out _ HW1.out.2.2).mono ?_
        rintro e2 w2 ⟨rfl, hb2⟩
        have HW2 : Hid (BH w2 w.heap.size ⟨0, 0, ⟨#[]⟩, ⟨#[]⟩⟩ ∧ BH w2 (w.heap.size + 1) ⟨h, (m : Int) + 1 + 1, r, P⟩ ∧ Below w.heap.size w w2) := ⟨HW1.out.1.later hb2, HW1.out.2.1.later hb2, HW1.out.2.2.trans (hb2.mono HW1.out.2.2.size)⟩
        clear HC hb2 HW1
        have z0 := HW2.out.2.1.c0
        have z1 := HW2.out.2.1.c1
        have z2 := HW2.out.2.1.c2
        have z3 := HW2.out.2.1.c3
        simp only at z0 z1 z2 z3
        go_wp2_with fail
        refine (HO.out _).mono ?_
        rintro e3 w3 ⟨rfl, hb3⟩
        have HW3 : Hid (BH w3 w.heap.size ⟨0, 0, ⟨#[]⟩, ⟨#[]⟩⟩ ∧ BH w3 (w.heap.size + 1) ⟨h, (m : Int) + 1 + 1, r, P⟩ ∧ Below w.heap.size w w3) := ⟨HW2.out.1.later hb3, HW2.out.2.1.later hb3, HW2.out.2.2.trans (hb3.mono HW2.out.2.2.size)⟩
        clear HO hb3 HW2 z0 z1 z2 z3
        have y0 := HW3.out.1.c0
        have y1 := HW3.out.1.c1
        have y2 := HW3.out.1.c2
        have y3 := HW3.out.1.c3
        simp only at y0 y1 y2 y3
        have f0 := HW3.out.1.fz 0
        have f1 := HW3.out.1.fz 1
        have f2 := HW3.out.1.fz 2
        have f3 := HW3.out.1.fz 3
        have HE : Hid (BH (w3.setCells w.heap.size 0 (hcs ⟨0, 0, ⟨#[]⟩, ⟨#[]⟩⟩)) w.heap.size ⟨0, 0, ⟨#[]⟩, ⟨#[]⟩⟩ ∧ Below w.heap.size w (w3.setCells w.heap.size 0 (hcs ⟨0, 0, ⟨#[]⟩, ⟨#[]⟩⟩))) := ⟨HW3.out.1.put _, below_setCells (Nat.le_refl _) _ _ _ HW3.out.2.2⟩
        clear HW3
        go_wp2
        exact ret_hd2 6 7 w.heap.size ⟨0, 0, ⟨#[]⟩, ⟨#[]⟩⟩ _ rfl rfl rfl rfl HE.out.1 ⟨rfl, HE.out.2⟩
      · rw [if_pos rfl]
        go_enter Tryd.func28, Tryd.ntmps28
        go_wp2_with fail
        refine (HS.out _).mono ?_
        rintro e1 w1 ⟨rfl, hb1⟩
        have HWA : Hid (BH w1 w.heap.size ⟨0, 0, ⟨#[]⟩, ⟨#[]⟩⟩ ∧ BH w1 (w.heap.size + 1) ⟨h, (m : Int) + 1 + 1, r, ⟨#[]⟩⟩ ∧ Below w.heap.size w w1) := ⟨HW0.out.1.later hb1, HW0.out.2.1.later hb1, HW0.out.2.2.trans (hb1.mono HW0.out.2.2.size)⟩
        have t3 := HWA.out.2.1.c3
        have g3 := HWA.out.2.1.fz 3
        simp only at t3
        have HW1 : Hid (BH (w1.setCell ⟨w.heap.size + 1, 3, none⟩ (.string P)) w.heap.size ⟨0, 0, ⟨#[]⟩, ⟨#[]⟩⟩ ∧ BH (w1.setCell ⟨w.heap.size + 1, 3, none⟩ (.string P)) (w.heap.size + 1) ⟨h, (m : Int) + 1 + 1, r, P⟩ ∧ Below w.heap.size w (w1.setCell ⟨w.heap.size + 1, 3, none⟩ (.string P))) := ⟨HWA.out.1.grown (grown_setC _ _ _ _) (by simp), HWA.out.2.1.set3 P, HWA.out.2.2.setCell (p := ⟨w.heap.size + 1, 3, none⟩) (by simp) _⟩
        clear HS hb1 HW0 HWA c0 c1 c2 c3
        go_wp2_with fail
        refine (HC.out _ HW1.out.2.2).mono ?_
        rintro e2 w2 ⟨rfl, hb2⟩
        have HW2 : Hid (BH w2 w.heap.size ⟨0, 0, ⟨#[]⟩, ⟨#[]⟩⟩ ∧ BH w2 (w.heap.size + 1) ⟨h, (m : Int) + 1 + 1, r, P⟩ ∧ Below w.heap.size w w2) := ⟨HW1.out.1.later hb2, HW1.out.2.1.later hb2, HW1.out.2.2.trans (hb2.mono HW1.out.2.2.size)⟩
        clear HC hb2 HW1
        have z0 := HW2.out.2.1.c0
        have z1 := HW2.out.2.1.c1
        have z2 := HW2.out.2.1.c2
        have z3 := HW2.out.2.1.c3
        simp only at z0 z1 z2 z3
        go_wp2_with fail
        refine (HO.out _).mono ?_
        rintro e3 w3 ⟨rfl, hb3⟩
        have HW3 : Hid (BH w3 w.heap.size ⟨0, 0, ⟨#[]⟩, ⟨#[]⟩⟩ ∧ BH w3 (w.heap.size + 1) ⟨h, (m : Int) + 1 + 1, r, P⟩ ∧ Below w.heap.size w w3) := ⟨HW2.out.1.later hb3, HW2.out.2.1.later hb3, HW2.out.2.2.trans (hb3.mono HW2.out.2.2.size)⟩
        clear HO hb3 HW2 z0 z1 z2 z3
        have z0 := HW3.out.2.1.c0
        have z1 := HW3.out.2.1.c1
        have z2 := HW3.out.2.1.c2
        have z3 := HW3.out.2.1.c3
        simp only at z0 z1 z2 z3
        have y0 := HW3.out.1.c0
        have y1 := HW3.out.1.c1
        have y2 := HW3.out.1.c2
        have y3 := HW3.out.1.c3
        simp only at y0 y1 y2 y3
        have f0 := HW3.out.1.fz 0
        have f1 := HW3.out.1.fz 1
        have f2 := HW3.out.1.fz 2
        have f3 := HW3.out.1.fz 3
        have HE : Hid (BH (w3.setCells w.heap.size 0 (hcs ⟨h, (m : Int) + 1 + 1, r, P⟩)) w.heap.size ⟨h, (m : Int) + 1 + 1, r, P⟩ ∧ Below w.heap.size w (w3.setCells w.heap.size 0 (hcs ⟨h, (m : Int) + 1 + 1, r, P⟩))) := ⟨HW3.out.1.put _, below_setCells (Nat.le_refl _) _ _ _ HW3.out.2.2⟩
        clear HW3
        go_wp2
        exact ret_hd2 6 7 w.heap.size ⟨h, (m : Int) + 1 + 1, r, P⟩ _ rfl rfl rfl rfl HE.out.1 ⟨rfl, HE.out.2⟩

end Go.Proofs.YtlpbfafcaleifaaDoor
