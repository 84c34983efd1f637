/-
  Texts laid together: Places, Rdt, Hn.
-/
import Derived.Test.YtaejeemjndmjcaaDoorPkS1
import Derived.Deep.AppendLies
import Derived.Test.YtaejeemjndmjcaaDoorPkS9
import Derived.Test.YtaejeemjndmjcaaDoorPkS4
import Derived.Test.YtaejeemjndmjcaaDoorPkS41
import Derived.Test.YtaejeemjndmjcaaDoorPkS43
/-
  What DrawPlaces and DrawSumOf draw: twelve numbers below 10000; a text of less than forty bytes.
-/
namespace Go.Proofs.YtaejeemjndmjcaaDoor
open Go.RowKit
set_option linter.unusedVariables false

def iv (l : List Nat) : List Value := l.map (fun n : Nat => Value.int .i64 (n : Int))
theorem iv_append (l r : List Nat) : iv (l ++ r) = iv l ++ iv r := by simp [iv]

theorem own_neI {B Bw : Nat} {w0 w : World} {g n : Nat} {v u : Value} {xs : List Value} (hc : Cur B w0 w g v) (ho : w.ownsRow Bw 3 1 u n xs) : some g ≠ u.ownBlock := by
  intro he
  obtain ⟨_, _, _, i, x, hb, _⟩ := hc
  rcases ho.2 with ⟨rfl, _⟩ | ⟨g', cap, cur, rfl, _, hg, _⟩
  · simp [Value.ownBlock] at he
  · simp [Value.ownBlock] at he
    subst he
    rw [hb] at hg
    simp at hg

theorem wp_appJ {w : World} {ops : Array Oper} {rest : List Oper} {o : Oper} {a : Act} {Q : Exit → Act → World → Prop} (hgd : o.guard = none) (s x : Operand)
    (ho : o.op = .call { callee := .builtin .append, args := #[s, x], argTypes := #[33, 33] })
    (B : Nat) (v : Value) (l : List Nat) (hs : a.eval s = v) (hown : w.ownsRow B 3 1 v l.length (iv l)) (hsz : B ≤ w.heap.size)
    (ad : Addr) (n : Nat) (hx : a.eval x = .slice (some ad) 1 1) (hnews : w.cell? ad = some (.int .i64 (n : Int))) (hlen : l.length ≤ 1000000)
    (h : ∀ v' w', w'.ownsRow B 3 1 v' (l ++ [n]).length (iv (l ++ [n])) → w.grownBy w' v.ownBlock → wpList Tryd.prog ops Q rest (a.put o.dst v') w') : wpList Tryd.prog ops Q (o :: rest) a w := by
  obtain ⟨i0, hi, hz0, hz1, hz2⟩ := info_parts Tryd.info3
  refine wpList_append_own _ hgd s x 33 ho B 3 i0 (.int .i64 0) 1 8 Tryd.underlying33 hi hz0 hz1 hz2 rfl (by decide) v l.length (iv l) hs hown ad 1 1 (iv [n]) hx (by simp [iv]) ?_
    (fun u hu => by simp [iv] at hu; subst hu; rfl) (by unfold maxLen; omega) (by omega) hsz ?_
  · intro j u hj
    match j, hj with
    | 0, hj =>
      simp [iv] at hj
      subst hj
      have : ad.add 0 = ad := by unfold Addr.add; split <;> simp_all
      rw [this]
      exact hnews
  · intro v' w' h1 h2 _
    exact h v' w' (by rw [List.length_append, iv_append]; exact h1) h2

theorem one_int (w : World) (y : Nat) (t : TypeId) : (w.alloc (.cells #[.int .i64 (y : Int)] t)).cell? ⟨w.heap.size, 0, none⟩ = some (.int .i64 (y : Int)) := by simp

def PlRel (w : World) (g : Nat) (v u i : Value) (wr : World) : Prop :=
  ∃ (k : Nat) (l : List Nat), k ≤ 12 ∧ i = .int .i64 k ∧ l.length = k ∧ (∀ x ∈ l, x < 10000) ∧ wr.ownsRow w.heap.size 3 1 u l.length (iv l) ∧ Cur w.heap.size w wr g v

/-- what DrawPlaces gives: a row of twelve numbers -/
def Places (w w' : World) (v : Value) : Prop :=
  ∃ (g cap : Nat) (xs : List Nat), v = .slice (some ⟨g, 0, none⟩) 12 cap ∧ xs.length = 12 ∧ (∀ x ∈ xs, x < 10000) ∧ w.heap.size ≤ g ∧ g < w'.heap.size ∧ ∀ j, (h : j < xs.length) → w'.cell? ⟨g, j, none⟩ = some (.int .i64 (xs[j] : Int))

set_option maxRecDepth 100000 in
set_option maxHeartbeats 1000000 in
theorem DrawPlaces_any (w : World) (v : Value) (hc : Code w.heap.size w v) :
    Calls Tryd.prog 7 #[v] w fun e w' => ∃ u, e = .returned u ∧ Places w w' u ∧ Below w.heap.size w w' := by
  have HC : Hid (Code w.heap.size w v) := hc
  clear hc
  go_enter Tryd.func7, Tryd.ntmps7
  go_wp2_with fail
  refine (l01New_in w v HC.out).mono ?_
  rintro e w1 ⟨g, rfl, hc1, hb1⟩
  go_wp2_with fail
  refine (l01Byte_in w.heap.size w _ g v hc1).mono ?_
  rintro e w2 ⟨x, hx, rfl, hc2, hg2⟩
  go_wp2
  go_loopw [4, 5] (fun u i wr => PlRel w g v u i wr) (fun _ i _ => 12 - (intOf i).toNat)
  case atStart =>
    have hB := hc2.size
    refine ⟨0, [], by omega, rfl, rfl, by simp, World.ownsRow_made w2 #[] 0 hB (by decide) (by simp), ?_⟩
    exact hc2.kept (World.grownBy_alloc w2 _ none) (by simp) hc2.size (fun k hk => by cases hk)
  case round =>
    obtain ⟨k, l, hk, rfl, hll, hall, hrow, hcr⟩ := hrel
    by_cases hlt : k < 12
    · go_wp2_with fail
      refine (l01Below_in w.heap.size w _ g v 10000 10000 rfl hcr (by omega) (by omega)).mono ?_
      rintro e w3 ⟨y, hy, rfl, hc3, hg3⟩
      have hrow3 : w3.ownsRow w.heap.size 3 1 u4 l.length (iv l) := World.ownsRow.kept hrow hg3 (.inr (own_neI hcr hrow).symm)
      have hB := hc3.size
      go_wp2_with (at_builtin; refine wp_appJ rfl _ _ rfl w.heap.size _ l rfl (World.ownsRow.alloc hrow3 _) ?c0 ⟨w3.heap.size, 0, none⟩ y rfl ?c1 ?c2 ?_)
      case c0 => simp; omega
      case c1 => exact one_int _ _ _
      case c2 => omega
      intro v' w4 hrow4 hg4
      have hne := own_neI hc3 hrow3
      have hge : ∀ j, u4.ownBlock = some j → w.heap.size ≤ j := fun j hj => (World.ownsRow.lt hrow3 j hj).1
      have hca : Cur w.heap.size w (w3.alloc (.cells #[.int .i64 (y : Int)] 3)) g v := hc3.kept (World.grownBy_alloc w3 _ none) (by simp) hc3.size (fun k hk => by cases hk)
      have hc4 : Cur w.heap.size w w4 g v := hca.kept hg4 hne hca.size hge
      have hall4 : ∀ x ∈ l ++ [y], x < 10000 := by
        intro x hx
        rcases List.mem_append.1 hx with h | h
        · exact hall x h
        · simp at h; omega
      have HR4 : Hid (w4.ownsRow w.heap.size 3 1 v' (l ++ [y]).length (iv (l ++ [y]))) := by
        show w4.ownsRow w.heap.size 3 1 v' (l ++ [y]).length (iv (l ++ [y]))
        have e : (l ++ [y]).length = k + 1 := by simp; omega
        rw [e]
        exact hrow4
      have HA4 : Hid (∀ x ∈ l ++ [y], x < 10000) := hall4
      clear hca hne hge hg4 hrow3 hrow4 hc3 hg3 hall hall4
      go_wp2
      go_roundw
      case rel => exact ⟨k + 1, l ++ [y], by omega, by go_num, by simp; omega, HA4.out, HR4.out, hc4⟩
      case measure => simp [intOf] <;> omega
    · have hke : k = 12 := by omega
      subst hke
      rw [hll] at hrow
      obtain ⟨gr, cap, rfl, hlt2⟩ := World.ownsRow.form hrow (by omega)
      have HP : Hid (Places w wr (.slice (some ⟨gr, 0, none⟩) 12 cap)) := by
        refine ⟨gr, cap, l, rfl, hll, hall, hlt2.1, hlt2.2, ?_⟩
        intro j hj
        rw [hrow.cellAt j (by omega)]
        simp [iv, List.getElem?_eq_getElem hj]
      have hbel := hcr.2.1
      clear hrow hall hlt2 hcr
      go_wp2
      go_ret
      exact ⟨_, rfl, HP.out, hbel⟩

end Go.Proofs.YtaejeemjndmjcaaDoor
/-
  Drawn roots.
-/
namespace Go.Proofs.YtaejeemjndmjcaaDoor
open Go.RowKit Go.BigFrame Go.Sort
set_option linter.unusedVariables false
set_option linter.unusedSimpArgs false

theorem grown_belowR {w w' : World} {row : Option Nat} (h : Below w.heap.size w w') : w.grownBy w' row := ⟨h.os, h.tape, h.output, h.size, fun k hk _ => h.block k hk⟩
theorem cutB_size (t : ByteArray) (k : Nat) (h : k ≤ 32) : (cutB (digB t) k).size = k := by
  unfold cutB
  rw [ByteArray.size_extract, digB_size]
  omega

theorem l13Root_in (B : Nat) (w0 w : World) (g : Nat) (v : Value) (hc : Cur B w0 w g v) :
    Calls Tryd.prog 59 #[.pointer (some ⟨g, 0, none⟩)] w fun e w' => ∃ r : ByteArray, r.size = 16 ∧ e = .returned (.string r) ∧ Cur B w0 w' g v ∧ w.grownBy w' (some g) := by
  go_enter Tryd.func59, Tryd.ntmps59
  go_wp2_with fail
  refine (l01Text_in B w0 _ g v 2 2 rfl hc (by omega)).mono ?_
  rintro e w1 ⟨l, hl, rfl, hc1, hg1⟩
  have hlz : (⟨l.toArray⟩ : ByteArray).size = 2 := by show l.toArray.size = 2; simpa using hl
  generalize (⟨l.toArray⟩ : ByteArray) = T at *
  have hC := sCutDigest_yes T 16 w1 (by omega) (by omega) (by omega)
  have hz := cutB_size T 16 (by omega)
  generalize cutB (digB T) 16 = R at *
  go_wp2_with fail
  refine hC.mono ?_
  rintro e w2 ⟨rfl, hb2⟩
  have HF : Hid (Cur B w0 w2 g v ∧ w.grownBy w2 (some g)) := ⟨hc1.kept (grown_belowR (row := none) hb2) (by simp) hc1.size (fun k hk => by cases hk), hg1.trans (grown_belowR hb2)⟩
  clear hC hc1 hg1 hb2
  go_wp2
  go_ret
  exact ⟨R, hz, rfl, HF.out.1, HF.out.2⟩

end Go.Proofs.YtaejeemjndmjcaaDoor
/-
  Drawn chains of heads.
-/
namespace Go.Proofs.YtaejeemjndmjcaaDoor
open Go.RowKit Go.BigFrame Go.Sort
set_option linter.unusedVariables false
set_option linter.unusedSimpArgs false

namespace HV
theorem ChOk.at {L : List Hd} {h : Int} (hc : ChOk L h) (i : Nat) (hi : i < L.length) : okH L[i] = true ∧ L[i].h = h ∧ L[i].e = (i : Int) + 1 ∧ L[i].p = lastP (L.take i) := by
  obtain ⟨h1, h2⟩ := hc i hi hi
  have := behind_iff.1 h2
  rw [List.length_take, Nat.min_eq_left (by omega)] at this
  exact ⟨h1, this⟩
theorem ChOk.len {L : List Hd} {h : Int} (hc : ChOk L h) : L.length ≤ 4 := by
  rcases Nat.lt_or_ge 4 L.length with h1 | h1
  · have h2 := hc.at 4 h1
    have := (okH_iff.1 h2.1).2.1.2
    rw [h2.2.2.1] at this
    omega
  · exact h1
theorem ChOk.nil (h : Int) : ChOk [] h := fun i hi _ => absurd hi (by simp)
theorem ChOk.add {L : List Hd} {h : Int} {r : ByteArray} (hc : ChOk L h) (hk : okH (behind L h r) = true) : ChOk (L ++ [behind L h r]) h := by
  intro i hi _
  rw [List.length_append] at hi
  have hi' : i < L.length + 1 := by simpa using hi
  rcases Nat.lt_or_ge i L.length with h1 | h1
  · rw [List.getElem_append_left h1, List.take_append_of_le_length (by omega)]
    exact hc i h1 h1
  · have : i = L.length := by omega
    subst this
    rw [List.getElem_append_right (Nat.le_refl _)]
    simp only [Nat.sub_self, List.getElem_cons_zero]
    rw [List.take_left']
    · exact ⟨hk, rfl⟩
    · rfl
end HV

def HnR (B : Nat) (w0 w : World) (g : Nat) (v : Value) (hs : Int) (u i : Value) (wr : World) : Prop := ∃ (m : Nat) (L : List Hd), m ≤ 5 ∧ i = .int .i64 m ∧ Hid (HnI B w0 w g v u L wr ∧ HV.ChOk L hs)
/-- what l13Chain answers -/
def HnP (B : Nat) (w0 w : World) (g : Nat) (v : Value) (e : Ending) (w' : World) : Prop := ∃ (u : Value) (L : List Hd) (hs : Int), e = .returned (.tuple #[u, .int .i64 hs]) ∧ (0 ≤ hs ∧ hs < 3) ∧ HV.ChOk L hs ∧ HnI B w0 w g v u L w'

set_option maxRecDepth 100000 in
set_option maxHeartbeats 2000000 in
theorem l13Chain_in (B : Nat) (w0 w : World) (g : Nat) (v : Value) (hc : Cur B w0 w g v) :
    Calls Tryd.prog 105 #[.pointer (some ⟨g, 0, none⟩)] w (HnP B w0 w g v) := by
  have hB := hc.size
  have hgl := hc.lt
  go_enter Tryd.func105, Tryd.ntmps105
  go_wp2_with fail
  refine (l01Below_in B w0 _ g v 3 3 rfl hc (by omega) (by omega)).mono ?_
  rintro e w1 ⟨hs, hhs, rfl, hc1, hg1⟩
  clear hc
  have HST : Hid (HnR B w0 w g v (hs : Int) (.slice (some ⟨w1.heap.size, 0, none⟩) 0 0) (.int .i64 0) (w1.alloc (.cells #[] 25))) :=
    ⟨0, [], by omega, rfl, ⟨hc1.kept (World.grownBy_alloc w1 _ none) (by simp) hc1.size (fun k hk => by cases hk), (OH.made w.heap.size w1 w1 (Below.refl _ _) hg1.size).self, hg1.trans (World.grownBy_alloc w1 _ (some g))⟩, HV.ChOk.nil _⟩
  clear hc1 hg1
  go_wp2
  go_loopw [5, 6] (fun u i wr => HnR B w0 w g v (hs : Int) u i wr) (fun _ i _ => 6 - (intOf i).toNat)
  case atStart => exact HST.out
  case round =>
    obtain ⟨m, L, hm, rfl, HI⟩ := hrel
    clear HST
    obtain ⟨au, cu, rfl⟩ := HI.out.1.2.1.shape
    go_wp2_with fail
    refine (l01Below_in B w0 _ g v 5 5 rfl HI.out.1.1 (by omega) (by omega)).mono ?_
    rintro e w1 ⟨j, hj, rfl, hc1, hg1⟩
    have HI1 : Hid (HnI B w0 w g v (.slice au L.length cu) L w1 ∧ HV.ChOk L (hs : Int)) := ⟨HI.out.1.drawn hc1 hg1, HI.out.2⟩
    clear hc1 hg1 HI
    by_cases hlt : m < j
    · have i1 : (m : Int) < (j : Int) := by omega
      go_wp2_with fail
      refine (l13Root_in B w0 _ g v HI1.out.1.1).mono ?_
      rintro e w2 ⟨r, hr, rfl, hc2, hg2⟩
      have HI2 : Hid (HnI B w0 w g v (.slice au L.length cu) L w2 ∧ HV.ChOk L (hs : Int)) := ⟨HI1.out.1.drawn hc2 hg2, HI1.out.2⟩
      clear hc2 hg2 HI1
      have hl4 := HI2.out.2.len
      obtain ⟨q, hrw, _, _⟩ := HI2.out.1.2.1.rw (by omega)
      have hN := sNextHead_any _ q 0 L (hs : Int) r w2 hrw.1
      have HNX : Hid (HV.nxOk L (hs : Int) r = true → HV.nxA L (hs : Int) r = HV.behind L (hs : Int) r ∧ HV.okH (HV.behind L (hs : Int) r) = true) := fun h => by
        have h' := h
        unfold HV.nxOk at h'
        exact ⟨by unfold HV.nxA; rw [if_pos h], (Bool.and_eq_true _ _ ▸ h').2⟩
      have HAD : Hid (HV.nxOk L (hs : Int) r = true → HV.ChOk (L ++ [HV.nxA L (hs : Int) r]) (hs : Int)) := fun h => by
        obtain ⟨h1, h2⟩ := HNX.out h
        rw [h1]
        exact HI2.out.2.add h2
      clear HNX hrw
      generalize HV.nxA L (hs : Int) r = X at *
      generalize HV.nxOk L (hs : Int) r = R at *
      go_wp2_with fail
      refine hN.mono ?_
      rintro e w3 ⟨rfl, hb3⟩
      have HI3 : Hid (HnI B w0 w g v (.slice au L.length cu) L (w3.alloc (.cells #[.int .i64 X.h, .int .i64 X.e, .string X.r, .string X.p] 25)) ∧ HV.ChOk L (hs : Int) ∧ RB (w3.alloc (.cells #[.int .i64 X.h, .int .i64 X.e, .string X.r, .string X.p] 25)) w3.heap.size X) := ⟨(HI2.out.1.below hb3).below ((Below.refl _ _).alloc (Nat.le_refl _) _), HI2.out.2, RB.new w3 X _⟩
      clear hN hb3 HI2
      cases R
      · have HK : Hid (HnI B w0 w g v (.slice au L.length cu) L (w3.alloc (.cells #[.int .i64 X.h, .int .i64 X.e, .string X.r, .string X.p] 25)) ∧ HV.ChOk L (hs : Int)) := ⟨HI3.out.1, HI3.out.2.1⟩
        clear HI3 HAD
        go_wp2
        go_roundw
        case rel => exact ⟨m + 1, L, by omega, by go_num, HK⟩
        case measure => simp [intOf]; omega
      · have hoa := HI3.out.1.2.1.later ((Below.refl _ _).alloc (Nat.le_refl _) (.cells #[.int .i64 X.h, .int .i64 X.e, .string X.r, .string X.p] 25))
        have z0 := HI3.out.2.2.c0
        have z1 := HI3.out.2.2.c1
        have z2 := HI3.out.2.2.c2
        have z3 := HI3.out.2.2.c3
        have HCH := HAD.out rfl
        have HI4 : Hid (HnI B w0 w g v (.slice au L.length cu) L (w3.alloc (.cells #[.int .i64 X.h, .int .i64 X.e, .string X.r, .string X.p] 25))) := HI3.out.1
        have HCC : Hid (HV.ChOk (L ++ [X]) (hs : Int)) := HCH
        clear HI3 HAD HCH
        have HRN : Hid (((w3.alloc (.cells #[.int .i64 X.h, .int .i64 X.e, .string X.r, .string X.p] 25)).alloc (.cells #[.int .i64 X.h, .int .i64 X.e, .string X.r, .string X.p] 25)).rangeAt (w3.heap.size + 1) 0 (hcs X)) := range_at (by simp) (range_new (w3.alloc (.cells #[.int .i64 X.h, .int .i64 X.e, .string X.r, .string X.p] 25)) (hcs X) 25)
        go_wp2_with (at_builtin; refine wp_headL rfl _ _ rfl w.heap.size (w3.alloc (.cells #[.int .i64 X.h, .int .i64 X.e, .string X.r, .string X.p] 25)) (.slice au L.length cu) L X rfl hoa _ rfl HRN.out (by omega) ?_)
        intro g5 cap5 w5 ho5 hg5 hl5
        have HK : Hid (HnI B w0 w g v (.slice (some ⟨g5, 0, none⟩) (L.length + 1) cap5) (L ++ [X]) w5 ∧ HV.ChOk (L ++ [X]) (hs : Int)) := ⟨HI4.out.app hgl hB ho5, HCC.out⟩
        clear ho5 hg5 hl5 hoa HRN HI4 HCC z0 z1 z2 z3
        go_wp2
        go_roundw
        case rel => exact ⟨m + 1, L ++ [X], by omega, by go_num, HK⟩
        case measure => simp [intOf]; omega
    · have i1 : ¬ (m : Int) < (j : Int) := by omega
      have HF : Hid (HnP B w0 w g v (.returned (.tuple #[.slice au L.length cu, .int .i64 (hs : Int)])) w1) := ⟨_, L, _, rfl, by omega, HI1.out.2, HI1.out.1⟩
      clear HI1
      go_wp2
      go_ret2
      exact HF.out

end Go.Proofs.YtaejeemjndmjcaaDoor
