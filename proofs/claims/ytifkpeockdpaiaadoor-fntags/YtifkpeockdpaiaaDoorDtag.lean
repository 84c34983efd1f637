/-
  What DrawTagText draws: some kind, and some parts.
-/
import Derived.Test.YtifkpeockdpaiaaDoorDrawc
import Derived.Test.YtifkpeockdpaiaaDoorTxt
namespace Go.Proofs.YtifkpeockdpaiaaDoor
open Go.RowKit
set_option linter.unusedVariables false

def svs (l : List ByteArray) : List Value := l.map Value.string
theorem svs_append (l r : List ByteArray) : svs (l ++ r) = svs l ++ svs r := by simp [svs]

theorem own_neS {B Bw : Nat} {w0 w : World} {g n : Nat} {v u : Value} {xs : List Value} (hc : Cur B w0 w g v) (ho : w.ownsRow Bw 9 1 u n xs) : some g ≠ u.ownBlock := by
  intro he
  obtain ⟨_, _, _, i, x, hb, _⟩ := hc
  rcases ho.2 with ⟨rfl, _⟩ | ⟨g', cap, cur, rfl, _, hg, _⟩
  · simp [Value.ownBlock] at he
  · simp [Value.ownBlock] at he
    subst he
    rw [hb] at hg
    simp at hg

theorem wp_appT {w : World} {ops : Array Oper} {rest : List Oper} {o : Oper} {a : Act} {Q : Exit → Act → World → Prop} (hgd : o.guard = none) (s x : Operand)
    (ho : o.op = .call { callee := .builtin .append, args := #[s, x], argTypes := #[31, 31] })
    (B : Nat) (v : Value) (l : List ByteArray) (hs : a.eval s = v) (hown : w.ownsRow B 9 1 v l.length (svs l)) (hsz : B ≤ w.heap.size)
    (ad : Addr) (t : ByteArray) (hx : a.eval x = .slice (some ad) 1 1) (hnews : w.cell? ad = some (.string t)) (hlen : l.length ≤ 1000000)
    (h : ∀ v' w', w'.ownsRow B 9 1 v' (l ++ [t]).length (svs (l ++ [t])) → w.grownBy w' v.ownBlock → wpList Tryd.prog ops Q rest (a.put o.dst v') w') : wpList Tryd.prog ops Q (o :: rest) a w := by
  obtain ⟨i0, hi, hz0, hz1, hz2⟩ := info_parts Tryd.info9
  refine wpList_append_own _ hgd s x 31 ho B 9 i0 (.string ByteArray.empty) 1 16 Tryd.underlying31 hi hz0 hz1 hz2 rfl (by decide) v l.length (svs l) hs hown ad 1 1 (svs [t]) hx (by simp [svs]) ?_
    (fun u hu => by simp [svs] at hu; subst hu; rfl) (by unfold maxLen; omega) (by omega) hsz ?_
  · intro j u hj
    match j, hj with
    | 0, hj =>
      simp [svs] at hj
      subst hj
      have : ad.add 0 = ad := by unfold Addr.add; split <;> simp_all
      rw [this]
      exact hnews
  · intro v' w' h1 h2 _
    exact h v' w' (by rw [List.length_append, svs_append]; exact h1) h2

theorem one_text (w : World) (t : ByteArray) (y : TypeId) : (w.alloc (.cells #[.string t] y)).cell? ⟨w.heap.size, 0, none⟩ = some (.string t) := by simp

def kindsL : List Int := [1, 2, 3, 8, 0, 9, 5]
def kindsC : Array Value := #[.int .i64 1, .int .i64 2, .int .i64 3, .int .i64 8, .int .i64 0, .int .i64 9, .int .i64 5]
theorem kinds_at (w : World) : Hid (∀ j, (h : j < kindsL.length) → (w.alloc (.cells kindsC 3)).cell? ⟨w.heap.size, j, none⟩ = some (.int .i64 kindsL[j])) := by
  intro j hj
  rw [World.cell?_alloc_at _ _ _ _ rfl]
  have : j = 0 ∨ j = 1 ∨ j = 2 ∨ j = 3 ∨ j = 4 ∨ j = 5 ∨ j = 6 := by simp [kindsL] at hj; omega
  rcases this with rfl | rfl | rfl | rfl | rfl | rfl | rfl <;> rfl

/-- what the first loop holds: as many texts as rounds -/
def DtR (w : World) (g : Nat) (v u i : Value) (wr : World) : Prop :=
  ∃ (k : Nat) (l : List ByteArray), k ≤ 4 ∧ i = .int .i64 k ∧ l.length = k ∧ wr.ownsRow w.heap.size 9 1 u l.length (svs l) ∧ Cur w.heap.size w wr g v

/-- what the second loop holds -/
def DuR (w : World) (u : Value) (wr : World) : Prop :=
  ∃ l : List ByteArray, l.length ≤ 61 ∧ wr.ownsRow w.heap.size 9 1 u l.length (svs l) ∧ Below w.heap.size w wr ∧ w.heap.size ≤ wr.heap.size

theorem ss_own {B n : Nat} {w : World} {u : Value} {l : List ByteArray} (h : w.ownsRow B 9 1 u n (svs l)) (hn : n = l.length) (hl : l.length ≤ 1100000) : ∃ g, SS w u g 0 l := by
  subst hn
  rcases h.2 with ⟨hv, hn⟩ | ⟨g, cap, cur, hv, hbg, hg, rest⟩
  · have e : l = [] := List.length_eq_zero_iff.1 hn
    subst e
    exact ⟨0, none, 0, hv, by simp, fun h => absurd h (by simp), fun j hj => absurd hj (by simp)⟩
  · subst hv
    refine ⟨g, _, cap, rfl, hl, fun _ => rfl, fun j hj => ?_⟩
    rw [Nat.zero_add, World.ownsRow.cellAt h j (by omega)]
    simp [svs, List.getElem?_eq_getElem hj]

theorem own_later {B n e : Nat} {w w' : World} {v : Value} {xs : List Value} (h : w.ownsRow B e 1 v n xs) (hb : Below w.heap.size w w') : w'.ownsRow B e 1 v n xs := by
  refine ⟨h.1, ?_⟩
  rcases h.2 with hn | ⟨g, cap, cur, hv, hbg, hg, rest⟩
  · exact .inl hn
  · refine .inr ⟨g, cap, cur, hv, hbg, ?_, rest⟩
    rw [hb.block g (Array.getElem?_eq_some_iff.1 hg).1]
    exact hg

theorem own_slice {B n e : Nat} {w : World} {v : Value} {xs : List Value} (h : w.ownsRow B e 1 v n xs) : ∃ a c, v = .slice a n c := by
  rcases h.2 with ⟨hv, hn⟩ | ⟨g, cap, cur, hv, hbg, hg, rest⟩
  · exact ⟨none, 0, by rw [hv, hn]⟩
  · exact ⟨_, cap, hv⟩

def lenOf : Value → Nat
  | .slice _ n _ => n
  | _ => 0

/-- what DrawTagText gives -/
def DtAns (w : World) (e : Ending) (w' : World) : Prop := ∃ (k : Int) (u : Value) (g : Nat) (l : List ByteArray), e = .returned (.tuple #[.int .i64 k, u]) ∧ SS w' u g 0 l ∧ Below w.heap.size w w'

set_option maxRecDepth 100000 in
set_option maxHeartbeats 1000000 in
theorem DrawTagText_any (w : World) (ao : Option Addr) (len cap : Nat) (hlen : len ≤ 1048576) (hc : Code w.heap.size w (.slice ao len cap)) :
    Calls Tryd.prog 22 #[.slice ao len cap] w (DtAns w) := by
  have HC : Hid (Code w.heap.size w (.slice ao len cap)) := hc
  clear hc
  go_enter Tryd.func22, Tryd.ntmps22
  go_wp2_with fail
  refine (l01New_in w _ HC.out).mono ?_
  rintro e w1 ⟨g, rfl, hc1, hb1⟩
  obtain ⟨v, hv⟩ : ∃ v, Value.slice ao len cap = v := ⟨_, rfl⟩
  rw [hv] at hc1
  have HCP : Hid (Calls Tryd.prog 40 #[.pointer (some ⟨g, 0, none⟩), .slice (some ⟨w1.heap.size, 0, none⟩) 7 7] (w1.alloc (.cells kindsC 3)) fun e w' => ∃ y : Int, y ∈ kindsL ∧ e = .returned (.int .i64 y) ∧ Cur w.heap.size w w' g v ∧ w1.grownBy w' (some g)) := by
    have hca : Cur w.heap.size w (w1.alloc (.cells kindsC 3)) g v := hc1.kept (World.grownBy_alloc w1 _ none) (by simp) hc1.size (fun k hk => by cases hk)
    have hga : w1.grownBy (w1.alloc (.cells kindsC 3)) (some g) := World.grownBy_alloc w1 _ (some g)
    have hgl := hc1.lt
    exact (l01PickInt_in w.heap.size w (w1.alloc (.cells kindsC 3)) g v w1.heap.size 7 kindsL hca (by decide) (by decide) (by omega) (by simp) (kinds_at w1)).mono fun e w' ⟨y, hy, he, hc, hg⟩ => ⟨y, hy, he, hc, hga.trans hg⟩
  clear hc1
  go_wp2_with fail
  refine HCP.out.mono ?_
  rintro e w2 ⟨kd, hkd, rfl, hc2, hg2⟩
  clear HCP hg2 hkd hb1
  go_wp2_with fail
  refine (l01Below_in w.heap.size w _ g v 12 12 rfl hc2 (by omega) (by omega)).mono ?_
  rintro e w3 ⟨kk, hkk, rfl, hc3, hg3⟩
  clear hc2 hg3
  go_wp2
  go_loopw [7, 8] (fun u i wr => DtR w g v u i wr) (fun _ i _ => 4 - (intOf i).toNat)
  case atStart =>
    have hB := hc3.size
    refine ⟨0, [], by omega, rfl, rfl, World.ownsRow_made w3 #[] 0 hB (by decide) (by simp), ?_⟩
    exact hc3.kept (World.grownBy_alloc w3 _ none) (by simp) hc3.size (fun k hk => by cases hk)
  case round =>
    obtain ⟨k, l, hk, rfl, hll, hrow, hcr⟩ := hrel
    clear hc3
    go_wp2_with fail
    refine (l01Below_in w.heap.size w _ g v 4 4 rfl hcr (by omega) (by omega)).mono ?_
    rintro e w4 ⟨b4, hb4, rfl, hc4, hg4⟩
    have hrow4 : w4.ownsRow w.heap.size 9 1 u7 l.length (svs l) := World.ownsRow.kept hrow hg4 (.inr (own_neS hcr hrow).symm)
    clear hrow hcr hg4
    by_cases hlt : k < b4
    · have i1 : (k : Int) < (b4 : Int) := by omega
      go_wp2_with fail
      refine (l01Below_in w.heap.size w _ g v 9 9 rfl hc4 (by omega) (by omega)).mono ?_
      rintro e w5 ⟨b5, hb5, rfl, hc5, hg5⟩
      have hrow5 : w5.ownsRow w.heap.size 9 1 u7 l.length (svs l) := World.ownsRow.kept hrow4 hg5 (.inr (own_neS hc4 hrow4).symm)
      clear hrow4 hc4 hg5
      go_wp2_with fail
      refine (l01Text_in w.heap.size w _ g v _ b5 rfl hc5 (by omega)).mono ?_
      rintro e w6 ⟨t, ht, rfl, hc6, hg6⟩
      have hrow6 : w6.ownsRow w.heap.size 9 1 u7 l.length (svs l) := World.ownsRow.kept hrow5 hg6 (.inr (own_neS hc5 hrow5).symm)
      clear hrow5 hc5 hg6
      generalize (⟨t.toArray⟩ : ByteArray) = X at *
      have hB := hc6.size
      go_wp2_with (at_builtin; refine wp_appT rfl _ _ rfl w.heap.size _ l rfl (World.ownsRow.alloc hrow6 _) ?c0 ⟨w6.heap.size, 0, none⟩ X rfl ?c1 ?c2 ?_)
      case c0 => simp; omega
      case c1 => exact one_text _ _ _
      case c2 => omega
      intro v' w7 hrow7 hg7
      have hne := own_neS hc6 hrow6
      have hge : ∀ j, u7.ownBlock = some j → w.heap.size ≤ j := fun j hj => (World.ownsRow.lt hrow6 j hj).1
      have hca : Cur w.heap.size w (w6.alloc (.cells #[.string X] 9)) g v := hc6.kept (World.grownBy_alloc w6 _ none) (by simp) hc6.size (fun k hk => by cases hk)
      have hc7 : Cur w.heap.size w w7 g v := hca.kept hg7 hne hca.size hge
      have HR7 : Hid (w7.ownsRow w.heap.size 9 1 v' (l ++ [X]).length (svs (l ++ [X]))) := by
        show w7.ownsRow w.heap.size 9 1 v' (l ++ [X]).length (svs (l ++ [X]))
        have e : (l ++ [X]).length = l.length + 1 := by simp
        rw [e]
        first | exact hrow7 | (rw [hll]; exact hrow7)
      clear hca hne hge hg7 hrow6 hrow7 hc6
      go_wp2
      go_roundw
      case rel => exact ⟨k + 1, l ++ [X], by omega, by go_num, by simp; omega, HR7.out, hc7⟩
      case measure => simp [intOf] <;> omega
    · have i1 : ¬ ((k : Int) < (b4 : Int)) := by omega
      have hbel := hc4.2.1
      have hB := hc4.size
      by_cases k0 : kk = 0
      · subst k0
        go_wp2_with fail
        refine (l01Below_in w.heap.size w _ g v 2 2 rfl hc4 (by omega) (by omega)).mono ?_
        rintro e w5 ⟨b5, hb5, rfl, hc5, hg5⟩
        have hrow5 : w5.ownsRow w.heap.size 9 1 u7 l.length (svs l) := World.ownsRow.kept hrow4 hg5 (.inr (own_neS hc4 hrow4).symm)
        have hbel5 := hc5.2.1
        have hB5 := hc5.size
        clear hrow4 hc4 hg5
        go_wp2_with fail
        refine (l01Long_in _ (200 + b5) 97 _ _ (by omega) rfl (by omega)).mono ?_
        rintro e w6 ⟨rfl, hb6⟩
        have hrow6 := own_later hrow5 hb6
        have hbel6 := hbel5.trans (hb6.mono hB5)
        have hB6 := Nat.le_trans hB5 hb6.size
        generalize (⟨(List.replicate (200 + b5) 97).toArray⟩ : ByteArray) = X at *
        clear hrow5 hbel5 hb6 hc5
        go_wp2_with (at_builtin; refine wp_appT rfl _ _ rfl w.heap.size _ l rfl (World.ownsRow.alloc hrow6 _) ?c0 ⟨w6.heap.size, 0, none⟩ X rfl ?c1 ?c2 ?_)
        case c0 => simp; omega
        case c1 => exact one_text _ _ _
        case c2 => omega
        intro v' w7 hrow7 hg7
        have hbel7 : Below w.heap.size w w7 := (hbel6.alloc hB6 _).grown hg7 (by simp; omega) (fun j hj => (World.ownsRow.lt hrow6 j hj).1)
        obtain ⟨gs, hss⟩ := ss_own hrow7 (by simp; omega) (by simp; omega)
        clear hrow6 hrow7 hg7 hbel6
        go_wp2
        go_ret2
        exact ⟨kd, _, gs, _, rfl, hss, hbel7⟩
      · have q0 : ((kk : Int) == 0) = false := by simp; omega
        by_cases k1 : kk = 1
        · subst k1
          subst hv
          have HST : Hid (DuR w u7 w4) := ⟨l, by omega, hrow4, hbel, hB⟩
          clear hrow4 hc4 hbel hB
          go_wp2
          go_loopw [7] (fun u wr => DuR w u wr) (fun u _ => 100 - lenOf u)
          case atStart => exact HST.out
          case round =>
            obtain ⟨l2, hl2, hrow, hbel, hB⟩ := hrel
            clear HST
            obtain ⟨aa, cc, rfl⟩ := own_slice hrow
            by_cases hlt2 : l2.length < 60 + len % 2
            · have i2 : (l2.length : Int) < 60 + (len : Int) % 2 := by omega
              go_wp2_with (at_builtin; refine wp_appT rfl _ _ rfl w.heap.size _ l2 rfl (World.ownsRow.alloc hrow _) ?c0 ⟨wr.heap.size, 0, none⟩ ⟨#[120]⟩ rfl ?c1 ?c2 ?_)
              case c0 => simp; omega
              case c1 => exact one_text _ _ _
              case c2 => omega
              intro v' w7 hrow7 hg7
              have hbel7 : Below w.heap.size w w7 := (hbel.alloc hB _).grown hg7 (by simp; omega) (fun j hj => (World.ownsRow.lt hrow j hj).1)
              obtain ⟨a7, c7, rfl⟩ := own_slice hrow7
              have hB7 : w.heap.size ≤ w7.heap.size := Nat.le_trans (by simp; omega) hg7.size
              have HN : Hid (DuR w (.slice a7 (l2.length + 1) c7) w7) := ⟨l2 ++ [(⟨#[120]⟩ : ByteArray)], by simp; omega, by simpa using hrow7, hbel7, hB7⟩
              clear hrow hrow7 hg7 hbel hbel7
              go_wp2
              go_roundw
              case rel => exact HN.out
              case measure => simp [lenOf]; omega
            · have i2 : ¬ ((l2.length : Int) < 60 + (len : Int) % 2) := by omega
              obtain ⟨gs, hss⟩ := ss_own hrow rfl (by omega)
              clear hrow
              go_wp2
              go_ret2
              exact ⟨kd, _, gs, l2, rfl, hss, hbel⟩
        · have q1 : ((kk : Int) == 1) = false := by simp; omega
          obtain ⟨gs, hss⟩ := ss_own hrow4 rfl (by omega)
          clear hrow4 hc4
          go_wp2
          go_ret2
          exact ⟨kd, _, gs, l, rfl, hss, hbel⟩

end Go.Proofs.YtifkpeockdpaiaaDoor
