/-
  Texts laid together: Hq.
-/
import Derived.Test.YtaejeemjndmjcaaDoorPkS44
import Derived.Test.YtaejeemjndmjcaaDoorPkS1
import Derived.Test.YtaejeemjndmjcaaDoorPkS46
/-
  Drawn lists of heads, right or not, and drawn heads.
-/
namespace Go.Proofs.YtaejeemjndmjcaaDoor
open Go.RowKit Go.BigFrame Go.Sort
set_option linter.unusedVariables false
set_option linter.unusedSimpArgs false

/-- no text of a head is longer than twenty bytes -/
def SmH (L : List Hd) : Prop := ∀ f ∈ L, f.r.size ≤ 20 ∧ f.p.size ≤ 20
theorem SmH.of {L : List Hd} {h : Int} (hc : HV.ChOk L h) : SmH L := fun f hf => by
  obtain ⟨i, hi, rfl⟩ := List.getElem_of_mem hf
  obtain ⟨_, _, h3, h4⟩ := HV.okH_iff.1 (hc.at i hi).1
  rw [h3, h4]
  unfold HV.pw
  split <;> omega

/-- a row beside a cursor, that may be written -/
def HqI (B : Nat) (w0 w : World) (g : Nat) (v u : Value) (q : Nat) (L : List Hd) (wr : World) : Prop := Cur B w0 wr g v ∧ RW 4 hcs wr u q L ∧ w.heap.size ≤ q ∧ SmH L ∧ w.grownBy wr (some g)
theorem set_hereH {w : World} {g o : Nat} {u : Value} (h : w.cell? ⟨g, o, none⟩ = some u) (hf : w.frozen? ⟨g, o, none⟩ = false) (v : Value) : (w.setCell ⟨g, o, none⟩ v).cell? ⟨g, o, none⟩ = some v :=
  (World.rangeAt_setCells_same w g o [v] (fun j hj => by
    have : j = 0 := by simpa using hj
    subst this
    exact ⟨by rw [Nat.add_zero, h]; rfl, hf⟩)) 0 v rfl
theorem set_elseH {w : World} {g o o' : Nat} (h : o' ≠ o) (v : Value) : (w.setCell ⟨g, o, none⟩ v).cell? ⟨g, o', none⟩ = w.cell? ⟨g, o', none⟩ :=
  World.cell?_setCells_out g [v] o w ⟨g, o', none⟩ (fun _ _ => by simp; omega)
/-- one field of a head in a row, written -/
theorem RW.setH {w : World} {v : Value} {q : Nat} {L : List Hd} (h : RW 4 hcs w v q L) (i : Nat) (hi : i < L.length) (j : Nat) (hj : j < 4) (x : Value) (Y : Hd) (hY : hcs Y = (hcs L[i]).set j x) : RW 4 hcs (w.setCell ⟨q, i * 4 + j, none⟩ x) v q (L.set i Y) := by
  obtain ⟨⟨a, c, hv, hl, h0, hc⟩, ht⟩ := h
  refine ⟨⟨a, c, by rw [List.length_set]; exact hv, by rw [List.length_set]; exact hl, fun hp => ⟨(h0 (by rw [List.length_set] at hp; exact hp)).1, by simpa using (h0 (by omega)).2⟩, fun k hk => ?_⟩, fun k hk => World.there_setCells (ht k (by rw [List.length_set] at hk; exact hk)) q (i * 4 + j) [x]⟩
  have hk' : k < L.length := by rw [List.length_set] at hk; exact hk
  by_cases e : k = i
  · subst e
    rw [List.getElem_set_self]
    intro j' u hu
    rw [hY] at hu
    rw [Nat.zero_add]
    by_cases e2 : j' = j
    · subst e2
      rw [List.getElem?_set_self (by rw [hcs_len]; exact hj)] at hu
      obtain rfl : x = u := by simpa using hu
      have ht0 := ht k hk' j' hj
      obtain ⟨y, hy⟩ := Option.isSome_iff_exists.1 ht0.1
      exact set_hereH hy ht0.2 _
    · rw [List.getElem?_set_ne (fun e3 => e2 e3.symm)] at hu
      rw [set_elseH (by omega)]
      have := hc k hk' j' u hu
      rw [Nat.zero_add] at this
      exact this
  · rw [List.getElem_set_ne (fun e3 => e e3.symm)]
    intro j' u hu
    have hj' : j' < 4 := by have := (List.getElem?_eq_some_iff.1 hu).1; rw [hcs_len] at this; exact this
    rw [Nat.zero_add, set_elseH (by omega)]
    have := hc k hk' j' u hu
    rw [Nat.zero_add] at this
    exact this
theorem HqI.set {B : Nat} {w0 w wr : World} {g : Nat} {v u : Value} {q : Nat} {L : List Hd} (h : HqI B w0 w g v u q L wr) (hg : g < w.heap.size) (hB : B ≤ w.heap.size) (i : Nat) (hi : i < L.length) (j : Nat) (hj : j < 4) (x : Value) (Y : Hd) (hY : hcs Y = (hcs L[i]).set j x) (hs : Y.r.size ≤ 20 ∧ Y.p.size ≤ 20) : HqI B w0 w g v u q (L.set i Y) (wr.setCell ⟨q, i * 4 + j, none⟩ x) := by
  obtain ⟨h1, h2, h3, h4, h5⟩ := h
  have hgs := grown_set wr q (i * 4 + j) x
  refine ⟨h1.kept hgs (by simp; omega) h1.size (fun k hk => by simp at hk; omega), h2.setH i hi j hj x Y hY, h3, fun f hf => ?_, grow_then h5 hgs (fun k hk => .inl (by simp at hk; omega))⟩
  rcases List.mem_or_eq_of_mem_set hf with h6 | h6
  · exact h4 f h6
  · rw [h6]; exact hs
/-- what l13Any answers -/
def HqP (B : Nat) (w0 w : World) (g : Nat) (v : Value) (e : Ending) (w' : World) : Prop := ∃ (u : Value) (q : Nat) (L : List Hd) (hs : Int), e = .returned (.tuple #[u, .int .i64 hs]) ∧ (0 ≤ hs ∧ hs < 3) ∧ L.length ≤ 4 ∧ HqI B w0 w g v u q L w'

set_option maxRecDepth 100000 in
set_option maxHeartbeats 2000000 in
theorem l13Any_in (B : Nat) (w0 w : World) (g : Nat) (v : Value) (hc : Cur B w0 w g v) :
    Calls Tryd.prog 90 #[.pointer (some ⟨g, 0, none⟩)] w (HqP B w0 w g v) := by
  have hB := hc.size
  have hgl := hc.lt
  go_enter Tryd.func90, Tryd.ntmps90
  go_wp2_with fail
  refine (l01Below_in B w0 _ g v 10 10 rfl hc (by omega) (by omega)).mono ?_
  rintro e w1 ⟨k, hk, rfl, hc1, hg1⟩
  clear hc
  go_wp2_with fail
  refine (l01Below_in B w0 _ g v 60 60 rfl hc1 (by omega) (by omega)).mono ?_
  rintro e w2 ⟨x, hx, rfl, hc2, hg2⟩
  have HG2 : Hid (w.grownBy w2 (some g)) := hg1.trans hg2
  clear hc1 hg1 hg2
  go_wp2_with fail
  refine (l13Chain_in B w0 _ g v hc2).mono ?_
  rintro e w3 ⟨u3, L, hs, rfl, hhs, hch, hI3⟩
  have hl4 := hch.len
  have hsm := SmH.of hch
  obtain ⟨au, cu, rfl⟩ := hI3.2.1.shape
  have HI3 : Hid (HnI B w0 w2 g v (.slice au L.length cu) L w3) := hI3
  clear hc2 hI3 hch
  obtain ⟨q3, hrw3, _, _⟩ := HI3.out.2.1.rw (by omega)
  have HO : Hid (OH w.heap.size w3 (w3.alloc (.cells #[] 25)) (.slice (some ⟨w3.heap.size, 0, none⟩) 0 0) []) := OH.made w.heap.size w3 w3 (Below.refl _ _) (Nat.le_trans HG2.out.size HI3.out.2.2.size)
  have HRA : Hid (RS 4 hcs (w3.alloc (.cells #[] 25)) (.slice au L.length cu) q3 0 L ∧ (au = none → cu = 0)) := ⟨hrw3.1.alloc _, fun e => by
    rcases HI3.out.2.1.1.2 with ⟨hv, hn⟩ | ⟨g', cap', cur', hv, _⟩
    · simp at hv; omega
    · rw [e] at hv; simp at hv⟩
  clear hrw3
  go_wp2_with (at_builtin; refine wp_rowH rfl _ _ rfl w.heap.size w3 w3.heap.size rfl HO.out au q3 0 cu L rfl HRA.out.1 HRA.out.2 ?_)
  intro u4 w4 ho4
  obtain ⟨a4, c4, rfl⟩ := ho4.shape
  have HQ : Hid (∃ q, HqI B w0 w g v (.slice a4 L.length c4) q L w4) := by
    obtain ⟨q, hrw, hq, _⟩ := ho4.rw (by omega)
    exact ⟨q, HI3.out.1.bel ho4.2.1 hgl hB, hrw, hq, hsm, grown_bel (HG2.out.trans HI3.out.2.2) ho4.2.1⟩
  obtain ⟨q, hq⟩ := HQ.out
  have HI : Hid (HqI B w0 w g v (.slice a4 L.length c4) q L w4) := hq
  clear HQ hq ho4 HRA HO HI3 HG2 hsm
  by_cases h0 : L.length = 0
  · have HF : Hid (HqP B w0 w g v (.returned (.tuple #[.slice a4 L.length c4, .int .i64 hs])) w4) := ⟨_, q, L, _, rfl, hhs, hl4, HI.out⟩
    have i0 : ¬ (0 : Int) < (L.length : Int) := by omega
    have i0' : decide (0 < L.length) = false := decide_eq_false (by omega)
    clear HI h0
    go_wp2
    go_ret2
    exact HF.out
  · have hA := (HI.out.2.1.1)
    obtain ⟨a5, c5, ev, _, hA5, _⟩ := hA
    obtain ⟨rfl, rfl⟩ : a4 = a5 ∧ c4 = c5 := by simpa using ev
    obtain ⟨rfl, hqlt⟩ := hA5 (by omega)
    have i0 : (0 : Int) < (L.length : Int) := by omega
    have i0' : decide (0 < L.length) = true := decide_eq_true (by omega)
    obtain ⟨n, hn⟩ : ∃ n, L.length = n := ⟨_, rfl⟩
    obtain ⟨i, hi⟩ : ∃ i, x % n = i := ⟨_, rfl⟩
    have hilt : i < n := by rw [← hi]; exact Nat.mod_lt _ (by omega)
    have hiI : (x : Int) % (n : Int) = (i : Int) := by rw [← hi]; simp
    have hn0 : ((n : Int) == 0) = false := beq_eq_false_iff_ne.2 (by omega)
    rw [hn] at HI hl4 i0 i0' ⊢
    clear h0 ev hA5 hi
    have HN : Hid (L.length = n) := hn
    clear hn
    have hkk : k = 0 ∨ k = 1 ∨ k = 2 ∨ k = 3 ∨ (¬ (k : Int) = 0 ∧ ¬ (k : Int) = 1 ∧ ¬ (k : Int) = 2 ∧ ¬ (k : Int) = 3) := by omega
    obtain ⟨⟨o0, x0⟩, ⟨o1, x1⟩, ⟨o2, x2⟩, ⟨o3, x3⟩, f0, f1, f2, f3⟩ := there4h (HI.out.2.1.2 i (by rw [HN.out]; exact hilt))
    rcases hkk with rfl | rfl | rfl | rfl | ⟨h0, h1, h2, h3⟩
    · have HF : Hid (HqP B w0 w g v (.returned (.tuple #[.slice (some ⟨q, 0, none⟩) n c4, .int .i64 hs])) (w4.setCell ⟨q, i * 4 + 1, none⟩ (.int .i64 ((x : Int) % 7)))) := ⟨_, q, L.set i ⟨(L[i]'(by rw [HN.out]; exact hilt)).h, (x : Int) % 7, (L[i]'(by rw [HN.out]; exact hilt)).r, (L[i]'(by rw [HN.out]; exact hilt)).p⟩, _, rfl, hhs, by rw [List.length_set, HN.out]; exact hl4, HI.out.set hgl hB i (by rw [HN.out]; exact hilt) 1 (by omega) _ _ rfl (by simp only; have := HI.out.2.2.2.1 (L[i]'(by rw [HN.out]; exact hilt)) (List.getElem_mem _); exact this)⟩
      clear HI
      go_wp2
      go_ret2
      exact HF.out
    · have hLG := l01Long_in ((x : Int) % 20) (x % 20) 97 97 w4 (by omega) rfl (by omega)
      have hz : (⟨(List.replicate (x % 20) 97).toArray⟩ : ByteArray).size = x % 20 := by show (List.replicate (x % 20) _).toArray.size = _; simp
      generalize (⟨(List.replicate (x % 20) 97).toArray⟩ : ByteArray) = T at *
      clear x0 x1 x2 x3 f0 f1 f2 f3 o0 o1 o2 o3
      go_wp2_with fail
      refine hLG.mono ?_
      rintro e w5 ⟨rfl, hb5⟩
      have HI5 : Hid (HqI B w0 w g v (.slice (some ⟨q, 0, none⟩) n c4) q L w5) := by
        obtain ⟨y1, y2, y3, y4, y5⟩ := HI.out
        exact ⟨y1.kept (grown_belowH (row := none) hb5) (by simp) y1.size (fun k hk => by cases hk), y2.later hb5, y3, y4, y5.trans (grown_belowH hb5)⟩
      clear HI hLG hb5
      obtain ⟨⟨o0, x0⟩, ⟨o1, x1⟩, ⟨o2, x2⟩, ⟨o3, x3⟩, f0, f1, f2, f3⟩ := there4h (HI5.out.2.1.2 i (by rw [HN.out]; exact hilt))
      have HF : Hid (HqP B w0 w g v (.returned (.tuple #[.slice (some ⟨q, 0, none⟩) n c4, .int .i64 hs])) (w5.setCell ⟨q, i * 4 + 2, none⟩ (.string T))) := ⟨_, q, L.set i ⟨(L[i]'(by rw [HN.out]; exact hilt)).h, (L[i]'(by rw [HN.out]; exact hilt)).e, T, (L[i]'(by rw [HN.out]; exact hilt)).p⟩, _, rfl, hhs, by rw [List.length_set, HN.out]; exact hl4, HI5.out.set hgl hB i (by rw [HN.out]; exact hilt) 2 (by omega) _ _ rfl (by simp only; have := HI5.out.2.2.2.1 (L[i]'(by rw [HN.out]; exact hilt)) (List.getElem_mem _); exact ⟨by omega, by omega⟩)⟩
      clear HI5
      go_wp2
      go_ret2
      exact HF.out
    · have hLG := l01Long_in 16 (16) 98 98 w4 rfl rfl (by omega)
      have hz : (⟨(List.replicate (16) 98).toArray⟩ : ByteArray).size = 16 := by show (List.replicate (16) _).toArray.size = _; simp
      generalize (⟨(List.replicate (16) 98).toArray⟩ : ByteArray) = T at *
      clear x0 x1 x2 x3 f0 f1 f2 f3 o0 o1 o2 o3
      go_wp2_with fail
      refine hLG.mono ?_
      rintro e w5 ⟨rfl, hb5⟩
      have HI5 : Hid (HqI B w0 w g v (.slice (some ⟨q, 0, none⟩) n c4) q L w5) := by
        obtain ⟨y1, y2, y3, y4, y5⟩ := HI.out
        exact ⟨y1.kept (grown_belowH (row := none) hb5) (by simp) y1.size (fun k hk => by cases hk), y2.later hb5, y3, y4, y5.trans (grown_belowH hb5)⟩
      clear HI hLG hb5
      obtain ⟨⟨o0, x0⟩, ⟨o1, x1⟩, ⟨o2, x2⟩, ⟨o3, x3⟩, f0, f1, f2, f3⟩ := there4h (HI5.out.2.1.2 i (by rw [HN.out]; exact hilt))
      have HF : Hid (HqP B w0 w g v (.returned (.tuple #[.slice (some ⟨q, 0, none⟩) n c4, .int .i64 hs])) (w5.setCell ⟨q, i * 4 + 3, none⟩ (.string T))) := ⟨_, q, L.set i ⟨(L[i]'(by rw [HN.out]; exact hilt)).h, (L[i]'(by rw [HN.out]; exact hilt)).e, (L[i]'(by rw [HN.out]; exact hilt)).r, T⟩, _, rfl, hhs, by rw [List.length_set, HN.out]; exact hl4, HI5.out.set hgl hB i (by rw [HN.out]; exact hilt) 3 (by omega) _ _ rfl (by simp only; have := HI5.out.2.2.2.1 (L[i]'(by rw [HN.out]; exact hilt)) (List.getElem_mem _); exact ⟨by omega, by omega⟩)⟩
      clear HI5
      go_wp2
      go_ret2
      exact HF.out
    · have HF : Hid (HqP B w0 w g v (.returned (.tuple #[.slice (some ⟨q, 0, none⟩) n c4, .int .i64 hs])) (w4.setCell ⟨q, i * 4, none⟩ (.int .i64 ((x : Int) % 5 - 1)))) := ⟨_, q, L.set i ⟨(x : Int) % 5 - 1, (L[i]'(by rw [HN.out]; exact hilt)).e, (L[i]'(by rw [HN.out]; exact hilt)).r, (L[i]'(by rw [HN.out]; exact hilt)).p⟩, _, rfl, hhs, by rw [List.length_set, HN.out]; exact hl4, HI.out.set hgl hB i (by rw [HN.out]; exact hilt) 0 (by omega) _ _ rfl (by simp only; have := HI.out.2.2.2.1 (L[i]'(by rw [HN.out]; exact hilt)) (List.getElem_mem _); exact this)⟩
      clear HI
      go_wp2
      go_ret2
      exact HF.out
    · have HF : Hid (HqP B w0 w g v (.returned (.tuple #[.slice (some ⟨q, 0, none⟩) n c4, .int .i64 hs])) w4) := ⟨_, q, L, _, rfl, hhs, by rw [HN.out]; exact hl4, HI.out⟩
      clear HI
      go_wp2
      go_ret2
      exact HF.out

/-- what l13Head answers -/
def HwP (B : Nat) (w0 w : World) (g : Nat) (v : Value) (e : Ending) (w' : World) : Prop := ∃ x : Hd, e = .returned (.agg #[.int .i64 x.h, .int .i64 x.e, .string x.r, .string x.p]) ∧ x.r.size ≤ 20 ∧ x.p.size ≤ 20 ∧ Cur B w0 w' g v ∧ w.grownBy w' (some g)

set_option maxRecDepth 100000 in
set_option maxHeartbeats 2000000 in
theorem l13Head_in (B : Nat) (w0 w : World) (g : Nat) (v : Value) (hc : Cur B w0 w g v) :
    Calls Tryd.prog 54 #[.pointer (some ⟨g, 0, none⟩)] w (HwP B w0 w g v) := by
  have hB := hc.size
  have hgl := hc.lt
  have hcz : Cur B w0 (w.alloc (.cells #[.int .i64 0, .int .i64 0, .string ⟨#[]⟩, .string ⟨#[]⟩] 25)) g v := hc.kept (World.grownBy_alloc w _ none) (by simp) hc.size (fun k hk => by cases hk)
  have HBZ : Hid (BH (w.alloc (.cells #[.int .i64 0, .int .i64 0, .string ⟨#[]⟩, .string ⟨#[]⟩] 25)) w.heap.size ⟨0, 0, ⟨#[]⟩, ⟨#[]⟩⟩) := BH.new w ⟨0, 0, ⟨#[]⟩, ⟨#[]⟩⟩
  have HGZ : Hid (w.grownBy (w.alloc (.cells #[.int .i64 0, .int .i64 0, .string ⟨#[]⟩, .string ⟨#[]⟩] 25)) (some g)) := World.grownBy_alloc w _ (some g)
  clear hc
  go_enter Tryd.func54, Tryd.ntmps54
  go_wp2_with fail
  refine (l13Any_in B w0 _ g v hcz).mono ?_
  rintro e w1 ⟨u, q, L, hs, rfl, hhs, hl4, hI⟩
  obtain ⟨a, cap, ev, _, hA, _⟩ := hI.2.1.1
  subst ev
  have HI : Hid (HqI B w0 (w.alloc (.cells #[.int .i64 0, .int .i64 0, .string ⟨#[]⟩, .string ⟨#[]⟩] 25)) g v (.slice a L.length cap) q L w1) := hI
  have HB1 : Hid (BH w1 w.heap.size ⟨0, 0, ⟨#[]⟩, ⟨#[]⟩⟩ ∧ w.grownBy w1 (some g)) := ⟨HBZ.out.grown hI.2.2.2.2 (by simp; omega), HGZ.out.trans hI.2.2.2.2⟩
  clear hI hcz HBZ HGZ
  by_cases h0 : L.length = 0
  · have i0 : ((L.length : Int) == 0) = true := by simp [h0]
    have i0' : (L.length : Int) = 0 := by omega
    have hn0 : L = [] := List.length_eq_zero_iff.1 h0
    subst hn0
    clear hA
    go_wp2_with fail
    refine (l13Root_in B w0 _ g v HI.out.1).mono ?_
    rintro e w2 ⟨r, hr, rfl, hc2, hg2⟩
    have HB2 : Hid (BH w2 w.heap.size ⟨0, 0, ⟨#[]⟩, ⟨#[]⟩⟩ ∧ w.grownBy w2 (some g) ∧ Cur B w0 w2 g v) := ⟨HB1.out.1.grown hg2 (by simp; omega), HB1.out.2.trans hg2, hc2⟩
    clear HB1 HI hc2 hg2
    have y0 := HB2.out.1.c0
    have y1 := HB2.out.1.c1
    have y2 := HB2.out.1.c2
    have y3 := HB2.out.1.c3
    simp only at y0 y1 y2 y3
    have f0 := HB2.out.1.fz 0
    have f1 := HB2.out.1.fz 1
    have f2 := HB2.out.1.fz 2
    have f3 := HB2.out.1.fz 3
    have HE : Hid (BH (w2.setCells w.heap.size 0 (hcs ⟨hs, 1, r, ⟨#[]⟩⟩)) w.heap.size ⟨hs, 1, r, ⟨#[]⟩⟩ ∧ HwP B w0 w g v (.returned (.agg #[.int .i64 hs, .int .i64 1, .string r, .string ⟨#[]⟩])) (w2.setCells w.heap.size 0 (hcs ⟨hs, 1, r, ⟨#[]⟩⟩))) := by
      have hbs := below_setCells (B := w.heap.size) (b := w.heap.size) (w0 := w2) (Nat.le_refl _) (hcs ⟨hs, 1, r, ⟨#[]⟩⟩) 0 w2 (Below.refl _ _)
      exact ⟨HB2.out.1.put _, ⟨hs, 1, r, ⟨#[]⟩⟩, rfl, by simp only; omega, by show (⟨#[]⟩ : ByteArray).size ≤ 20; decide, HB2.out.2.2.bel hbs hgl hB, grown_bel HB2.out.2.1 hbs⟩
    clear HB2
    go_wp2
    exact ret_hd 2 w.heap.size ⟨hs, 1, r, ⟨#[]⟩⟩ rfl rfl rfl HE.out.1 HE.out.2
  · obtain ⟨m, hm⟩ : ∃ m, L.length = m + 1 := ⟨L.length - 1, by omega⟩
    obtain ⟨rfl, _⟩ := hA (by omega)
    obtain ⟨c0, c1, c2, c3⟩ := HI.out.2.1.1.head m (by omega)
    have hsm := HI.out.2.2.2.1 (L[m]'(by omega)) (List.getElem_mem _)
    generalize (L[m]'(by omega)) = X at *
    have HB2 : Hid (BH w1 w.heap.size ⟨0, 0, ⟨#[]⟩, ⟨#[]⟩⟩ ∧ w.grownBy w1 (some g) ∧ Cur B w0 w1 g v) := ⟨HB1.out.1, HB1.out.2, HI.out.1⟩
    clear HB1 HI
    rw [hm] at hl4 ⊢
    have im : (m : Int) ≤ 3 := by omega
    have i0 : ((m : Int) + 1 == 0) = false := beq_eq_false_iff_ne.2 (by omega)
    rw [Nat.zero_add] at c0 c1 c2 c3
    clear hm hA h0
    have y0 := HB2.out.1.c0
    have y1 := HB2.out.1.c1
    have y2 := HB2.out.1.c2
    have y3 := HB2.out.1.c3
    simp only at y0 y1 y2 y3
    have f0 := HB2.out.1.fz 0
    have f1 := HB2.out.1.fz 1
    have f2 := HB2.out.1.fz 2
    have f3 := HB2.out.1.fz 3
    have HE : Hid (BH (w1.setCells w.heap.size 0 (hcs X)) w.heap.size X ∧ HwP B w0 w g v (.returned (.agg #[.int .i64 X.h, .int .i64 X.e, .string X.r, .string X.p])) (w1.setCells w.heap.size 0 (hcs X))) := by
      have hbs := below_setCells (B := w.heap.size) (b := w.heap.size) (w0 := w1) (Nat.le_refl _) (hcs X) 0 w1 (Below.refl _ _)
      exact ⟨HB2.out.1.put _, X, rfl, hsm.1, hsm.2, HB2.out.2.2.bel hbs hgl hB, grown_bel HB2.out.2.1 hbs⟩
    clear HB2
    go_wp2
    exact ret_hd 2 w.heap.size X rfl rfl rfl HE.out.1 HE.out.2

theorem ownsH_le {w : World} {base base' size n : Nat} {e : TypeId} {v : Value} {xs : List Value} (h : w.ownsRow base e size v n xs) (hb : base' ≤ base) : w.ownsRow base' e size v n xs := by
  refine ⟨h.1, ?_⟩
  rcases h.2 with h0 | ⟨g, cap, cur, hv, hbg, rest⟩
  · exact .inl h0
  · exact .inr ⟨g, cap, cur, hv, Nat.le_trans hb hbg, rest⟩
end Go.Proofs.YtaejeemjndmjcaaDoor
