/-
  Texts laid together: Lq, Nb, Lt, Lr, Rv, Rb, Cpl, Cpy, Bk, Dn, Dv, Places.
-/
import Derived.Test.YtmcejkfknbjjkaaGreatDoorPkJ
import Derived.Test.YtmcejkfknbjjkaaGreatDoorPkC
import Derived.Test.YtmcejkfknbjjkaaGreatDoorPkA
import Derived.Lib.AppendStr
import Derived.Laws.IdiomCopy
import Derived.Test.YtmcejkfknbjjkaaGreatDoorShelf
import Derived.Deep.RegionHeld3
import Derived.Test.YtmcejkfknbjjkaaGreatDoorPkG
import Derived.Test.YtmcejkfknbjjkaaGreatDoorPkD
import Derived.Deep.AppendLies
/-
  What putting and dropping a leaf answers: the list that is left, and whether it was done.
-/
namespace Go.Proofs.YtmcejkfknbjjkaaGreatDoor
open Go.RowKit Go.BigFrame Go.Sort
set_option linter.unusedVariables false

/-- a list answered, and whether -/
def LqP (M : List Le) (R : Bool) (w : World) (e : Ending) (w' : World) : Prop := ∃ a cap g, e = .returned (.tuple #[.slice a M.length cap, .bool R]) ∧ RW 2 lcs w' (.slice a M.length cap) g M ∧ w.heap.size ≤ g ∧ Below w.heap.size w w'
theorem putR_no {L : List Le} {f : Le} (h : LV.putB L f = false) : LV.putR L f = L := by unfold LV.putR; rw [h]; rfl
theorem putR_yes {L : List Le} {f : Le} (h : LV.putB L f = true) : LV.putR L f = LV.put L f := by unfold LV.putR; rw [h]; rfl
theorem dropR_no {L : List Le} {x : ByteArray} (h : LV.dropB L x = false) : LV.dropR L x = L := by unfold LV.dropR; rw [h]; rfl
theorem dropR_yes {L : List Le} {x : ByteArray} (h : LV.dropB L x = true) : LV.dropR L x = LV.wout L x := by unfold LV.dropR; rw [h]; rfl

end Go.Proofs.YtmcejkfknbjjkaaGreatDoor
/-
  A leaf put into a list: the specification's answer.
-/
namespace Go.Proofs.YtmcejkfknbjjkaaGreatDoor
open Go.RowKit Go.BigFrame Go.Sort
set_option linter.unusedVariables false
set_option linter.unusedSimpArgs false

theorem put_wout (L : List Le) (f : Le) : (LV.wout L f.n).filter (fun g => F.ltN g.n f.n) ++ [f] ++ (LV.wout L f.n).filter (fun g => F.ltN f.n g.n) = LV.put L f := by
  unfold LV.put LV.wout
  rw [List.filter_filter, List.filter_filter, List.append_assoc]
  have e1 : (fun a : Le => F.ltN a.n f.n && !decide (a.n = f.n)) = fun a => F.ltN a.n f.n := by
    funext a
    cases h : F.ltN a.n f.n
    · rfl
    · rw [decide_eq_false (F.ltN_ne h)]; rfl
  have e2 : (fun a : Le => F.ltN f.n a.n && !decide (a.n = f.n)) = fun a => F.ltN f.n a.n := by
    funext a
    cases h : F.ltN f.n a.n
    · rfl
    · rw [decide_eq_false (fun e => F.ltN_ne h e.symm)]; rfl
  rw [e1, e2]
  rfl
theorem small_put {L : List Le} {f : Le} (h : SmallL L) (hn : f.n.size ≤ 1048576) (hv : f.v.size ≤ 1048576) : SmallL (LV.put L f) := fun g hg => by
  rcases LV.mem_put.1 hg with rfl | ⟨h1, _⟩
  · exact ⟨hn, hv⟩
  · exact h g h1

/-- what grows, and the row that it is taken of -/
def NbS (w wr : World) (u : Value) (l : List Le) (v : Value) (g : Nat) (K : List Le) : Prop := OL w.heap.size w wr u l ∧ RS 2 lcs wr v g 0 K ∧ (0 < K.length → u.ownBlock ≠ some g ∧ g < wr.heap.size)
theorem NbS.later {w wr W : World} {u v : Value} {l K : List Le} {g : Nat} (h : NbS w wr u l v g K) (hb : Below wr.heap.size wr W) : NbS w W u l v g K := ⟨h.1.later hb, h.2.1.later hb, fun hp => ⟨(h.2.2 hp).1, Nat.lt_of_lt_of_le (h.2.2 hp).2 hb.size⟩⟩
theorem NbS.app {w wr W : World} {u v : Value} {l l' K : List Le} {g g5 n5 cap5 : Nat} (h : NbS w wr u l v g K) (ho : OL w.heap.size w W (.slice (some ⟨g5, 0, none⟩) n5 cap5) l') (hg : wr.grownBy W u.ownBlock) (hl : u.ownBlock = some g5 ∨ g5 = wr.heap.size) : NbS w W (.slice (some ⟨g5, 0, none⟩) n5 cap5) l' v g K := by
  refine ⟨ho, h.2.1.grown hg (fun hp => fun e => (h.2.2 hp).1 e.symm), fun hp => ⟨?_, Nat.lt_of_lt_of_le (h.2.2 hp).2 hg.size⟩⟩
  intro e
  have e5 : g5 = g := by simpa [Value.ownBlock] using e
  rcases hl with h1 | h1
  · exact (h.2.2 hp).1 (by rw [h1, e5])
  · have := (h.2.2 hp).2
    omega

theorem le_of_notL {a b : ByteArray} (h : F.ltN b a = false) : (Op.bytesLess a.toList b.toList || a.toList == b.toList) = true := by
  rcases F.ltN_tri a b with h1 | h1 | h1
  · have : Op.bytesLess a.toList b.toList = true := h1
    rw [this]; rfl
  · subst h1; simp
  · rw [h] at h1; cases h1
theorem gt_ofL {a b : ByteArray} (h : F.ltN b a = true) : (Op.bytesLess a.toList b.toList || a.toList == b.toList) = false := by
  have h1 : Op.bytesLess a.toList b.toList = false := F.ltN_asymm h
  rw [h1, LV.bytes_ne (F.ltN_ne h).symm]
  rfl
def ltP (x : ByteArray) (g : Le) : Bool := F.ltN g.n x
def gtP (x : ByteArray) (g : Le) : Bool := F.ltN x g.n
/-- the first m leaves that P wants, behind those of l0 -/
def flL (l0 : List Le) (P : Le → Bool) (K : List Le) (m : Nat) : List Le := l0 ++ (K.take m).filter P
theorem flL_step (l0 : List Le) (P : Le → Bool) (K : List Le) (m : Nat) (h : m < K.length) : flL l0 P K (m + 1) = if P K[m] = true then flL l0 P K m ++ [K[m]] else flL l0 P K m := by
  unfold flL
  rw [LV.filt_step P h]
  split <;> simp
theorem flL_len (l0 : List Le) (P : Le → Bool) (K : List Le) (m : Nat) : (flL l0 P K m).length ≤ l0.length + K.length := by
  have := LV.filt_len K m P
  simp only [flL, List.length_append]
  omega
theorem flL_all (l0 : List Le) (P : Le → Bool) (K : List Le) : flL l0 P K K.length = l0 ++ K.filter P := by simp [flL]
theorem flL_zero (l0 : List Le) (P : Le → Bool) (K : List Le) : flL l0 P K 0 = l0 := by simp [flL]

def NbR (w : World) (l0 : List Le) (P : Le → Bool) (v : Value) (g : Nat) (K : List Le) (u i : Value) (wr : World) : Prop := ∃ (m : Nat) (au : Option Addr) (cu : Nat), m ≤ K.length ∧ i = .int .i64 m ∧ u = .slice au (flL l0 P K m).length cu ∧ Hid (NbS w wr u (flL l0 P K m) v g K)

set_option maxRecDepth 100000 in
set_option maxHeartbeats 4000000 in
theorem sLeafPut_any (p : Option Addr) (cap : Nat) (ga oa : Nat) (L : List Le) (x y : ByteArray) (w : World) (hv : RS 2 lcs w (.slice p L.length cap) ga oa L) (hnil : p = none → cap = 0) (hsm : SmallL L) (hL : L.length ≤ 1048576) (hn : x.size ≤ 1048576) (hvs : y.size ≤ 1048576) :
    Calls Tryz.prog 82 #[.slice p L.length cap, .string x, .string y] w (LqP (LV.putR L ⟨x, y⟩) (LV.putB L ⟨x, y⟩) w) := by
  have HV : Hid (RS 2 lcs w (.slice p L.length cap) ga oa L ∧ SmallL L ∧ SmallL (LV.put L ⟨x, y⟩)) := ⟨hv, hsm, small_put hsm hn hvs⟩
  have hb1 : Below w.heap.size w (w.alloc (.cells #[] 34)) := (Below.refl _ _).alloc (Nat.le_refl _) _
  have hW := l09Without_any _ ga oa L x _ (hv.later hb1)
  have ho1 : OL w.heap.size w (w.alloc (.cells #[] 34)) (.slice (some ⟨w.heap.size, 0, none⟩) 0 0) [] := OL.made _ w w (Below.refl _ _) (Nat.le_refl _)
  have HO1 : Hid (OL w.heap.size w (w.alloc (.cells #[] 34)) (.slice (some ⟨w.heap.size, 0, none⟩) 0 0) []) := ho1
  have hKl : (LV.wout L x).length ≤ L.length := LV.len_wout_le L x
  have hPl : (LV.put L ⟨x, y⟩).length ≤ 1100000 := by rw [LV.len_put]; show (LV.wout L x).length + 1 ≤ 1100000; omega
  have HPW : Hid ((LV.wout L x).filter (ltP x) ++ [⟨x, y⟩] ++ (LV.wout L x).filter (gtP x) = LV.put L ⟨x, y⟩) := put_wout L ⟨x, y⟩
  clear hv hsm hb1 ho1
  go_enter Tryz.func82, Tryz.ntmps82
  go_wp2_with fail
  refine hW.mono ?_
  rintro e w2 ⟨u2, rfl, ho2⟩
  obtain ⟨g2, hr2, hg2, _⟩ := ho2.rw (by omega)
  obtain ⟨a2, c2, rfl⟩ := ho2.shape
  generalize LV.wout L x = K at *
  have HST : Hid (NbR w [] (ltP x) (.slice a2 K.length c2) g2 K (.slice (some ⟨w.heap.size, 0, none⟩) 0 0) (.int .i64 0) w2) := by
    refine ⟨0, some ⟨w.heap.size, 0, none⟩, 0, by omega, rfl, by simp [flL], ?_⟩
    rw [flL_zero]
    refine ⟨HO1.out.later ho2.2.1, hr2.1, fun hp => ⟨?_, hr2.lt hp⟩⟩
    intro e
    have e5 : w.heap.size = g2 := by simpa [Value.ownBlock] using e
    simp at hg2
    omega
  have HA2 : Hid (0 < K.length → a2 = some ⟨g2, 0, none⟩) := fun hp => by
    obtain ⟨⟨a', c', ev, _, h1, _⟩, _⟩ := hr2
    simp at ev
    rw [ev.1]
    exact (h1 hp).1
  clear hW ho2 hr2 hg2 HO1
  go_wp2
  go_loopw [8, 10] (fun u i wr => NbR w [] (ltP x) (.slice a2 K.length c2) g2 K u i wr) (fun _ i _ => K.length - (intOf i).toNat)
  case atStart => exact HST.out
  case round =>
    obtain ⟨m, au, cu, hm, rfl, rfl, HI⟩ := hrel
    clear HST
    by_cases hlt : m < K.length
    · have ea := HA2.out (by omega)
      subst ea
      obtain ⟨c0, c1⟩ := HI.out.2.1.leaf m hlt
      obtain ⟨X, hX⟩ : ∃ X, K[m]'hlt = X := ⟨_, rfl⟩
      rw [hX, Nat.zero_add] at c0 c1
      have hst := flL_step [] (ltP x) K m hlt
      rw [hX] at hst
      have hle : (flL [] (ltP x) K m).length ≤ K.length := by simpa using flL_len [] (ltP x) K m
      have i1 : (m : Int) < (K.length : Int) := by omega
      have i2 : (0 : Int) ≤ (m : Int) := by omega
      clear hX
      cases hk : ltP x X
      · have q : Op.bytesLess X.n.toList x.toList = false := hk
        rw [hk] at hst
        have HJ : Hid (NbS w wr (.slice au (flL [] (ltP x) K m).length cu) (flL [] (ltP x) K (m + 1)) (.slice (some ⟨g2, 0, none⟩) K.length c2) g2 K ∧ (flL [] (ltP x) K m).length = (flL [] (ltP x) K (m + 1)).length) := by rw [hst]; exact ⟨HI.out, rfl⟩
        generalize hl : flL [] (ltP x) K m = l at *
        clear HI hst hk hl
        go_wp2
        go_roundw
        case rel => exact ⟨m + 1, au, cu, by omega, by go_num, by rw [← HJ.out.2], HJ.out.1⟩
        case measure => simp [intOf]; omega
      · have q : Op.bytesLess X.n.toList x.toList = true := hk
        rw [hk] at hst
        have HJ : Hid (flL [] (ltP x) K (m + 1) = flL [] (ltP x) K m ++ [X]) := hst
        generalize hl : flL [] (ltP x) K m = l at *
        have hba : Below wr.heap.size wr (wr.alloc (.cells #[.string X.n, .string X.v] 34)) := (Below.refl _ _).alloc (Nat.le_refl _) _
        have HSA : Hid (NbS w (wr.alloc (.cells #[.string X.n, .string X.v] 34)) (.slice au l.length cu) l (.slice (some ⟨g2, 0, none⟩) K.length c2) g2 K) := HI.out.later hba
        have HRN : Hid ((wr.alloc (.cells #[.string X.n, .string X.v] 34)).rangeAt wr.heap.size 0 (lcs X)) := range_new _ [.string X.n, .string X.v] 34
        clear hba HI hst hk hl
        go_wp2_with (at_builtin; refine wp_leafL rfl _ _ rfl w.heap.size w (.slice au l.length cu) l X rfl HSA.out.1 _ rfl HRN.out (by omega) ?_)
        intro g5 cap5 w5 ho5 hg5 hl5
        have HK : Hid (NbS w w5 (.slice (some ⟨g5, 0, none⟩) (l.length + 1) cap5) (flL [] (ltP x) K (m + 1)) (.slice (some ⟨g2, 0, none⟩) K.length c2) g2 K ∧ l.length + 1 = (flL [] (ltP x) K (m + 1)).length) := ⟨HSA.out.app (by rw [HJ.out]; exact ho5) hg5 (by simpa using hl5), by rw [HJ.out]; simp⟩
        clear ho5 hg5 hl5 HSA HRN HJ c0 c1
        go_wp2
        go_roundw
        case rel => exact ⟨m + 1, _, _, by omega, by go_num, by rw [← HK.out.2], HK.out.1⟩
        case measure => simp [intOf]; omega
    · have hme : m = K.length := by omega
      subst hme
      have hfl := flL_all [] (ltP x) K
      have hle := flL_len [] (ltP x) K K.length
      have HPW2 : Hid ((flL [] (ltP x) K K.length ++ [⟨x, y⟩]) ++ K.filter (gtP x) = LV.put L ⟨x, y⟩) := by rw [hfl, List.nil_append]; exact HPW.out
      generalize flL [] (ltP x) K K.length = l at *
      have hba : Below wr.heap.size wr (wr.alloc (.cells #[.string x, .string y] 34)) := (Below.refl _ _).alloc (Nat.le_refl _) _
      have HSA : Hid (NbS w (wr.alloc (.cells #[.string x, .string y] 34)) (.slice au l.length cu) l (.slice a2 K.length c2) g2 K) := HI.out.later hba
      have HRN : Hid ((wr.alloc (.cells #[.string x, .string y] 34)).rangeAt wr.heap.size 0 (lcs ⟨x, y⟩)) := range_new _ [.string x, .string y] 34
      clear hba HI hfl HPW
      go_wp2_with (at_builtin; refine wp_leafL rfl _ _ rfl w.heap.size w (.slice au l.length cu) l ⟨x, y⟩ rfl HSA.out.1 _ rfl HRN.out (by simp at hle; omega) ?_)
      intro g5 cap5 w5 ho5 hg5 hl5
      have HS5 : Hid (NbS w w5 (.slice (some ⟨g5, 0, none⟩) (l.length + 1) cap5) (l ++ [⟨x, y⟩]) (.slice a2 K.length c2) g2 K ∧ l.length + 1 = (l ++ [(⟨x, y⟩ : Le)]).length) := ⟨HSA.out.app ho5 hg5 (by simpa using hl5), by simp⟩
      have hl2 : (l ++ [(⟨x, y⟩ : Le)]).length ≤ K.length + 1 := by simp at hle ⊢; omega
      clear ho5 hg5 hl5 HSA HRN hle
      generalize l ++ [(⟨x, y⟩ : Le)] = l2 at *
      have HST : Hid (NbR w l2 (gtP x) (.slice a2 K.length c2) g2 K (.slice (some ⟨g5, 0, none⟩) (l.length + 1) cap5) (.int .i64 0) w5) := by
        refine ⟨0, some ⟨g5, 0, none⟩, cap5, by omega, rfl, by rw [flL_zero, HS5.out.2], ?_⟩
        rw [flL_zero]
        exact HS5.out.1
      clear HS5
      generalize l.length + 1 = n5 at *
      go_wp2
      go_loopw [8, 11] (fun u i wr => NbR w l2 (gtP x) (.slice a2 K.length c2) g2 K u i wr) (fun _ i _ => K.length - (intOf i).toNat)
      case atStart => exact HST.out
      case round =>
        obtain ⟨m, au, cu, hm, rfl, rfl, HI⟩ := hrel
        clear HST
        by_cases hlt : m < K.length
        · have ea := HA2.out (by omega)
          subst ea
          obtain ⟨c0, c1⟩ := HI.out.2.1.leaf m hlt
          obtain ⟨X, hX⟩ : ∃ X, K[m]'hlt = X := ⟨_, rfl⟩
          rw [hX, Nat.zero_add] at c0 c1
          have hst := flL_step l2 (gtP x) K m hlt
          rw [hX] at hst
          have hle : (flL l2 (gtP x) K m).length ≤ l2.length + K.length := by simpa using flL_len l2 (gtP x) K m
          have i1 : (m : Int) < (K.length : Int) := by omega
          have i2 : (0 : Int) ≤ (m : Int) := by omega
          clear hX
          cases hk : gtP x X
          · have q : (Op.bytesLess X.n.toList x.toList || X.n.toList == x.toList) = true := le_of_notL hk
            rw [hk] at hst
            have HJ : Hid (NbS w wr (.slice au (flL l2 (gtP x) K m).length cu) (flL l2 (gtP x) K (m + 1)) (.slice (some ⟨g2, 0, none⟩) K.length c2) g2 K ∧ (flL l2 (gtP x) K m).length = (flL l2 (gtP x) K (m + 1)).length) := by rw [hst]; exact ⟨HI.out, rfl⟩
            generalize hl : flL l2 (gtP x) K m = l at *
            clear HI hst hk hl
            go_wp2
            go_roundw
            case rel => exact ⟨m + 1, au, cu, by omega, by go_num, by rw [← HJ.out.2], HJ.out.1⟩
            case measure => simp [intOf]; omega
          · have q : (Op.bytesLess X.n.toList x.toList || X.n.toList == x.toList) = false := gt_ofL hk
            rw [hk] at hst
            have HJ : Hid (flL l2 (gtP x) K (m + 1) = flL l2 (gtP x) K m ++ [X]) := hst
            generalize hl : flL l2 (gtP x) K m = l at *
            have hba : Below wr.heap.size wr (wr.alloc (.cells #[.string X.n, .string X.v] 34)) := (Below.refl _ _).alloc (Nat.le_refl _) _
            have HSA : Hid (NbS w (wr.alloc (.cells #[.string X.n, .string X.v] 34)) (.slice au l.length cu) l (.slice (some ⟨g2, 0, none⟩) K.length c2) g2 K) := HI.out.later hba
            have HRN : Hid ((wr.alloc (.cells #[.string X.n, .string X.v] 34)).rangeAt wr.heap.size 0 (lcs X)) := range_new _ [.string X.n, .string X.v] 34
            clear hba HI hst hk hl
            go_wp2_with (at_builtin; refine wp_leafL rfl _ _ rfl w.heap.size w (.slice au l.length cu) l X rfl HSA.out.1 _ rfl HRN.out (by omega) ?_)
            intro g5 cap5 w5 ho5 hg5 hl5
            have HK : Hid (NbS w w5 (.slice (some ⟨g5, 0, none⟩) (l.length + 1) cap5) (flL l2 (gtP x) K (m + 1)) (.slice (some ⟨g2, 0, none⟩) K.length c2) g2 K ∧ l.length + 1 = (flL l2 (gtP x) K (m + 1)).length) := ⟨HSA.out.app (by rw [HJ.out]; exact ho5) hg5 (by simpa using hl5), by rw [HJ.out]; simp⟩
            clear ho5 hg5 hl5 HSA HRN HJ c0 c1
            go_wp2
            go_roundw
            case rel => exact ⟨m + 1, _, _, by omega, by go_num, by rw [← HK.out.2], HK.out.1⟩
            case measure => simp [intOf]; omega
        · have hme : m = K.length := by omega
          subst hme
          have hfl : flL l2 (gtP x) K K.length = LV.put L ⟨x, y⟩ := by rw [flL_all]; exact HPW2.out
          have HI2 : Hid (OL w.heap.size w wr (.slice au (flL l2 (gtP x) K K.length).length cu) (LV.put L ⟨x, y⟩)) := by rw [← hfl]; exact HI.out.1
          rw [hfl] at HI2 ⊢
          clear HI hfl HPW2
          have h1 := sLeavesOk_any _ ga oa L wr (HV.out.1.later HI2.out.2.1) HV.out.2.1
          obtain ⟨gq, hrq, hgq, _⟩ := HI2.out.rw hPl
          have HO2 : Hid (∀ W, Below wr.heap.size wr W → Calls Tryz.prog 70 #[.slice au (LV.put L ⟨x, y⟩).length cu] W fun e w' => e = .returned (.bool (LV.leavesB (LV.put L ⟨x, y⟩))) ∧ Below W.heap.size W w') := fun W hW => sLeavesOk_any _ gq 0 _ W (hrq.1.later hW) HV.out.2.2
          have HRQ : Hid (RW 2 lcs wr (.slice au (LV.put L ⟨x, y⟩).length cu) gq (LV.put L ⟨x, y⟩) ∧ w.heap.size ≤ gq ∧ Below w.heap.size w wr) := ⟨hrq, hgq, HI2.out.2.1⟩
          have HPB : Hid (LV.putB L ⟨x, y⟩ = (LV.leavesB L && LV.leavesB (LV.put L ⟨x, y⟩))) := LV.putB_spec L ⟨x, y⟩
          have HPN : Hid (LV.putB L ⟨x, y⟩ = false → LV.putR L ⟨x, y⟩ = L) := putR_no
          have HPY : Hid (LV.putB L ⟨x, y⟩ = true → LV.putR L ⟨x, y⟩ = LV.put L ⟨x, y⟩) := putR_yes
          have HNO : Hid (∀ W v', OL w.heap.size w W v' L → LV.putB L ⟨x, y⟩ = false → LqP (LV.putR L ⟨x, y⟩) (LV.putB L ⟨x, y⟩) w (.returned (.tuple #[v', .bool false])) W) := fun W v' ho hf => by
            rw [HPN.out hf, hf]
            obtain ⟨gz, hrz, hgz, _⟩ := ho.rw (by omega)
            obtain ⟨az, cz, rfl⟩ := ho.shape
            exact ⟨az, cz, gz, rfl, hrz, hgz, ho.2.1⟩
          clear hrq hgq HI2
          generalize LV.put L ⟨x, y⟩ = M at *
          cases hR1 : LV.leavesB L
          · rw [hR1] at h1
            rw [hR1, Bool.false_and] at HPB
            go_wp2_with fail
            refine h1.mono ?_
            rintro e w6 ⟨rfl, hb6⟩
            have b6 : Below w.heap.size w w6 := HRQ.out.2.2.trans (hb6.mono HRQ.out.2.2.size)
            clear h1 hb6
            have ho6 : OL w.heap.size w (w6.alloc (.cells #[] 34)) (.slice (some ⟨w6.heap.size, 0, none⟩) 0 0) [] := OL.made _ w w6 b6 b6.size
            have hrs6 := HV.out.1.later (b6.alloc b6.size (.cells #[] 34))
            clear HO2 HRQ HPN HPY HV
            go_wp2_with (at_builtin; refine wp_rowL rfl _ _ rfl w.heap.size w w6.heap.size rfl ho6 p ga oa cap L rfl hrs6 hnil ?_)
            intro v' w7 ho7
            have HF := HNO.out w7 v' ho7 HPB.out
            have HF2 : Hid (LqP (LV.putR L ⟨x, y⟩) (LV.putB L ⟨x, y⟩) w (.returned (.tuple #[v', .bool false])) w7) := HF
            clear ho7 ho6 hrs6 HNO HF b6
            go_wp2
            go_ret2
            exact HF2.out
          · rw [hR1] at h1
            rw [hR1, Bool.true_and] at HPB
            go_wp2_with fail
            refine h1.mono ?_
            rintro e w6 ⟨rfl, hb6⟩
            clear h1
            go_wp2_with fail
            refine (HO2.out _ hb6).mono ?_
            rintro e w8 ⟨rfl, hb8⟩
            have hb9 : Below wr.heap.size wr w8 := hb6.trans (hb8.mono hb6.size)
            have b6 : Below w.heap.size w w8 := HRQ.out.2.2.trans (hb9.mono HRQ.out.2.2.size)
            cases hR2 : LV.leavesB M
            · rw [hR2] at HPB
              clear hb6 hb8 hb9
              have ho6 : OL w.heap.size w (w8.alloc (.cells #[] 34)) (.slice (some ⟨w8.heap.size, 0, none⟩) 0 0) [] := OL.made _ w w8 b6 b6.size
              have hrs6 := HV.out.1.later (b6.alloc b6.size (.cells #[] 34))
              clear HO2 HRQ HPN HPY HV
              go_wp2_with (at_builtin; refine wp_rowL rfl _ _ rfl w.heap.size w w8.heap.size rfl ho6 p ga oa cap L rfl hrs6 hnil ?_)
              intro v' w7 ho7
              have HF := HNO.out w7 v' ho7 HPB.out
              have HF2 : Hid (LqP (LV.putR L ⟨x, y⟩) (LV.putB L ⟨x, y⟩) w (.returned (.tuple #[v', .bool false])) w7) := HF
              clear ho7 ho6 hrs6 HNO HF b6
              go_wp2
              go_ret2
              exact HF2.out
            · rw [hR2] at HPB
              have HF2 : Hid (LqP (LV.putR L ⟨x, y⟩) (LV.putB L ⟨x, y⟩) w (.returned (.tuple #[.slice au M.length cu, .bool true])) w8) := by
                unfold LqP
                rw [HPY.out HPB.out, HPB.out]
                exact ⟨au, cu, gq, rfl, HRQ.out.1.later hb9, HRQ.out.2.1, b6⟩
              clear hb6 hb8 hb9 b6 HO2 HRQ HPN HPY HV HNO
              go_wp2
              go_ret2
              exact HF2.out

end Go.Proofs.YtmcejkfknbjjkaaGreatDoor
/-
  The text of leaves: the program's and the specification's answers.
-/
namespace Go.Proofs.YtmcejkfknbjjkaaGreatDoor
open Go.RowKit Go.BigFrame Go.Sort
set_option linter.unusedVariables false
set_option linter.unusedSimpArgs false

theorem OG.later {B : Nat} {w0 w w' : World} {v : Value} {l : List UInt8} (h : OG B w0 w v l) (hb : Below w.heap.size w w') : OG B w0 w' v l := by
  obtain ⟨⟨g, cap, cur, fz, hv, hB, hg, hr⟩, h2, h3⟩ := h
  exact ⟨⟨g, cap, cur, fz, hv, hB, by rw [hb.block g (Array.getElem?_eq_some_iff.1 hg).1]; exact hg, hr⟩, h2.trans (hb.mono h3), Nat.le_trans h3 hb.size⟩
theorem OG.from {B : Nat} {w0 w1 w : World} {v : Value} {l : List UInt8} (h : OG B w1 w v l) (hb : Below B w0 w1) : OG B w0 w v l := ⟨h.1, hb.trans h.2.1, h.2.2⟩
theorem OG.mono {B B' : Nat} {w0 w : World} {v : Value} {l : List UInt8} (h : OG B' w0 w v l) (hB : B ≤ B') : OG B w0 w v l := by
  obtain ⟨⟨g, cap, cur, fz, hv, hb, hg, hr⟩, h2, h3⟩ := h
  exact ⟨⟨g, cap, cur, fz, hv, by omega, hg, hr⟩, h2.mono hB, by omega⟩

/-- a string's bytes more -/
theorem OG.appStr {B : Nat} {w0 w : World} {v : Value} {l : List UInt8} (h : OG B w0 w v l) (ty : TypeId) (t : ByteArray) (hlen : l.length + t.size ≤ 1000000000) :
    ∃ v' w', (Builtin.append_ #[22, 9] ty #[v, .string t]).run Tryz.prog w = .ok v' w' ∧ OG B w0 w' v' (l ++ t.data.toList) := by
  obtain ⟨i0, hi, hz0, hz1, hz2⟩ := info_parts Tryz.info5
  have htl : t.data.toList.length = t.size := Array.length_toList
  obtain ⟨⟨g, cap, cur, fz, rfl, hb, hg, hfz, hn, hm, hcs, hcell⟩, hbel, hB⟩ := h
  by_cases hroom : l.length + t.size ≤ cap
  · have hc : ∀ j, j < t.size → (w.cell? ⟨g, l.length + j, none⟩).isSome = true := fun j hj => by
      rw [cell_of_row w g (l.length + j) cur 5 fz hg, Array.getElem?_eq_getElem (by omega)]
      rfl
    have hf : ∀ j, j < t.size → w.frozen? ⟨g, l.length + j, none⟩ = false := fun j hj => by
      obtain ⟨lo, hi2⟩ := fz
      simp only [World.frozen?, hg, Bool.and_eq_false_iff, decide_eq_false_iff_not]
      rcases hfz with h0 | h0
      · simp at h0; right; omega
      · left; simp only at h0; omega
    have hfc := Lib.run_firstCells_string (P := Tryz.prog) w 1 t
    have hst := run_storeCells_cells (P := Tryz.prog) g l.length (Lib.strCells t) 0 w (fun j hj => by rw [Lib.strCells_length] at hj; simpa using hc j hj) (fun j hj => by rw [Lib.strCells_length] at hj; simpa using hf j hj) (Lib.strCells_oneCell t)
    have hset : ∀ (vs : List Value) (o : Nat) (W : World) (c : Array Value), W.heap[g]? = some (.cells c 5 fz) → o + vs.length ≤ c.size → ∃ c', (W.setCells g o vs).heap[g]? = some (.cells c' 5 fz) ∧ c'.size = c.size ∧ (∀ j, j < o → c'[j]? = c[j]?) ∧ ∀ j (h : j < vs.length), c'[o + j]? = some vs[j] := by
      intro vs
      induction vs with
      | nil => intro o W c hW ho; exact ⟨c, hW, rfl, fun _ _ => rfl, fun j h => absurd h (by simp)⟩
      | cons x r ih =>
        intro o W c hW ho
        have hx : (W.setCell ⟨g, o, none⟩ x).heap[g]? = some (.cells (c.setIfInBounds o x) 5 fz) := by
          have := setCell_eq_setRow W g o c 5 fz x hW
          rw [this]
          exact setRow_heap W g c _ 5 _ hW
        simp only [List.length_cons] at ho
        obtain ⟨c', h1, h2, h3, h4⟩ := ih (o + 1) (W.setCell ⟨g, o, none⟩ x) _ hx (by simp; omega)
        refine ⟨c', h1, by simpa using h2, fun j hj => ?_, fun j hj => ?_⟩
        · rw [h3 j (by omega), Array.getElem?_setIfInBounds, if_neg (by omega)]
        · match j, hj with
          | 0, _ => rw [Nat.add_zero, h3 o (by omega)]; simp [show o < c.size by omega]
          | j + 1, hj =>
            have := h4 j (by simpa using hj)
            rw [show o + 1 + j = o + (j + 1) by omega] at this
            rw [this]
            rfl
    obtain ⟨c', h1, h2, h3, h4⟩ := hset (Lib.strCells t) l.length w cur hg (by rw [Lib.strCells_length]; omega)
    refine ⟨.slice (some ⟨g, 0, none⟩) (l.length + t.size) cap, w.setCells g l.length (Lib.strCells t), ?_, ⟨g, cap, c', fz, by simp [htl], hb, h1, hfz, by simp [htl]; omega, hm, by omega, ?_⟩, below_setCells hb _ _ _ hbel, by rw [size_setCells]; exact hB⟩
    · have hadd : (⟨g, 0, none⟩ : Addr).add l.length = ⟨g, l.length, none⟩ := by unfold Addr.add; split <;> simp_all
      simp only [Nat.add_zero] at hst
      simp [Builtin.append_, run_underlying Tryz.underlying22, run_underlying Tryz.underlying9, sizeOf, typeInfo, hi, hz1, Builtin.lenOf, hroom, hfc, hadd, hst]
    · intro j hj
      by_cases he : j < l.length
      · rw [h3 j he, hcell j he, List.getElem_append_left he]
      · obtain ⟨k, rfl⟩ : ∃ k, j = l.length + k := ⟨j - l.length, by omega⟩
        have hk : k < (Lib.strCells t).length := by rw [Lib.strCells_length]; simp [htl] at hj; omega
        rw [h4 k hk, List.getElem_append_right (by omega)]
        simp [Lib.strCells]
  · have hxs : ∀ j u, (bv l)[j]? = some u → w.cell? ((⟨g, 0, none⟩ : Addr).add j) = some u := by
      intro j u hj
      obtain ⟨hj', rfl⟩ := bv_get _ _ _ hj
      have hadd : (⟨g, 0, none⟩ : Addr).add j = ⟨g, j, none⟩ := by unfold Addr.add; split <;> simp_all
      rw [hadd, cell_of_row w g j cur 5 fz hg]
      exact hcell j hj'
    have hr := Lib.run_append_grow_string (P := Tryz.prog) w 22 9 ty 5 i0 (.int .u8 0) Tryz.underlying22 Tryz.underlying9 hi hz0 ⟨g, 0, none⟩ l.length cap (bv l) (by rw [hz1]; simp [bv]) hxs t (by omega) (by omega) (growslice_fits (by omega) (by rw [hz2]; omega))
    have hge := grownCap_ge w (l.length + t.size) cap 5
    have hcm := grownCap_le_maxLen w (l.length + t.size) cap 5 (by unfold maxLen; omega)
    refine ⟨_, _, hr, ⟨w.heap.size, _, _, (0, 0), by simp [htl], by omega, heap_alloc_new w.drew _, .inl rfl, by simp [htl]; omega, hcm, ?_, ?_⟩, (hbel.drew).alloc hB _, by simp; omega⟩
    · have hz : (Value.int IntKind.u8 0).cells.size = 1 := rfl
      simp only [Array.size_append, List.size_toArray, size_zeroCells, hz, bv_length, Lib.strCells_length]
      omega
    · intro j hj
      have hj2 : j < l.length + t.size := by simpa [htl] using hj
      rw [Array.getElem?_append_left (by simp [bv, Lib.strCells_length]; omega)]
      by_cases he : j < l.length
      · rw [Array.getElem?_append_left (by simp [bv]; omega)]
        simp [bv, he, List.getElem_append_left]
      · rw [Array.getElem?_append_right (by simp [bv]; omega)]
        have : j - l.length < t.size := by omega
        simp [bv, Lib.strCells, List.getElem_append_right, Nat.le_of_not_lt he, List.getElem?_eq_getElem (show j - l.length < t.data.toList.length by omega)]

theorem wp_appGS {w : World} {ops : Array Oper} {rest : List Oper} {o : Oper} {a : Act} {Q : Exit → Act → World → Prop} (hgd : o.guard = none) (s x : Operand)
    (ho : o.op = .call { callee := .builtin .append, args := #[s, x], argTypes := #[22, 9] })
    (B : Nat) (w0 : World) (v : Value) (l : List UInt8) (hs : a.eval s = v) (hown : OG B w0 w v l) (t : ByteArray) (hx : a.eval x = .string t) (hlen : l.length + t.size ≤ 1000000000)
    (h : ∀ v' w', OG B w0 w' v' (l ++ t.data.toList) → wpList Tryz.prog ops Q rest (a.put o.dst v') w') : wpList Tryz.prog ops Q (o :: rest) a w := by
  refine wpList_plain hgd fun K hK => ?_
  obtain ⟨v', w', hr, h2⟩ := hown.appStr o.type t hlen
  unfold Oper.wp
  simp [execOp, ho, resolve, invoke, builtin, hs, hx, hr, Result.andThen]
  exact hK _ _ (h v' w' h2)

/-- the text of the first m leaves, behind how many there are -/
def lvP (L : List Le) (m : Nat) : List UInt8 := M.varL L.length ++ LV.ltL (L.take m)
theorem lvP_zero (L : List Le) : lvP L 0 = M.varL L.length := by simp [lvP, LV.ltL]
theorem lvP_all (L : List Le) : lvP L L.length = LV.lvL L := by simp [lvP, LV.lvL]
theorem lvP_step {L : List Le} {m : Nat} (h : m < L.length) : lvP L (m + 1) = lvP L m ++ LV.leL L[m] := by
  unfold lvP
  rw [List.take_succ_eq_append_getElem h, LV.ltL_snoc, List.append_assoc]
theorem lvP_len {L : List Le} (h : LV.LOk L) (m : Nat) : (lvP L m).length ≤ 1100 := by
  have h1 := M.varL_len L.length
  have h2 := LV.ltL_len (L := L.take m) (fun f hf => h.2.1 f (List.mem_of_mem_take hf))
  have h3 := h.1
  have h4 : (L.take m).length ≤ 24 := by simp; omega
  simp only [lvP, List.length_append]
  omega

def LtR (L : List Le) (w : World) (v i : Value) (wr : World) : Prop := ∃ m : Nat, m ≤ L.length ∧ i = .int .i64 m ∧ OG w.heap.size w wr v (lvP L m)

noncomputable def lvT (L : List Le) : ByteArray := if LV.leavesB L then ⟨(LV.lvL L).toArray⟩ else ⟨#[]⟩
theorem lvT_yes {L : List Le} (h : LV.leavesB L = true) : lvT L = ⟨(LV.lvL L).toArray⟩ := if_pos h
theorem lvT_no {L : List Le} (h : LV.leavesB L = false) : lvT L = ⟨#[]⟩ := if_neg (by rw [h]; simp)

/-- the text so far -/
def lvQ (L : List Le) (m : Nat) : ByteArray := ⟨(lvP L m).toArray⟩
theorem lvQ_zero (L : List Le) : lvQ L 0 = ⟨(M.varL L.length).toArray⟩ := by unfold lvQ; rw [lvP_zero]
theorem lvQ_step {L : List Le} {m : Nat} (h : m < L.length) : lvQ L (m + 1) = lvQ L m ++ ⟨(M.varL (L[m]).n.size).toArray⟩ ++ (L[m]).n ++ ⟨(M.varL (L[m]).v.size).toArray⟩ ++ (L[m]).v := by
  refine ByteArray.ext (Array.toList_inj.1 ?_)
  unfold lvQ
  rw [lvP_step h]
  simp [ByteArray.data_append, LV.leL]
theorem lvQ_size {L : List Le} (h : LV.LOk L) (m : Nat) : (lvQ L m).size ≤ 1100 := by
  have := lvP_len h m
  unfold lvQ
  show (lvP L m).toArray.size ≤ 1100
  simpa using this

def LqR (L : List Le) (w : World) (s i : Value) (wr : World) : Prop := ∃ m : Nat, m ≤ L.length ∧ i = .int .i64 m ∧ s = .string (lvQ L m) ∧ Below w.heap.size w wr

set_option maxRecDepth 100000 in
set_option maxHeartbeats 1000000 in
theorem l09Text_any (v : Value) (ga oa : Nat) (L : List Le) (w : World) (hv : RS 2 lcs w v ga oa L) (hok : LV.LOk L) :
    Calls Tryz.prog 146 #[v] w fun e w' => e = .returned (.string ⟨(LV.lvL L).toArray⟩) ∧ Below w.heap.size w w' := by
  have HVV : Hid (RS 2 lcs w v ga oa L) := hv
  obtain ⟨a, cap, rfl, hl, hA, hc⟩ := hv
  obtain ⟨n, hn⟩ : ∃ n, L.length = n := ⟨_, rfl⟩
  have HA : Hid (0 < n → a = some ⟨ga, oa, none⟩) := by rw [← hn]; exact fun h => (hA h).1
  obtain ⟨T, hT⟩ : ∃ T, (⟨(LV.lvL L).toArray⟩ : ByteArray) = T := ⟨_, rfl⟩
  have HT : Hid (lvQ L L.length = T) := by rw [← hT]; unfold lvQ; rw [lvP_all]; rfl
  have HL : Hid (LV.LOk L) := hok
  have h24 := hok.1
  have HST : Hid (∀ W, Below w.heap.size w W → LqR L w (.string ⟨(M.varL n).toArray⟩) (.int .i64 0) W) := fun W hW => ⟨0, by omega, rfl, by rw [lvQ_zero, hn], hW⟩
  rw [hT]
  rw [hn] at h24 hl ⊢
  clear hT hok hc hA
  go_enter Tryz.func146, Tryz.ntmps146
  go_wp2_with fail
  refine (l01Var_any n _ (by omega)).mono ?_
  rintro e w1 ⟨rfl, hb1⟩
  have HS1 : Hid (LqR L w (.string ⟨(M.varL n).toArray⟩) (.int .i64 0) w1) := HST.out w1 hb1
  generalize (⟨(M.varL n).toArray⟩ : ByteArray) = V at *
  clear HST hb1
  go_wp2
  go_loopw [3, 4] (fun s i wr => LqR L w s i wr) (fun _ i _ => n - (intOf i).toNat)
  case atStart => exact HS1.out
  case round =>
    obtain ⟨m, hm, rfl, rfl, hbel⟩ := hrel
    rw [hn] at hm
    clear HS1
    by_cases hlt : m < n
    · have ea := HA.out (by omega)
      subst ea
      obtain ⟨c0, c1⟩ := (HVV.out.later hbel).leaf m (by omega)
      have i1 : (m : Int) < (n : Int) := by omega
      have i2 : (0 : Int) ≤ (m : Int) := by omega
      have hst := lvQ_step (L := L) (m := m) (by omega)
      have hs0 := lvQ_size HL.out m
      have hs1 := lvQ_size HL.out (m + 1)
      obtain ⟨X, hX⟩ : ∃ X, L[m]'(by omega) = X := ⟨_, rfl⟩
      rw [hX] at c0 c1 hst
      have hxs := LV.leB_sizes (HL.out.2.1 X (by rw [← hX]; exact List.getElem_mem _))
      have HN : Hid (lvQ L (m + 1) = lvQ L m ++ ⟨(M.varL X.n.size).toArray⟩ ++ X.n ++ ⟨(M.varL X.v.size).toArray⟩ ++ X.v) := hst
      have hva := varA_size X.n.size
      have hvb := varA_size X.v.size
      have HM0 : Hid (∀ W, Calls Tryz.prog 106 #[.int .i64 (X.n.size : Int)] W fun e w' => e = .returned (.string ⟨(M.varL X.n.size).toArray⟩) ∧ Below W.heap.size W w') := fun W => l01Var_any _ W (by omega)
      have HM1 : Hid (∀ W, Calls Tryz.prog 106 #[.int .i64 (X.v.size : Int)] W fun e w' => e = .returned (.string ⟨(M.varL X.v.size).toArray⟩) ∧ Below W.heap.size W w') := fun W => l01Var_any _ W (by omega)
      have HBL : Hid (Below w.heap.size w wr) := hbel
      clear HVV HA HL hX HT hst hs1
      have q1 : ¬ (9223372036854775807 : Nat) < (lvQ L m).size + (⟨(M.varL X.n.size).toArray⟩ : ByteArray).size := by omega
      have q2 : ¬ (9223372036854775807 : Nat) < (lvQ L m ++ ⟨(M.varL X.n.size).toArray⟩).size + X.n.size := by rw [ByteArray.size_append]; omega
      have q3 : ¬ (9223372036854775807 : Nat) < (lvQ L m ++ ⟨(M.varL X.n.size).toArray⟩ ++ X.n).size + (⟨(M.varL X.v.size).toArray⟩ : ByteArray).size := by rw [ByteArray.size_append, ByteArray.size_append]; omega
      have q4 : ¬ (9223372036854775807 : Nat) < (lvQ L m ++ ⟨(M.varL X.n.size).toArray⟩ ++ X.n ++ ⟨(M.varL X.v.size).toArray⟩).size + X.v.size := by rw [ByteArray.size_append, ByteArray.size_append, ByteArray.size_append]; omega
      generalize (⟨(M.varL X.n.size).toArray⟩ : ByteArray) = Y at *
      generalize (⟨(M.varL X.v.size).toArray⟩ : ByteArray) = Z at *
      generalize hP : lvQ L m = P at *
      clear hbel hva hvb
      go_wp2
      have kq0 := cell_regrown (w := wr) c0
      have kq1 := cell_regrown (w := wr) c1
      have cq0 := fun d os => Calls.regrown_of (w := wr) (d := d) (os := os) (HM0.out _)
      have cq1 := fun d os => Calls.regrown_of (w := wr) (d := d) (os := os) (HM1.out _)
      refine wp_region_quiet_below (by kernel_rfl) (by kernel_rfl) ?_
      repeat (go_big_quiet_step (first | with_reducible exact cq0 _ _ | with_reducible exact cq1 _ _))
      refine wpQuiet_nil ?_
      rintro _ ⟨⟨dq, osq⟩, rfl⟩
      have hb6 := below_regrown wr dq osq
      generalize grow (redrawn wr dq) osq = w6 at *
      clear kq0 kq1 cq0 cq1
      have hb7 := HBL.out.trans (hb6.mono HBL.out.size)
      go_wp2
      go_roundw
      case rel => exact ⟨m + 1, by omega, by go_num, by rw [HN.out], hb7⟩
      case measure => simp [intOf]; omega
    · have hme : m = n := by omega
      have e2 : lvQ L m = T := by rw [hme, ← hn]; exact HT.out
      rw [e2]
      subst hme
      clear HVV HA HL HT e2
      go_wp2
      go_ret
      exact ⟨rfl, hbel⟩

theorem sLeavesText_any (v : Value) (ga oa : Nat) (L : List Le) (w : World) (hv : RS 2 lcs w v ga oa L) (hsm : SmallL L) :
    Calls Tryz.prog 105 #[v] w fun e w' => e = .returned (.tuple #[.string (lvT L), .bool (LV.leavesB L)]) ∧ Below w.heap.size w w' := by
  have HOK := sLeavesOk_any v ga oa L w hv hsm
  have HVV : Hid (RS 2 lcs w v ga oa L) := hv
  obtain ⟨a, cap, rfl, hl, hA, hc⟩ := hv
  cases hR : LV.leavesB L
  · rw [lvT_no hR]
    rw [hR] at HOK
    clear hc hA HVV
    go_enter Tryz.func105, Tryz.ntmps105
    go_wp2_with fail
    refine HOK.mono ?_
    rintro e w1 ⟨rfl, hb1⟩
    go_wp2
    go_ret2
    exact ⟨rfl, hb1⟩
  · have HT : Hid (∀ W, Below w.heap.size w W → Calls Tryz.prog 146 #[.slice a L.length cap] W fun e w' => e = .returned (.string (lvT L)) ∧ Below W.heap.size W w') := fun W hW => by rw [lvT_yes hR]; exact l09Text_any _ ga oa L W (HVV.out.later hW) (LV.leavesB_iff.1 hR)
    rw [hR] at HOK
    generalize lvT L = T at *
    clear hc hA HVV
    go_enter Tryz.func105, Tryz.ntmps105
    go_wp2_with fail
    refine HOK.mono ?_
    rintro e w1 ⟨rfl, hb1⟩
    go_wp2_with fail
    refine (HT.out _ hb1).mono ?_
    rintro e w2 ⟨rfl, hb2⟩
    have b2 := hb1.trans (hb2.mono hb1.size)
    go_wp2
    go_ret2
    exact ⟨rfl, b2⟩

end Go.Proofs.YtmcejkfknbjjkaaGreatDoor
/-
  Leaves read of a text: the program's answers.
-/
namespace Go.Proofs.YtmcejkfknbjjkaaGreatDoor
open Go.RowKit Go.BigFrame Go.Sort
set_option linter.unusedVariables false
set_option linter.unusedSimpArgs false

namespace LV
theorem shortAt_none {s : ByteArray} {p : Nat} (h : M.readVar s.data.toList p = none) : shortAt s p = none := by unfold shortAt; rw [h]
theorem shortAt_no {s : ByteArray} {p n q : Nat} (h : M.readVar s.data.toList p = some (n, q)) (hn : ¬ (n ≤ 20000 ∧ q + n ≤ s.size)) : shortAt s p = none := by
  unfold shortAt
  rw [h]
  exact if_neg hn
theorem shortAt_yes {s : ByteArray} {p n q : Nat} (h : M.readVar s.data.toList p = some (n, q)) (hn : n ≤ 20000 ∧ q + n ≤ s.size) : shortAt s p = some (piece s q n, q + n) := by
  unfold shortAt
  rw [h]
  exact if_pos hn
theorem shortAt_size {s : ByteArray} {p q : Nat} {t : ByteArray} (h : shortAt s p = some (t, q)) : t.size ≤ s.size := by
  unfold shortAt at h
  cases hv : M.readVar s.data.toList p with
  | none => rw [hv] at h; simp at h
  | some x =>
    obtain ⟨n, b⟩ := x
    rw [hv] at h
    simp only at h
    split at h
    · simp only [Option.some.injEq, Prod.mk.injEq] at h
      rw [← h.1]
      exact piece_size s b n
    · simp at h
theorem leafAt_size {s : ByteArray} {p q : Nat} {f : Le} (h : leafAt s p = some (f, q)) : f.n.size ≤ s.size ∧ f.v.size ≤ s.size := by
  unfold leafAt at h
  cases h1 : shortAt s p with
  | none => rw [h1] at h; simp at h
  | some x =>
    obtain ⟨n, b⟩ := x
    rw [h1] at h
    simp only at h
    cases h2 : shortAt s b with
    | none => rw [h2] at h; simp at h
    | some y =>
      obtain ⟨v, r⟩ := y
      rw [h2] at h
      simp only [Option.some.injEq, Prod.mk.injEq] at h
      rw [← h.1]
      exact ⟨shortAt_size h1, shortAt_size h2⟩
theorem leavesF_size {s : ByteArray} : ∀ {k p q : Nat} {l : List Le}, leavesF s k p = some (l, q) → ∀ f ∈ l, f.n.size ≤ s.size ∧ f.v.size ≤ s.size
  | 0, p, q, l, h, f, hf => by
    simp only [leavesF, Option.some.injEq, Prod.mk.injEq] at h
    rw [← h.1] at hf
    cases hf
  | k + 1, p, q, l, h, f, hf => by
    rw [leavesF] at h
    cases h1 : leafAt s p with
    | none => rw [h1] at h; simp at h
    | some x =>
      obtain ⟨g, b⟩ := x
      rw [h1] at h
      simp only at h
      cases h2 : leavesF s k b with
      | none => rw [h2] at h; simp at h
      | some y =>
        obtain ⟨m, r⟩ := y
        rw [h2] at h
        simp only [Option.some.injEq, Prod.mk.injEq] at h
        rw [← h.1] at hf
        rcases List.mem_cons.1 hf with rfl | hf
        · exact leafAt_size h1
        · exact leavesF_size h2 f hf
/-- what stands at a place as leaves, whether right or not -/
def rawL (s : ByteArray) (p : Nat) : Option (List Le × Nat) :=
  match M.readVar s.data.toList p with
  | none => none
  | some (n, q) => if 24 < n then none else leavesF s n q
theorem rawL_none {s : ByteArray} {p : Nat} (h : M.readVar s.data.toList p = none) : rawL s p = none := by unfold rawL; rw [h]
theorem rawL_great {s : ByteArray} {p n q : Nat} (h : M.readVar s.data.toList p = some (n, q)) (hn : 24 < n) : rawL s p = none := by
  unfold rawL
  rw [h]
  exact if_pos hn
theorem rawL_at {s : ByteArray} {p n q : Nat} (h : M.readVar s.data.toList p = some (n, q)) (hn : ¬ 24 < n) : rawL s p = leavesF s n q := by
  unfold rawL
  rw [h]
  exact if_neg hn
/-- the right leaves that a text tells -/
noncomputable def rdB (s : ByteArray) : Bool :=
  match rawL s 0 with
  | none => false
  | some (l, e) => decide (e = s.size) && leavesB l
noncomputable def rdL (s : ByteArray) : List Le :=
  match rawL s 0 with
  | none => []
  | some (l, e) => if decide (e = s.size) && leavesB l then l else []
end LV

/-- a short text that is read, or why not -/
theorem ReadShort_at (s : ByteArray) (x : Int) (p : Nat) (w : World) (hx : x = (p : Int)) (hs : s.size ≤ 1048576) (hp : p ≤ s.size) :
    Calls Tryz.prog 169 #[.string s, .int .i64 x] w fun e w' => (match LV.shortAt s p with
      | none => e = .returned (.tuple #[.string ⟨#[]⟩, .int .i64 0, .bool false])
      | some (t, q) => e = .returned (.tuple #[.string t, .int .i64 (q : Int), .bool true])) ∧ Below w.heap.size w w' := by
  subst hx
  cases hr : M.readVar s.data.toList p with
  | none =>
    rw [LV.shortAt_none hr]
    exact ReadShort_none s p w hs (.inr ⟨by omega, by simpa using hr⟩)
  | some y =>
    obtain ⟨n, q⟩ := y
    obtain ⟨hq, hN⟩ := read_bound s p n q hr
    by_cases hn : n ≤ 20000 ∧ q + n ≤ s.size
    · rw [LV.shortAt_yes hr hn]
      have h := ReadShort_yes s p n q w hs (show 0 ≤ (p : Int) ∧ (p : Int) ≤ (s.size : Int) from by omega) (show M.readVar s.data.toList (p : Int).toNat = some (n, q) from by simpa using hr) hn.1 hn.2
      have e : ((q + n : Nat) : Int) = (q : Int) + (n : Int) := by omega
      simp only [e]
      exact h
    · rw [LV.shortAt_no hr hn]
      exact ReadShort_no s p n q w hs (show 0 ≤ (p : Int) ∧ (p : Int) ≤ (s.size : Int) from by omega) (show M.readVar s.data.toList (p : Int).toNat = some (n, q) from by simpa using hr) hq hN hn

/-- what readLeaf answers -/
def RlP (s : ByteArray) (p : Nat) (e : Ending) : Prop := match LV.leafAt s p with
  | none => ∃ a b, e = .returned (.tuple #[.agg #[.string a, .string b], .int .i64 0, .bool false])
  | some (f, q) => e = .returned (.tuple #[.agg #[.string f.n, .string f.v], .int .i64 (q : Int), .bool true])

section
variable {fn : Func} {Rp : Ending → World → Prop} {a : Act} {w : World}
/-- a record answered out of its block, and two things beside it -/
theorem ret_rec3 (c s t g T : Nat) (cs : List Value) (b d : Value) (td : TypeDesc) (hres : fn.results = #[.cell c T, .tmp s, .tmp t]) (hd : a.defers = []) (hp : a.tmps.getD c undef = .pointer (some ⟨g, 0, none⟩)) (hb : a.tmps.getD s undef = b) (hdd : a.tmps.getD t undef = d)
    (hu : Tryz.prog.underlying T = some td) (hrow : td.isRow = true) (hi : (Tryz.prog.info? T).map (·.size) = some cs.length) (hA : w.rangeAt g 0 cs) (h : Rp (.returned (.tuple #[.agg cs.toArray, b, d])) w) : bodyPost Tryz.prog fn Rp .ret a w := by
  have hr := run_loadVar_mid (P := Tryz.prog) w g 0 T cs td hA hu hrow hi
  refine bodyPost_ret (v := .tuple #[.agg cs.toArray, b, d]) ?_ hd h
  have hp' : a.tmps[c]?.getD undef = .pointer (some ⟨g, 0, none⟩) := by simpa using hp
  have hb' : a.tmps[s]?.getD undef = b := by simpa using hb
  have hd' : a.tmps[t]?.getD undef = d := by simpa using hdd
  simp [results, hres, asAddr, hr, hp', hb', hd']
end

/-- the box of a leaf -/
def BL (W : World) (p : Nat) (a b : ByteArray) : Prop := W.heap[p]? = some (.cells #[.string a, .string b] 34 (0, 0))
theorem BL.new (w : World) (a b : ByteArray) : BL (w.alloc (.cells #[.string a, .string b] 34)) w.heap.size a b := Go.heap_alloc_new w _
theorem BL.later {W W' : World} {p : Nat} {a b : ByteArray} (h : BL W p a b) (hb : Below W.heap.size W W') : BL W' p a b := (hb.block p (Array.getElem?_eq_some_iff.1 h).1).trans h
theorem BL.c0 {W : World} {p : Nat} {a b : ByteArray} (h : BL W p a b) : W.cell? ⟨p, 0, none⟩ = some (.string a) := by rw [cell_of_row W p 0 _ _ _ h]; rfl
theorem BL.c1 {W : World} {p : Nat} {a b : ByteArray} (h : BL W p a b) : W.cell? ⟨p, 1, none⟩ = some (.string b) := by rw [cell_of_row W p 1 _ _ _ h]; rfl
theorem BL.f0 {W : World} {p : Nat} {a b : ByteArray} (h : BL W p a b) : W.frozen? ⟨p, 0, none⟩ = false := by simp [World.frozen?, show W.heap[p]? = _ from h]
theorem BL.f1 {W : World} {p : Nat} {a b : ByteArray} (h : BL W p a b) : W.frozen? ⟨p, 1, none⟩ = false := by simp [World.frozen?, show W.heap[p]? = _ from h]
theorem BL.range {W : World} {p : Nat} {a b : ByteArray} (h : BL W p a b) : W.rangeAt p 0 [.string a, .string b] := range2 h.c0 h.c1
theorem BL.there {W : World} {p : Nat} {a b : ByteArray} (h : BL W p a b) : W.there p 0 2 := fun j hj => by
  match j, hj with
  | 0, _ => exact ⟨by rw [h.c0]; rfl, h.f0⟩
  | 1, _ => exact ⟨by rw [h.c1]; rfl, h.f1⟩
/-- .. and what is written into it whole -/
theorem BL.put {W : World} {p : Nat} {a b : ByteArray} (h : BL W p a b) (x y : ByteArray) : (W.setCells p 0 [.string x, .string y]).rangeAt p 0 [.string x, .string y] := World.rangeAt_setCells_same _ _ _ _ h.there
theorem BL.set0 {W : World} {p : Nat} {a b : ByteArray} (h : BL W p a b) (x : ByteArray) : BL (W.setCell ⟨p, 0, none⟩ (.string x)) p x b := heap_setCell_same W p 0 _ _ _ h
theorem BL.set1 {W : World} {p : Nat} {a b : ByteArray} (h : BL W p a b) (x : ByteArray) : BL (W.setCell ⟨p, 1, none⟩ (.string x)) p a x := heap_setCell_same W p 1 _ _ _ h

set_option maxRecDepth 100000 in
set_option maxHeartbeats 1000000 in
theorem readLeaf_at (s : ByteArray) (x : Int) (p : Nat) (w : World) (hx : x = (p : Int)) (hs : s.size ≤ 1048576) (hp : p ≤ s.size) :
    Calls Tryz.prog 147 #[.string s, .int .i64 x] w fun e w' => RlP s p e ∧ Below w.heap.size w w' := by
  have h1 := fun W => ReadShort_at s x p W hx hs hp
  have HB0 : Hid (Below w.heap.size w (w.alloc (.cells #[.string ⟨#[]⟩, .string ⟨#[]⟩] 34)) ∧ BL (w.alloc (.cells #[.string ⟨#[]⟩, .string ⟨#[]⟩] 34)) w.heap.size ⟨#[]⟩ ⟨#[]⟩) := ⟨(Below.refl _ _).alloc (Nat.le_refl _) _, BL.new _ _ _⟩
  cases hq : LV.shortAt s p with
  | none =>
    have hl : LV.leafAt s p = none := by unfold LV.leafAt; rw [hq]
    have HL : Hid (RlP s p (.returned (.tuple #[.agg #[.string ⟨#[]⟩, .string ⟨#[]⟩], .int .i64 0, .bool false]))) := by unfold RlP; rw [hl]; exact ⟨_, _, rfl⟩
    simp only [hq] at h1
    clear hl hx
    go_enter Tryz.func147, Tryz.ntmps147
    go_wp2_with fail
    refine (h1 _).mono ?_
    rintro e w1 ⟨rfl, hb1⟩
    have hbl := HB0.out.2.later hb1
    have b1 := HB0.out.1.trans (hb1.mono HB0.out.1.size)
    have c0 := hbl.c0
    have c1 := hbl.c1
    have f0 := hbl.f0
    have f1 := hbl.f1
    have HF : Hid ((w1.setCells w.heap.size 0 [.string ⟨#[]⟩, .string ⟨#[]⟩]).rangeAt w.heap.size 0 [.string ⟨#[]⟩, .string ⟨#[]⟩] ∧ Below w.heap.size w (w1.setCells w.heap.size 0 [.string ⟨#[]⟩, .string ⟨#[]⟩])) := ⟨hbl.put _ _, below_setCells (Nat.le_refl _) _ _ _ b1⟩
    clear hb1 h1 hbl
    go_wp2
    exact ret_rec3 4 5 6 w.heap.size 34 [.string ⟨#[]⟩, .string ⟨#[]⟩] _ _ _ rfl rfl rfl rfl rfl Tryz.underlying34 rfl sizeLeaf HF.out.1 ⟨HL.out, HF.out.2⟩
  | some y =>
    obtain ⟨a, q⟩ := y
    obtain ⟨hpq, hqs, _⟩ := LV.shortAt_some hp hq
    have h2 := fun W => ReadShort_at s q q W rfl hs hqs
    simp only [hq] at h1
    cases hr : LV.shortAt s q with
    | none =>
      have hl : LV.leafAt s p = none := by unfold LV.leafAt; rw [hq]; simp only; rw [hr]
      have HL : Hid (RlP s p (.returned (.tuple #[.agg #[.string a, .string ⟨#[]⟩], .int .i64 0, .bool false]))) := by unfold RlP; rw [hl]; exact ⟨_, _, rfl⟩
      simp only [hr] at h2
      clear hl hx
      go_enter Tryz.func147, Tryz.ntmps147
      go_wp2_with fail
      refine (h1 _).mono ?_
      rintro e w1 ⟨rfl, hb1⟩
      have HB1 : Hid (Below w.heap.size w w1 ∧ BL w1 w.heap.size ⟨#[]⟩ ⟨#[]⟩) := ⟨HB0.out.1.trans (hb1.mono HB0.out.1.size), HB0.out.2.later hb1⟩
      clear hb1 h1 HB0
      go_wp2_with fail
      refine (h2 _).mono ?_
      rintro e w2 ⟨rfl, hb2⟩
      have hbl := HB1.out.2.later hb2
      have b1 := HB1.out.1.trans (hb2.mono HB1.out.1.size)
      have c0 := hbl.c0
      have c1 := hbl.c1
      have f0 := hbl.f0
      have f1 := hbl.f1
      have HF : Hid ((w2.setCells w.heap.size 0 [.string a, .string ⟨#[]⟩]).rangeAt w.heap.size 0 [.string a, .string ⟨#[]⟩] ∧ Below w.heap.size w (w2.setCells w.heap.size 0 [.string a, .string ⟨#[]⟩])) := ⟨hbl.put _ _, below_setCells (Nat.le_refl _) _ _ _ b1⟩
      clear hb2 h2 HB1 hbl
      go_wp2
      exact ret_rec3 4 5 6 w.heap.size 34 [.string a, .string ⟨#[]⟩] _ _ _ rfl rfl rfl rfl rfl Tryz.underlying34 rfl sizeLeaf HF.out.1 ⟨HL.out, HF.out.2⟩
    | some z =>
      obtain ⟨b, r⟩ := z
      have hl : LV.leafAt s p = some (⟨a, b⟩, r) := by unfold LV.leafAt; rw [hq]; simp only; rw [hr]
      have HL : Hid (RlP s p (.returned (.tuple #[.agg #[.string a, .string b], .int .i64 (r : Int), .bool true]))) := by unfold RlP; rw [hl]; rfl
      simp only [hr] at h2
      clear hl hx
      go_enter Tryz.func147, Tryz.ntmps147
      go_wp2_with fail
      refine (h1 _).mono ?_
      rintro e w1 ⟨rfl, hb1⟩
      have HB1 : Hid (Below w.heap.size w w1 ∧ BL w1 w.heap.size ⟨#[]⟩ ⟨#[]⟩) := ⟨HB0.out.1.trans (hb1.mono HB0.out.1.size), HB0.out.2.later hb1⟩
      clear hb1 h1 HB0
      go_wp2_with fail
      refine (h2 _).mono ?_
      rintro e w2 ⟨rfl, hb2⟩
      have hbl := HB1.out.2.later hb2
      have b1 := HB1.out.1.trans (hb2.mono HB1.out.1.size)
      have c0 := hbl.c0
      have c1 := hbl.c1
      have f0 := hbl.f0
      have f1 := hbl.f1
      have HF : Hid ((w2.setCells w.heap.size 0 [.string a, .string b]).rangeAt w.heap.size 0 [.string a, .string b] ∧ Below w.heap.size w (w2.setCells w.heap.size 0 [.string a, .string b])) := ⟨hbl.put _ _, below_setCells (Nat.le_refl _) _ _ _ b1⟩
      clear hb2 h2 HB1 hbl
      go_wp2
      exact ret_rec3 4 5 6 w.heap.size 34 [.string a, .string b] _ _ _ rfl rfl rfl rfl rfl Tryz.underlying34 rfl sizeLeaf HF.out.1 ⟨HL.out, HF.out.2⟩

/-- what readLeaves answers -/
def RvP (s : ByteArray) (p : Nat) (w : World) (e : Ending) (w' : World) : Prop := match LV.rawL s p with
  | none => e = .returned (.tuple #[.slice none 0 0, .int .i64 0, .bool false])
  | some (l, q) => ∃ g, e = .returned (.tuple #[.slice (some ⟨g, 0, none⟩) l.length l.length, .int .i64 (q : Int), .bool (LV.leavesB l)]) ∧ w.heap.size ≤ g ∧ RW 2 lcs w' (.slice (some ⟨g, 0, none⟩) l.length l.length) g l

/-- the first m leaves of the row that is made are read, and the place is behind them -/
def RvR (s : ByteArray) (n p : Nat) (w : World) (x i : Value) (wr : World) : Prop := ∃ (m q : Nat) (l : List Le), m ≤ n ∧ i = .int .i64 m ∧ x = .int .i64 (q : Int) ∧ q ≤ s.size ∧
  Hid (LV.leavesF s m p = some (l, q) ∧ (∀ j (h : j < l.length), wr.rangeAt w.heap.size (j * 2) (lcs l[j])) ∧ (∀ j, j < n → wr.there w.heap.size (j * 2) 2) ∧ Below w.heap.size w wr ∧ w.heap.size < wr.heap.size)

theorem leavesF_more {s : ByteArray} {m p q r : Nat} {l : List Le} {f : Le} (h : LV.leavesF s m p = some (l, q)) (hf : LV.leafAt s q = some (f, r)) : LV.leavesF s (m + 1) p = some (l ++ [f], r) := by
  rw [LV.leavesF_snoc, h]
  simp only
  rw [hf]
theorem leavesF_ends {s : ByteArray} {m p q : Nat} {l : List Le} (h : LV.leavesF s m p = some (l, q)) (hf : LV.leafAt s q = none) : LV.leavesF s (m + 1) p = none := by
  rw [LV.leavesF_snoc, h]
  simp only
  rw [hf]

set_option maxRecDepth 100000 in
set_option maxHeartbeats 1000000 in
theorem readLeaves_at (s : ByteArray) (x : Int) (p : Nat) (w : World) (hx : x = (p : Int)) (hs : s.size ≤ 1048576) (hp : p ≤ s.size) :
    Calls Tryz.prog 108 #[.string s, .int .i64 x] w fun e w' => RvP s p w e w' ∧ Below w.heap.size w w' := by
  subst hx
  cases hr : M.readVar s.data.toList p with
  | none =>
    have HL : Hid (∀ W, RvP s p w (.returned (.tuple #[.slice none 0 0, .int .i64 0, .bool false])) W) := fun W => by unfold RvP; rw [LV.rawL_none hr]
    have h1 := fun W => ReadVar_none s (p : Int) W hs (.inr ⟨by omega, by simpa using hr⟩)
    clear hr
    go_enter Tryz.func108, Tryz.ntmps108
    go_wp2_with fail
    refine (h1 _).mono ?_
    rintro e w1 ⟨rfl, rfl⟩
    clear h1
    go_wp2
    go_ret3
    exact ⟨HL.out _, Below.refl _ _⟩
  | some y =>
    obtain ⟨n, q0⟩ := y
    obtain ⟨hq0, hN⟩ := read_bound s p n q0 hr
    have h1 := fun W => ReadVar_some s (p : Int) n q0 W hs (by omega) (by simpa using hr)
    by_cases hn : 24 < n
    · have HL : Hid (∀ W, RvP s p w (.returned (.tuple #[.slice none 0 0, .int .i64 0, .bool false])) W) := fun W => by unfold RvP; rw [LV.rawL_great hr hn]
      have q1 : (24 : Int) < (n : Int) := by omega
      clear hr
      go_enter Tryz.func108, Tryz.ntmps108
      go_wp2_with fail
      refine (h1 _).mono ?_
      rintro e w1 ⟨rfl, rfl⟩
      clear h1
      go_wp2
      go_ret3
      exact ⟨HL.out _, Below.refl _ _⟩
    · have q1 : ¬ (24 : Int) < (n : Int) := by omega
      have hraw := LV.rawL_at hr hn
      have HL : Hid (∀ W m, m ≤ n → LV.leavesF s m q0 = none → RvP s p w (.returned (.tuple #[.slice none 0 0, .int .i64 0, .bool false])) W) := fun W m hm h => by unfold RvP; rw [hraw, LV.leavesF_none h n hm]
      have HY : Hid (∀ l q, LV.leavesF s n q0 = some (l, q) → LV.rawL s p = some (l, q)) := fun l q h => by rw [hraw]; exact h
      obtain ⟨w2, hmk, hib, hb2, hs2⟩ := made_leaves n (by omega) w
      have HST : Hid (RvR s n q0 w (.int .i64 (q0 : Int)) (.int .i64 0) w2) := ⟨0, q0, [], by omega, rfl, rfl, hq0, rfl, fun j h => absurd h (by simp), hib, hb2, by omega⟩
      clear hr hraw hib hb2 hs2
      go_enter Tryz.func108, Tryz.ntmps108
      go_wp2_with fail
      refine (h1 _).mono ?_
      rintro e w1 ⟨rfl, rfl⟩
      clear h1
      go_wp2
      clear hmk
      go_loopw [1, 28] (fun x i wr => RvR s n q0 w1 x i wr) (fun _ i _ => n - (intOf i).toNat)
      case atStart => exact HST.out
      case round =>
        obtain ⟨m, q, l, hm, rfl, rfl, hq, HI⟩ := hrel
        clear HST
        by_cases hlt : m < n
        · have hRl := readLeaf_at s (q : Int) q wr rfl hs hq
          have i1 : (m : Int) < (n : Int) := by omega
          have i2 : (0 : Int) ≤ (m : Int) := by omega
          cases hf : LV.leafAt s q with
          | none =>
            have HE : Hid (∀ W, RvP s p w1 (.returned (.tuple #[.slice none 0 0, .int .i64 0, .bool false])) W) := fun W => HL.out W (m + 1) (by omega) (leavesF_ends HI.out.1 hf)
            unfold RlP at hRl
            simp only [hf] at hRl
            clear HY HL
            go_wp2_with fail
            refine hRl.mono ?_
            rintro e w3 ⟨⟨a, b, rfl⟩, hb3⟩
            have HT : Hid (w3.there w1.heap.size (m * 2) 2) := there_kept (HI.out.2.2.1 m (by omega)) (hb3.block _ HI.out.2.2.2.2)
            have HB : Hid (Below w1.heap.size w1 (w3.setCells w1.heap.size (m * 2) [.string a, .string b])) := below_setCells (Nat.le_refl _) _ _ _ (HI.out.2.2.2.1.trans (hb3.mono HI.out.2.2.2.1.size))
            clear hb3 HI hRl
            obtain ⟨⟨o0, x0⟩, ⟨o1, x1⟩, f0, f1⟩ := there2 HT.out
            go_wp2
            try rw [Exit.noGoto_ret]
            go_ret3
            exact ⟨HE.out _, HB.out⟩
          | some z =>
            obtain ⟨f, r⟩ := z
            have hrs := (LV.leafAt_some hq hf).2.1
            have hmore := leavesF_more HI.out.1 hf
            unfold RlP at hRl
            simp only [hf] at hRl
            go_wp2_with fail
            refine hRl.mono ?_
            rintro e w3 ⟨rfl, hb3⟩
            have hlen : l.length = m := (LV.leavesF_some hq0 HI.out.1).2.2.1
            have HT : Hid (w3.there w1.heap.size (m * 2) 2) := there_kept (HI.out.2.2.1 m (by omega)) (hb3.block _ HI.out.2.2.2.2)
            have HJ : Hid (LV.leavesF s (m + 1) q0 = some (l ++ [f], r) ∧ (∀ j (h : j < (l ++ [f]).length), (w3.setCells w1.heap.size (m * 2) [.string f.n, .string f.v]).rangeAt w1.heap.size (j * 2) (lcs (l ++ [f])[j])) ∧ (∀ j, j < n → (w3.setCells w1.heap.size (m * 2) [.string f.n, .string f.v]).there w1.heap.size (j * 2) 2) ∧ Below w1.heap.size w1 (w3.setCells w1.heap.size (m * 2) [.string f.n, .string f.v]) ∧ w1.heap.size < (w3.setCells w1.heap.size (m * 2) [.string f.n, .string f.v]).heap.size) := by
              obtain ⟨a1, a2, a3, a4, a5⟩ := HI.out
              refine ⟨hmore, fun j hj => ?_, fun j hj => World.there_setCells (there_kept (a3 j hj) (hb3.block _ a5)) _ _ _, below_setCells (Nat.le_refl _) _ _ _ (a4.trans (hb3.mono a4.size)), by rw [size_setCells]; exact Nat.lt_of_lt_of_le a5 hb3.size⟩
              by_cases hjl : j < l.length
              · rw [List.getElem_append_left hjl]
                exact World.rangeAt_setCells_apart (range_kept (a2 j hjl) (hb3.block _ a5)) _ _ _ (.inr (.inl (by rw [lcs_len]; omega)))
              · have hj2 : j = m := by simp at hj; omega
                subst hj2
                rw [List.getElem_append_right (by omega)]
                simp only [hlen, Nat.sub_self, List.getElem_cons_zero]
                exact World.rangeAt_setCells_same _ _ _ _ HT.out
            clear hb3 HI hRl hmore hlen HY HL
            obtain ⟨⟨o0, x0⟩, ⟨o1, x1⟩, f0, f1⟩ := there2 HT.out
            go_wp2
            go_roundw
            case rel => exact ⟨m + 1, r, l ++ [f], by omega, by go_num, rfl, hrs, HJ⟩
            case measure => simp [intOf]; omega
        · have hme : m = n := by omega
          subst hme
          obtain ⟨a1, a2, a3, a4, a5⟩ := HI.out
          obtain ⟨_, _, hlen, _⟩ := LV.leavesF_some hq0 a1
          have hraw := HY.out l q a1
          have hrw : RW 2 lcs wr (.slice (some ⟨w1.heap.size, 0, none⟩) m m) w1.heap.size l := ⟨⟨_, _, by rw [hlen], by omega, fun _ => ⟨rfl, a5⟩, fun j hj => by rw [Nat.zero_add]; exact a2 j hj⟩, fun j hj => a3 j (by omega)⟩
          have hsm : SmallL l := fun f hf => by
            have := LV.leavesF_size a1 f hf
            omega
          have hOk := LeavesOk_any _ w1.heap.size 0 l wr hrw.1 hsm
          have HF : Hid (∀ W, Below wr.heap.size wr W → RvP s p w1 (.returned (.tuple #[.slice (some ⟨w1.heap.size, 0, none⟩) m m, .int .i64 (q : Int), .bool (LV.leavesB l)])) W ∧ Below w1.heap.size w1 W) := fun W hW => by
            refine ⟨?_, a4.trans (hW.mono a4.size)⟩
            unfold RvP
            rw [hraw]
            exact ⟨w1.heap.size, by rw [hlen], Nat.le_refl _, by rw [hlen]; exact hrw.later hW⟩
          generalize LV.leavesB l = B at *
          clear a1 a2 a3 a4 a5 hraw hrw hsm HY HL HI hlen
          go_wp2_with fail
          refine hOk.mono ?_
          rintro e w4 ⟨rfl, hb4⟩
          have hF := HF.out _ hb4
          go_wp2
          go_ret3
          exact hF

end Go.Proofs.YtmcejkfknbjjkaaGreatDoor
/-
  A number that was written is read back from there on.
-/
namespace Go.Proofs.YtmcejkfknbjjkaaGreatDoor
set_option linter.unusedVariables false
namespace LV

theorem drop_at (s l : List UInt8) (k : Nat) (b : UInt8) (h : s.drop k = b :: l) : s[k]? = some b ∧ s.drop (k + 1) = l := by
  constructor
  · have : (s.drop k)[0]? = some b := by rw [h]; rfl
    simpa using this
  · have : (s.drop k).drop 1 = l := by rw [h]; rfl
    simpa [List.drop_drop] using this

/-- what varF wrote is read from there on -/
theorem rv_back (s : List UInt8) (p : Nat) : ∀ (fuel f i N m : Nat) (post : List UInt8), m < 128 ^ fuel → m < 128 ^ (f + 1) → 0 < fuel → (0 < m ∨ i = 0) → N + m * 128 ^ i ≤ 1000000000 → s.drop (p + i) = M.varF f m ++ post →
    M.rv s p fuel i N = some (N + m * 128 ^ i, p + i + (M.varF f m).length)
  | 0, _, _, _, _, _, _, _, h, _, _, _ => by omega
  | fuel + 1, f, i, N, m, post, h1, h2, _, h3, h4, h5 => by
    by_cases hm : m ≤ 127
    · rw [M.varF_small f m hm] at h5 ⊢
      obtain ⟨hb, _⟩ := drop_at _ _ _ _ h5
      have hn : (UInt8.ofNat m).toNat = m := by simp; omega
      rw [M.rv, hb]
      simp only [hn]
      rw [if_neg (by omega), if_neg]
      · have : m % 128 = m := by omega
        rw [this]
        rfl
      · have : m % 128 = m := by omega
        rw [this]
        omega
    · cases f with
      | zero => simp at h2; omega
      | succ f =>
        rw [M.varF_big f m (by omega)] at h5 ⊢
        obtain ⟨hb, hd⟩ := drop_at _ _ _ _ h5
        have hn : (UInt8.ofNat (m % 128 + 128)).toNat = m % 128 + 128 := by simp; omega
        have e1 : m % 128 * 128 ^ i + m / 128 * 128 ^ (i + 1) = m * 128 ^ i := by
          rw [Nat.pow_succ, Nat.mul_comm (128 ^ i) 128, ← Nat.mul_assoc, ← Nat.add_mul]
          congr 1
          omega
        have hfp : 0 < fuel := by
          rcases Nat.eq_zero_or_pos fuel with h0 | h0
          · subst h0; simp at h1; omega
          · exact h0
        rw [M.rv, hb]
        simp only [hn]
        have e2 : (m % 128 + 128) % 128 = m % 128 := by omega
        rw [if_pos (by omega), e2]
        have ih := rv_back s p fuel f (i + 1) (N + m % 128 * 128 ^ i) (m / 128) post (by rw [Nat.pow_succ] at h1; omega) (by rw [Nat.pow_succ] at h2; omega) hfp (.inl (by omega)) (by omega) (by rw [show p + (i + 1) = p + i + 1 by omega]; exact hd)
        rw [ih, Nat.add_assoc N, e1, List.length_cons]
        congr 2
        omega

theorem readVar_back (pre post : List UInt8) (n : Nat) (hn : n ≤ 1000000000) : M.readVar (pre ++ (M.varL n ++ post)) pre.length = some (n, pre.length + (M.varL n).length) := by
  have h := rv_back (pre ++ (M.varL n ++ post)) pre.length 5 9 0 0 n post (by omega) (by omega) (by omega) (.inr rfl) (by simpa using hn) (by simp [M.varL])
  unfold M.readVar
  rw [h]
  simp [M.varL]

end LV
end Go.Proofs.YtmcejkfknbjjkaaGreatDoor
/-
  What was written as leaves is read back; and what is put and dropped is found again, or not.
-/
namespace Go.Proofs.YtmcejkfknbjjkaaGreatDoor
open Go.RowKit
set_option linter.unusedVariables false
namespace LV

theorem toList_len (s : ByteArray) : s.data.toList.length = s.size := Array.length_toList
theorem bytes_eq {a b : ByteArray} (h : a.data.toList = b.data.toList) : a = b := ByteArray.ext (Array.toList_inj.1 h)
theorem shortAt_back (s t : ByteArray) (pre post : List UInt8) (ht : t.size ≤ 20000) (h : s.data.toList = pre ++ ((M.varL t.size ++ t.data.toList) ++ post)) : shortAt s pre.length = some (t, pre.length + (M.varL t.size ++ t.data.toList).length) := by
  have hr : M.readVar s.data.toList pre.length = some (t.size, pre.length + (M.varL t.size).length) := by
    rw [h, List.append_assoc]
    exact readVar_back pre _ t.size (by omega)
  have hsz := toList_len s
  have htl := toList_len t
  have hl : s.size = pre.length + (M.varL t.size).length + t.size + post.length := by
    rw [← hsz, h]
    simp only [List.length_append]
    omega
  rw [shortAt_yes hr ⟨ht, by omega⟩]
  have hp : piece s (pre.length + (M.varL t.size).length) t.size = t := by
    apply bytes_eq
    unfold piece
    rw [extract_cut, h]
    unfold cutL
    have e1 : (pre ++ ((M.varL t.size ++ t.data.toList) ++ post)).drop (pre.length + (M.varL t.size).length) = t.data.toList ++ post := by
      rw [← List.append_assoc, ← List.append_assoc, List.append_assoc (pre ++ M.varL t.size)]
      rw [← List.length_append]
      exact List.drop_left
    rw [e1]
    have e2 : pre.length + (M.varL t.size).length + t.size - (pre.length + (M.varL t.size).length) = t.data.toList.length := by omega
    rw [e2]
    exact List.take_left
  rw [hp]
  congr 2
  simp only [List.length_append]
  omega
theorem leafAt_back (s : ByteArray) (f : Le) (pre post : List UInt8) (h1 : f.n.size ≤ 20000) (h2 : f.v.size ≤ 20000) (h : s.data.toList = pre ++ (leL f ++ post)) : leafAt s pre.length = some (f, pre.length + (leL f).length) := by
  have a1 := shortAt_back s f.n pre ((M.varL f.v.size ++ f.v.data.toList) ++ post) h1 (by rw [h]; simp [leL])
  have a2 := shortAt_back s f.v (pre ++ (M.varL f.n.size ++ f.n.data.toList)) post h2 (by rw [h]; simp [leL])
  rw [List.length_append] at a2
  unfold leafAt
  rw [a1]
  simp only
  rw [a2]
  congr 2
  simp [leL]
  omega
theorem leavesF_back (s : ByteArray) : ∀ (L : List Le) (pre : List UInt8), (∀ f ∈ L, f.n.size ≤ 20000 ∧ f.v.size ≤ 20000) → s.data.toList = pre ++ ltL L → leavesF s L.length pre.length = some (L, s.size)
  | [], pre, _, h => by
    have := toList_len s
    rw [h] at this
    simp [ltL] at this
    simp [leavesF, this]
  | f :: r, pre, hs, h => by
    have hf := hs f (by simp)
    have e : s.data.toList = pre ++ (leL f ++ ltL r) := by rw [h]; simp [ltL]
    have a1 := leafAt_back s f pre (ltL r) hf.1 hf.2 e
    have a2 := leavesF_back s r (pre ++ leL f) (fun g hg => hs g (by simp [hg])) (by rw [e]; simp)
    rw [List.length_append] at a2
    rw [List.length_cons, leavesF, a1]
    simp only
    rw [a2]
theorem rawL_back {L : List Le} (h : LOk L) : rawL ⟨(lvL L).toArray⟩ 0 = some (L, (⟨(lvL L).toArray⟩ : ByteArray).size) := by
  have e : (⟨(lvL L).toArray⟩ : ByteArray).data.toList = M.varL L.length ++ ltL L := by simp [lvL]
  have hr : M.readVar (⟨(lvL L).toArray⟩ : ByteArray).data.toList 0 = some (L.length, (M.varL L.length).length) := by
    have := readVar_back [] (ltL L) L.length (by have := h.1; omega)
    simp only [List.nil_append, List.length_nil, Nat.zero_add] at this
    rw [e]
    exact this
  have h24 := h.1
  rw [rawL_at hr (by omega)]
  exact leavesF_back _ L (M.varL L.length) (fun f hf => by have := leB_sizes (h.2.1 f hf); omega) e
theorem rd_back {L : List Le} (h : leavesB L = true) : rdB (lvT L) = true ∧ rdL (lvT L) = L := by
  have hr := rawL_back (leavesB_iff.1 h)
  rw [lvT_yes h]
  unfold rdB rdL
  rw [hr]
  simp [h]

/-! what is put is there, what is dropped is not, and all else stays -/
theorem find_of {L : List Le} (h : Srt L) {f : Le} (hf : f ∈ L) : find L f.n = some f := by
  cases hq : find L f.n with
  | none => exact absurd rfl (find_none hq f hf)
  | some g => rw [srt_inj h (find_some hq).1 hf (find_some hq).2]
theorem find_not {L : List Le} {x : ByteArray} (h : ∀ f ∈ L, f.n ≠ x) : find L x = none := by
  cases hq : find L x with
  | none => rfl
  | some g => exact absurd (find_some hq).2 (h g (find_some hq).1)
theorem get_of {L : List Le} (h : Srt L) {f : Le} (hf : f ∈ L) : getV L f.n = f.v ∧ getB L f.n = true := get_some (find_of h hf)
theorem get_not {L : List Le} {x : ByteArray} (h : ∀ f ∈ L, f.n ≠ x) : getB L x = false := (get_none (find_not h)).2
theorem wout_put {L : List Le} {f : Le} : ∀ g ∈ wout (put L f) f.n, g.n ≠ f.n := fun g hg => (mem_wout.1 hg).2
theorem len_drop {L : List Le} (h : Srt L) (f : Le) : (wout (put L f) f.n).length + 1 = (put L f).length := len_wout_eq (srt_put h f) (mem_put.2 (.inl rfl))
theorem putB_yes {L : List Le} {f : Le} (h : LOk L) (hl : L.length < 24) (hf : leB f = true) : putB L f = true := by
  unfold putB
  rw [leavesB_iff.2 h, hf, decide_eq_true hl]
  simp
theorem dropB_yes {L : List Le} {f : Le} (h : LOk (put L f)) : dropB (put L f) f.n = true := by
  unfold dropB
  rw [leavesB_iff.2 h, find_of h.2.2 (mem_put.2 (.inl rfl))]
  rfl
end LV
end Go.Proofs.YtmcejkfknbjjkaaGreatDoor
/-
  A leaf copied: the program's answer.
-/
namespace Go.Proofs.YtmcejkfknbjjkaaGreatDoor
open Go.RowKit Go.BigFrame Go.Sort
set_option linter.unusedVariables false
set_option linter.unusedSimpArgs false

set_option maxRecDepth 100000 in
set_option maxHeartbeats 1000000 in
theorem copiedL_any (f : Le) (w : World) (hn : f.n.size ≤ 1048576) (hv : f.v.size ≤ 1048576) : Calls Tryz.prog 85 #[.agg #[.string f.n, .string f.v]] w fun e w' => e = .returned (.agg #[.string f.n, .string f.v]) ∧ Below w.heap.size w w' := by
  obtain ⟨x, t⟩ := f
  simp only at hn hv ⊢
  have hb0 : Below w.heap.size w ((w.alloc (.cells #[.string x, .string t] 34)).alloc (.cells #[.string ⟨#[]⟩, .string ⟨#[]⟩] 34)) := ((Below.refl _ _).alloc (Nat.le_refl _) _).alloc (by simp) _
  have hG1 : BL ((w.alloc (.cells #[.string x, .string t] 34)).alloc (.cells #[.string ⟨#[]⟩, .string ⟨#[]⟩] 34)) w.heap.size x t := alloc_snd _ _ _ rfl
  have hG2 : BL ((w.alloc (.cells #[.string x, .string t] 34)).alloc (.cells #[.string ⟨#[]⟩, .string ⟨#[]⟩] 34)) (w.heap.size + 1) ⟨#[]⟩ ⟨#[]⟩ := alloc_fst _ _ (by simp)
  have hs0 : ((w.alloc (.cells #[.string x, .string t] 34)).alloc (.cells #[.string ⟨#[]⟩, .string ⟨#[]⟩] 34)).heap.size = w.heap.size + 2 := by simp
  have HK : Hid (∀ W, Below ((w.alloc (.cells #[.string x, .string t] 34)).alloc (.cells #[.string ⟨#[]⟩, .string ⟨#[]⟩] 34)).heap.size ((w.alloc (.cells #[.string x, .string t] 34)).alloc (.cells #[.string ⟨#[]⟩, .string ⟨#[]⟩] 34)) W → W.cell? ⟨w.heap.size, 0, none⟩ = some (.string x) ∧ W.cell? ⟨w.heap.size, 1, none⟩ = some (.string t)) := fun W hW => ⟨(hG1.later hW).c0, (hG1.later hW).c1⟩
  have HK2 : Hid (∀ W, Below ((w.alloc (.cells #[.string x, .string t] 34)).alloc (.cells #[.string ⟨#[]⟩, .string ⟨#[]⟩] 34)).heap.size ((w.alloc (.cells #[.string x, .string t] 34)).alloc (.cells #[.string ⟨#[]⟩, .string ⟨#[]⟩] 34)) W → BL W (w.heap.size + 1) ⟨#[]⟩ ⟨#[]⟩) := fun W hW => hG2.later hW
  have HB0 : Hid (Below w.heap.size w ((w.alloc (.cells #[.string x, .string t] 34)).alloc (.cells #[.string ⟨#[]⟩, .string ⟨#[]⟩] 34)) ∧ w.heap.size ≤ ((w.alloc (.cells #[.string x, .string t] 34)).alloc (.cells #[.string ⟨#[]⟩, .string ⟨#[]⟩] 34)).heap.size) := ⟨hb0, by rw [hs0]; omega⟩
  have hb : Below ((w.alloc (.cells #[.string x, .string t] 34)).alloc (.cells #[.string ⟨#[]⟩, .string ⟨#[]⟩] 34)).heap.size ((w.alloc (.cells #[.string x, .string t] 34)).alloc (.cells #[.string ⟨#[]⟩, .string ⟨#[]⟩] 34)) ((w.alloc (.cells #[.string x, .string t] 34)).alloc (.cells #[.string ⟨#[]⟩, .string ⟨#[]⟩] 34)).drew := (Below.refl _ _).drew
  clear hb0 hG1 hG2 hs0
  go_enter Tryz.func85, Tryz.ntmps85
  go_wp2
  go_region_held3 (fun W => W.cell? ⟨w.heap.size, 0, none⟩ = some (.string x) ∧ W.cell? ⟨w.heap.size, 1, none⟩ = some (.string t)) (first | go_keep | exact HK.out _ hb) ((go_at_call 96; refine (Clone_any _ _ (by first | exact hn | exact hv)).mono ?_; rintro e w1 ⟨rfl, hb1'⟩; have hb := hb.trans (hb1'.mono hb.size); have t0 := (HK2.out _ hb).c0; have t1 := (HK2.out _ hb).c1; have g0 := (HK2.out _ hb).f0; have g1 := (HK2.out _ hb).f1))
  have HF : Hid ((w1.setCells (w.heap.size + 1) 0 [.string x, .string t]).rangeAt (w.heap.size + 1) 0 [.string x, .string t] ∧ Below w.heap.size w (w1.setCells (w.heap.size + 1) 0 [.string x, .string t])) :=
    ⟨(HK2.out _ hb).put x t, below_setCells (by omega) _ _ _ (HB0.out.1.trans (hb.mono HB0.out.2))⟩
  go_wp2
  exact ret_rec 2 (w.heap.size + 1) 34 [.string x, .string t] _ rfl rfl rfl Tryz.underlying34 rfl sizeLeaf HF.out.1 ⟨rfl, HF.out.2⟩

end Go.Proofs.YtmcejkfknbjjkaaGreatDoor
/-
  A row of leaves copied: the program's answer.
-/
namespace Go.Proofs.YtmcejkfknbjjkaaGreatDoor
open Go.RowKit Go.BigFrame Go.Sort
set_option linter.unusedVariables false
set_option linter.unusedSimpArgs false

set_option maxRecDepth 100000 in
set_option maxHeartbeats 400000 in
theorem leavesCopy_any (v : Value) (ga oa : Nat) (l : List Le) (w : World) (hv : RS 2 lcs w v ga oa l) (hsm : SmallL l) :
    Calls Tryz.prog 35 #[v] w fun e w' => ∃ g, e = .returned (.slice (some ⟨g, 0, none⟩) l.length l.length) ∧ w.heap.size ≤ g ∧ RW 2 lcs w' (.slice (some ⟨g, 0, none⟩) l.length l.length) g l ∧ Below w.heap.size w w' := by
  have HV : Hid (RS 2 lcs w v ga oa l ∧ SmallL l) := ⟨hv, hsm⟩
  obtain ⟨a, cap, rfl, hl, hA, hc⟩ := hv
  obtain ⟨n, hn⟩ : ∃ n, l.length = n := ⟨_, rfl⟩
  obtain ⟨w2, hmk, hib, hb2, hs2⟩ := made_leaves n (by omega) w
  have HST : Hid (ToL w l w.heap.size w.heap.size (.int .i64 0) w2 ∧ w.heap.size < w2.heap.size) := ⟨⟨0, by omega, rfl, fun j _ h => by omega, by rw [hn]; exact hib, hb2⟩, by omega⟩
  have HA : Hid (0 < n → a = some ⟨ga, oa, none⟩) := by rw [← hn]; exact fun h => (hA h).1
  rw [hn] at hl ⊢
  clear hib hb2 hs2 hA hc hsm
  go_enter Tryz.func35, Tryz.ntmps35
  go_wp2
  clear hmk
  go_loopw [11] (fun i wr => ToL w l w.heap.size w.heap.size i wr ∧ w.heap.size < wr.heap.size) (fun i _ => n - (intOf i).toNat)
  case atStart => exact HST.out
  case round =>
    obtain ⟨⟨m, hm, rfl, h1, h2, hbel⟩, hws⟩ := hrel
    have HI : Hid ((∀ j (h : j < l.length), j < m → wr.rangeAt w.heap.size (j * 2) (lcs l[j])) ∧ (∀ j, j < l.length → wr.there w.heap.size (j * 2) 2) ∧ Below w.heap.size w wr) := ⟨h1, h2, hbel⟩
    clear HST h1 h2 hbel
    rw [hn] at hm
    by_cases hlt : m < n
    · have ea := HA.out (by omega)
      subst ea
      obtain ⟨c0, c1⟩ := (HV.out.1.later HI.out.2.2).leaf m (by omega)
      obtain ⟨X, hX⟩ : ∃ X, l[m]'(by omega) = X := ⟨_, rfl⟩
      rw [hX] at c0 c1
      have hxs := HV.out.2 X (by rw [← hX]; exact List.getElem_mem _)
      have HX : Hid (l[m]'(by omega) = X) := hX
      have i1 : (m : Int) < (n : Int) := by omega
      have i2 : (0 : Int) ≤ (m : Int) := by omega
      have hba : Below wr.heap.size wr (wr.alloc (.cells #[.string X.n, .string X.v] 34)) := (Below.refl _ _).alloc (Nat.le_refl _) _
      clear hX HV HA
      go_wp2_with fail
      refine (copiedL_any X _ hxs.1 hxs.2).mono ?_
      rintro e w1 ⟨rfl, hb1'⟩
      have hb1 : Below wr.heap.size wr w1 := hba.trans (hb1'.mono hba.size)
      have HJ : Hid ((∀ j (h : j < l.length), j < m + 1 → (w1.setCells w.heap.size (m * 2) (lcs X)).rangeAt w.heap.size (j * 2) (lcs l[j])) ∧ (∀ j, j < l.length → (w1.setCells w.heap.size (m * 2) (lcs X)).there w.heap.size (j * 2) 2) ∧ Below w.heap.size w (w1.setCells w.heap.size (m * 2) (lcs X))) := by
        have h := ToL.set (w := w) (wr := w1) (l := l) (g := w.heap.size) (m := m) (B := w.heap.size) (by omega) (Nat.le_refl _) (fun j hj h => range_kept (HI.out.1 j hj h) (hb1.block _ hws)) (fun j hj => there_kept (HI.out.2.1 j hj) (hb1.block _ hws)) (HI.out.2.2.trans (hb1.mono HI.out.2.2.size))
        rw [HX.out] at h
        exact h
      have HT : Hid (w1.there w.heap.size (m * 2) 2) := there_kept (HI.out.2.1 m (by omega)) (hb1.block _ hws)
      have hws1 : w.heap.size < (w1.setCells w.heap.size (m * 2) (lcs X)).heap.size := by rw [size_setCells]; exact Nat.lt_of_lt_of_le hws hb1.size
      clear hb1 hb1' hba HI c0 c1 hxs
      obtain ⟨⟨o0, x0⟩, ⟨o1, x1⟩, f0, f1⟩ := there2 HT.out
      go_wp2
      go_roundw
      case rel => exact ⟨⟨m + 1, by omega, by go_num, HJ.out⟩, hws1⟩
      case measure => simp [intOf]; omega
    · have hme : m = n := by omega
      subst hme
      clear HV HA
      go_wp2
      go_ret
      refine ⟨w.heap.size, rfl, Nat.le_refl _, ⟨⟨_, _, by rw [hn], by omega, fun _ => ⟨rfl, hws⟩, fun j hj => ?_⟩, HI.out.2.1⟩, HI.out.2.2⟩
      rw [Nat.zero_add]
      exact HI.out.1 j hj (by omega)

end Go.Proofs.YtmcejkfknbjjkaaGreatDoor
/-
  The leaves whose names have an index: the program's answer.
-/
namespace Go.Proofs.YtmcejkfknbjjkaaGreatDoor
open Go.RowKit Go.BigFrame Go.Sort
set_option linter.unusedVariables false
set_option linter.unusedSimpArgs false

set_option maxRecDepth 100000 in
set_option maxHeartbeats 1000000 in
theorem BucketOf_any (v : Value) (ga oa : Nat) (L : List Le) (i : Int) (w : World) (hv : RS 2 lcs w v ga oa L) (hsm : SmallL L) (hK : TabK w) (hF : TabF w) :
    Calls Tryz.prog 119 #[v, .int .i64 i] w fun e w' => ∃ u, e = .returned u ∧ OL w.heap.size w w' u (bkL L i) := by
  have HV : Hid (RS 2 lcs w v ga oa L ∧ SmallL L ∧ TabK w ∧ TabF w) := ⟨hv, hsm, hK, hF⟩
  obtain ⟨a, cap, rfl, hl, hA, _⟩ := hv
  obtain ⟨n, hn⟩ : ∃ n, L.length = n := ⟨_, rfl⟩
  have HA : Hid (0 < n → a = some ⟨ga, oa, none⟩) := by rw [← hn]; exact fun h => (hA h).1
  rw [hn] at hl HV ⊢
  clear hA hsm hK hF
  have HST : Hid (BkR w L i (.slice (some ⟨w.heap.size, 0, none⟩) 0 0) (.int .i64 0) (w.alloc (.cells #[] 34))) := ⟨0, by omega, rfl, OL.made _ w w (Below.refl _ _) (Nat.le_refl _)⟩
  go_enter Tryz.func119, Tryz.ntmps119
  go_wp2
  go_loopw [5, 11] (fun u j wr => BkR w L i u j wr) (fun _ j _ => n - (intOf j).toNat)
  case atStart => exact HST.out
  case round =>
    obtain ⟨m, hm, rfl, HI⟩ := hrel
    clear HST
    rw [hn] at hm
    obtain ⟨au, cu, rfl⟩ := HI.out.shape
    by_cases hlt : m < n
    · have ea := HA.out (by omega)
      subst ea
      obtain ⟨c0, c1⟩ := (HV.out.1.later HI.out.2.1).leaf m (by omega)
      obtain ⟨X, hX⟩ : ∃ X, L[m]'(by omega) = X := ⟨_, rfl⟩
      rw [hX] at c0 c1
      have hxs := HV.out.2.1 X (by rw [← hX]; exact List.getElem_mem _)
      have hst := bk_step (L := L) (m := m) i (by omega)
      rw [hX] at hst
      have hle : ((L.take m).filter (bkP i)).length ≤ L.length := LV.filt_len L m _
      have i1 : (m : Int) < (n : Int) := by omega
      have i2 : (0 : Int) ≤ (m : Int) := by omega
      have hba : Below wr.heap.size wr (wr.alloc (.cells #[.string X.n, .string X.v] 34)) := (Below.refl _ _).alloc (Nat.le_refl _) _
      have hwa : Below w.heap.size w (wr.alloc (.cells #[.string X.n, .string X.v] 34)) := HI.out.2.1.trans (hba.mono HI.out.2.2)
      have hix := IndexOf_any X.n _ hxs.1 (HV.out.2.2.1.later hwa HV.out.2.2.1.pos) (HV.out.2.2.2.later hwa HV.out.2.2.2.pos)
      change Calls Tryz.prog 38 _ _ (fun e w' => e = .returned (.int .i64 (idxN X.n : Int)) ∧ Below _ _ w') at hix
      obtain ⟨N, hN⟩ : ∃ N, idxN X.n = N := ⟨_, rfl⟩
      rw [hN] at hix
      have HBK : Hid (bkP i X = decide ((N : Int) = i)) := by rw [← hN]; rfl
      have HO1 : Hid (OL w.heap.size w (wr.alloc (.cells #[.string X.n, .string X.v] 34)) (.slice au ((L.take m).filter (bkP i)).length cu) ((L.take m).filter (bkP i))) := HI.out.later hba
      clear HV HA hX hN hba hwa HI
      generalize hl0 : (L.take m).filter (bkP i) = l at *
      clear hl0
      go_wp2_with fail
      refine hix.mono ?_
      rintro e w1 ⟨rfl, hb1⟩
      have HO2 : Hid (OL w.heap.size w w1 (.slice au l.length cu) l) := HO1.out.later hb1
      have hbx : BL w1 wr.heap.size X.n X.v := (BL.new wr X.n X.v).later hb1
      have x0 := hbx.c0
      have x1 := hbx.c1
      clear hix hb1 HO1 hbx
      by_cases hk : (N : Int) = i
      · rw [HBK.out, decide_eq_true hk] at hst
        have HJ : Hid ((L.take (m + 1)).filter (bkP i) = l ++ [X]) := hst
        have hk2 : ((N : Int) == i) = true := by simpa using hk
        clear hst HBK
        go_wp2_with fail
        refine (copiedL_any X _ hxs.1 hxs.2).mono ?_
        rintro e w2 ⟨rfl, hb2⟩
        have hbc : Below w1.heap.size w1 (w2.alloc (.cells #[.string X.n, .string X.v] 34)) := hb2.alloc hb2.size _
        have hoa := HO2.out.later hbc
        have HRN : Hid ((w2.alloc (.cells #[.string X.n, .string X.v] 34)).rangeAt w2.heap.size 0 (lcs X)) := range_new _ [.string X.n, .string X.v] 34
        clear hbc hb2 HO2 x0 x1 c0 c1
        go_wp2_with (at_builtin; refine wp_leafL rfl _ _ rfl w.heap.size w (.slice au l.length cu) l X rfl hoa _ rfl HRN.out (by omega) ?_)
        intro g5 cap5 w5 ho5 hg5 hl5
        have HK : Hid (OL w.heap.size w w5 (.slice (some ⟨g5, 0, none⟩) (l.length + 1) cap5) ((L.take (m + 1)).filter (bkP i))) := by rw [HJ.out]; exact ho5
        clear ho5 hg5 hl5 hoa HRN HJ
        go_wp2
        go_roundw
        case rel => exact ⟨m + 1, by omega, by go_num, HK⟩
        case measure => simp [intOf]; omega
      · rw [HBK.out, decide_eq_false hk] at hst
        have HJ : Hid (OL w.heap.size w w1 (.slice au l.length cu) ((L.take (m + 1)).filter (bkP i))) := by rw [hst]; exact HO2.out
        have hk2 : ((N : Int) == i) = false := by simpa using hk
        clear hst HBK HO2
        go_wp2
        go_roundw
        case rel => exact ⟨m + 1, by omega, by go_num, HJ⟩
        case measure => simp [intOf]; omega
    · have hme : m = n := by omega
      have e : (L.take m).filter (bkP i) = bkL L i := by rw [List.take_of_length_le (by omega)]; rfl
      have HF : Hid (∃ u, Ending.returned (.slice au ((L.take m).filter (bkP i)).length cu) = .returned u ∧ OL w.heap.size w wr u (bkL L i)) := ⟨_, rfl, by rw [← e]; exact HI.out⟩
      generalize (L.take m).filter (bkP i) = l at *
      subst hme
      clear HI HA HV e
      go_wp2
      go_ret
      exact HF.out

end Go.Proofs.YtmcejkfknbjjkaaGreatDoor
/-
  What the draws of names, values and places of bits give.
-/
namespace Go.Proofs.YtmcejkfknbjjkaaGreatDoor
open Go.RowKit
set_option linter.unusedVariables false

theorem l01Pick_in (B : Nat) (w0 w : World) (g : Nat) (v : Value) (gl cap : Nat) (zs : List ByteArray) (hc : Cur B w0 w g v) (h0 : 0 < zs.length) (h1 : zs.length ≤ 1000000) (hne : gl ≠ g) (hgl : gl < w.heap.size)
    (hcell : Hid (∀ j, (h : j < zs.length) → w.cell? ⟨gl, j, none⟩ = some (.string zs[j]))) :
    Calls Tryz.prog 104 #[.pointer (some ⟨g, 0, none⟩), .slice (some ⟨gl, 0, none⟩) zs.length cap] w fun e w' => ∃ y : ByteArray, y ∈ zs ∧ e = .returned (.string y) ∧ Cur B w0 w' g v ∧ w.grownBy w' (some g) := by
  go_enter Tryz.func104, Tryz.ntmps104
  go_wp2_with fail
  refine (l01Below_nat B w0 _ g v zs.length hc h0 (by omega)).mono ?_
  rintro e w1 ⟨j, hj, rfl, hc1, hg1⟩
  have hcl : w1.cell? ⟨gl, j, none⟩ = some (.string zs[j]) := hg1.cell (hcell.out j hj) (by simpa using hne)
  go_wp2
  go_ret
  exact ⟨zs[j], List.getElem_mem _, rfl, hc1, hg1⟩

/-- one of a list of texts that is written out -/
theorem pick_lit (B : Nat) (w0 w : World) (g : Nat) (v : Value) (n : Nat) (zs : List ByteArray) (cs : Array Value) (hc1 : Cur B w0 w g v) (hn : zs.length = n) (h0 : 0 < n) (h1 : n ≤ 1000000)
    (hcell : Hid (∀ j, (h : j < zs.length) → (w.alloc (.cells cs 9)).cell? ⟨w.heap.size, j, none⟩ = some (.string zs[j]))) :
    Hid (Calls Tryz.prog 104 #[.pointer (some ⟨g, 0, none⟩), .slice (some ⟨w.heap.size, 0, none⟩) n n] (w.alloc (.cells cs 9)) fun e w' => ∃ y : ByteArray, y ∈ zs ∧ e = .returned (.string y) ∧ Cur B w0 w' g v ∧ w.grownBy w' (some g)) := by
  have hca : Cur B w0 (w.alloc (.cells cs 9)) g v := hc1.kept (World.grownBy_alloc w _ none) (by simp) hc1.size (fun k hk => by cases hk)
  have hga : w.grownBy (w.alloc (.cells cs 9)) (some g) := World.grownBy_alloc w _ (some g)
  have hgl := hc1.lt
  have cP := l01Pick_in B w0 (w.alloc (.cells cs 9)) g v w.heap.size n zs hca (by omega) (by omega) (by omega) (by simp) hcell
  rw [hn] at cP
  exact cP.mono fun e w' ⟨y, hy, he, hc, hg⟩ => ⟨y, hy, he, hc, hga.trans hg⟩

def nameL : List ByteArray := [⟨#[97, 110, 110]⟩, ⟨#[98, 111, 98]⟩, ⟨#[99, 97, 116]⟩, ⟨#[100, 97, 110]⟩, ⟨#[101, 118, 101]⟩, ⟨#[102, 97, 121]⟩, ⟨#[103, 117, 115]⟩, ⟨#[104, 97, 108]⟩, ⟨#[105, 118, 121]⟩, ⟨#[106, 111, 101, 64, 120, 46, 111, 114, 103]⟩, ⟨#[107, 105, 109]⟩, ⟨#[108, 101, 111]⟩]
def nameC : Array Value := #[.string ⟨#[97, 110, 110]⟩, .string ⟨#[98, 111, 98]⟩, .string ⟨#[99, 97, 116]⟩, .string ⟨#[100, 97, 110]⟩, .string ⟨#[101, 118, 101]⟩, .string ⟨#[102, 97, 121]⟩, .string ⟨#[103, 117, 115]⟩, .string ⟨#[104, 97, 108]⟩, .string ⟨#[105, 118, 121]⟩, .string ⟨#[106, 111, 101, 64, 120, 46, 111, 114, 103]⟩, .string ⟨#[107, 105, 109]⟩, .string ⟨#[108, 101, 111]⟩]
theorem name_at (w : World) : Hid (∀ j, (h : j < nameL.length) → (w.alloc (.cells nameC 9)).cell? ⟨w.heap.size, j, none⟩ = some (.string nameL[j])) := by
  intro j hj
  rw [World.cell?_alloc_at _ _ _ _ rfl]
  have : j = 0 ∨ j = 1 ∨ j = 2 ∨ j = 3 ∨ j = 4 ∨ j = 5 ∨ j = 6 ∨ j = 7 ∨ j = 8 ∨ j = 9 ∨ j = 10 ∨ j = 11 := by simp [nameL] at hj; omega
  rcases this with rfl | rfl | rfl | rfl | rfl | rfl | rfl | rfl | rfl | rfl | rfl | rfl <;> rfl

theorem nameL_ok : ∀ y ∈ nameL, okB nameB y = true ∧ y.size ≤ 12 := by decide +kernel

theorem l04Name_in (B : Nat) (w0 w : World) (g : Nat) (v : Value) (hc : Cur B w0 w g v) :
    Calls Tryz.prog 83 #[.pointer (some ⟨g, 0, none⟩)] w fun e w' => ∃ y : ByteArray, y ∈ nameL ∧ e = .returned (.string y) ∧ Cur B w0 w' g v ∧ w.grownBy w' (some g) := by
  have CP := pick_lit B w0 w g v 12 nameL nameC hc rfl (by omega) (by omega) (name_at w)
  go_enter Tryz.func83, Tryz.ntmps83
  go_wp2_with fail
  refine CP.out.mono ?_
  rintro e w2 ⟨y, hy, rfl, hc2, hg2⟩
  go_wp2
  go_ret
  exact ⟨y, hy, rfl, hc2, hg2⟩

def nokL : List ByteArray := [⟨#[]⟩, ⟨#[97, 110, 110]⟩, ⟨#[106, 111, 101, 64, 120, 46, 111, 114, 103]⟩, ⟨#[65]⟩, ⟨#[116, 119, 101, 108, 118, 101, 116, 119, 101, 108, 118, 101]⟩, ⟨#[116, 104, 105, 114, 116, 101, 101, 110, 116, 104, 105, 114, 116]⟩, ⟨#[97, 32, 98]⟩, ⟨#[48]⟩, ⟨#[97, 0]⟩]
def nokC : Array Value := #[.string ⟨#[]⟩, .string ⟨#[97, 110, 110]⟩, .string ⟨#[106, 111, 101, 64, 120, 46, 111, 114, 103]⟩, .string ⟨#[65]⟩, .string ⟨#[116, 119, 101, 108, 118, 101, 116, 119, 101, 108, 118, 101]⟩, .string ⟨#[116, 104, 105, 114, 116, 101, 101, 110, 116, 104, 105, 114, 116]⟩, .string ⟨#[97, 32, 98]⟩, .string ⟨#[48]⟩, .string ⟨#[97, 0]⟩]
theorem nok_at (w : World) : Hid (∀ j, (h : j < nokL.length) → (w.alloc (.cells nokC 9)).cell? ⟨w.heap.size, j, none⟩ = some (.string nokL[j])) := by
  intro j hj
  rw [World.cell?_alloc_at _ _ _ _ rfl]
  have : j = 0 ∨ j = 1 ∨ j = 2 ∨ j = 3 ∨ j = 4 ∨ j = 5 ∨ j = 6 ∨ j = 7 ∨ j = 8 := by simp [nokL] at hj; omega
  rcases this with rfl | rfl | rfl | rfl | rfl | rfl | rfl | rfl | rfl <;> rfl

theorem nokL_ok : ∀ y ∈ nokL, y.size ≤ 13 := by decide +kernel

def vokL : List ByteArray := [⟨#[]⟩, ⟨#[107, 49]⟩, ⟨#[126]⟩, ⟨#[116, 119, 101, 108, 118, 101, 116, 119, 101, 108, 118, 101]⟩, ⟨#[116, 104, 105, 114, 116, 101, 101, 110, 116, 104, 105, 114, 116]⟩, ⟨#[97, 32, 98]⟩, ⟨#[127]⟩, ⟨#[65, 33]⟩]
def vokC : Array Value := #[.string ⟨#[]⟩, .string ⟨#[107, 49]⟩, .string ⟨#[126]⟩, .string ⟨#[116, 119, 101, 108, 118, 101, 116, 119, 101, 108, 118, 101]⟩, .string ⟨#[116, 104, 105, 114, 116, 101, 101, 110, 116, 104, 105, 114, 116]⟩, .string ⟨#[97, 32, 98]⟩, .string ⟨#[127]⟩, .string ⟨#[65, 33]⟩]
theorem vok_at (w : World) : Hid (∀ j, (h : j < vokL.length) → (w.alloc (.cells vokC 9)).cell? ⟨w.heap.size, j, none⟩ = some (.string vokL[j])) := by
  intro j hj
  rw [World.cell?_alloc_at _ _ _ _ rfl]
  have : j = 0 ∨ j = 1 ∨ j = 2 ∨ j = 3 ∨ j = 4 ∨ j = 5 ∨ j = 6 ∨ j = 7 := by simp [vokL] at hj; omega
  rcases this with rfl | rfl | rfl | rfl | rfl | rfl | rfl | rfl <;> rfl

theorem vokL_ok : ∀ y ∈ vokL, y.size ≤ 13 := by decide +kernel

/-- a number that fits -/
def fits (y : Int) : Prop := -9223372036854775808 ≤ y ∧ y ≤ 9223372036854775807
def plL (n : Nat) : List Int := [-1, (n : Int), (n : Int) + 1, 9223372036854775807, -9223372036854775808]
def plC (n : Nat) : Array Value := #[.int .i64 (-1), .int .i64 (n : Int), .int .i64 ((n : Int) + 1), .int .i64 9223372036854775807, .int .i64 (-9223372036854775808)]
theorem pl_at (n : Nat) (w : World) : Hid (∀ j, (h : j < (plL n).length) → (w.alloc (.cells (plC n) 3)).cell? ⟨w.heap.size, j, none⟩ = some (.int .i64 (plL n)[j])) := by
  intro j hj
  rw [World.cell?_alloc_at _ _ _ _ rfl]
  have : j = 0 ∨ j = 1 ∨ j = 2 ∨ j = 3 ∨ j = 4 := by simp [plL] at hj; omega
  rcases this with rfl | rfl | rfl | rfl | rfl <;> rfl
theorem plL_in (n : Nat) (hn : n ≤ 1000000) (y : Int) (h : y ∈ plL n) : fits y := by
  unfold fits
  simp [plL] at h
  omega

end Go.Proofs.YtmcejkfknbjjkaaGreatDoor
/-
  Drawn leaves: values, and lists that are put together leaf by leaf.
-/
namespace Go.Proofs.YtmcejkfknbjjkaaGreatDoor
open Go.RowKit Go.BigFrame Go.Sort
set_option linter.unusedVariables false
set_option linter.unusedSimpArgs false

def l9vL : List ByteArray := [⟨#[107, 49]⟩, ⟨#[107, 50]⟩, ⟨#[107, 51]⟩, ⟨#[107, 101, 121, 45, 102, 111, 117, 114]⟩, ⟨#[122]⟩]
def l9vC : Array Value := #[.string ⟨#[107, 49]⟩, .string ⟨#[107, 50]⟩, .string ⟨#[107, 51]⟩, .string ⟨#[107, 101, 121, 45, 102, 111, 117, 114]⟩, .string ⟨#[122]⟩]
theorem l9v_at (w : World) : Hid (∀ j, (h : j < l9vL.length) → (w.alloc (.cells l9vC 9)).cell? ⟨w.heap.size, j, none⟩ = some (.string l9vL[j])) := by
  intro j hj
  rw [World.cell?_alloc_at _ _ _ _ rfl]
  have : j = 0 ∨ j = 1 ∨ j = 2 ∨ j = 3 ∨ j = 4 := by simp [l9vL] at hj; omega
  rcases this with rfl | rfl | rfl | rfl | rfl <;> rfl
theorem l9v_ok : ∀ y ∈ l9vL, okB valB y = true ∧ y.size ≤ 12 := by decide +kernel

theorem l09Value_in (B : Nat) (w0 w : World) (g : Nat) (v : Value) (hc : Cur B w0 w g v) :
    Calls Tryz.prog 84 #[.pointer (some ⟨g, 0, none⟩)] w fun e w' => ∃ y : ByteArray, y ∈ l9vL ∧ e = .returned (.string y) ∧ Cur B w0 w' g v ∧ w.grownBy w' (some g) := by
  have CP := pick_lit B w0 w g v 5 l9vL l9vC hc rfl (by omega) (by omega) (l9v_at w)
  go_enter Tryz.func84, Tryz.ntmps84
  go_wp2_with fail
  refine CP.out.mono ?_
  rintro e w2 ⟨y, hy, rfl, hc2, hg2⟩
  go_wp2
  go_ret
  exact ⟨y, hy, rfl, hc2, hg2⟩

/-- a list under way beside a cursor -/
def DvI (B : Nat) (w0 w : World) (g : Nat) (v : Value) (a : Option Addr) (cap q : Nat) (L : List Le) (wr : World) : Prop :=
  Cur B w0 wr g v ∧ RW 2 lcs wr (.slice a L.length cap) q L ∧ B ≤ q ∧ (0 < L.length → q ≠ g) ∧ LV.LOk L ∧ (a = none → cap = 0) ∧ w.grownBy wr (some g)
def DvR (B : Nat) (w0 w : World) (g : Nat) (v : Value) (u i : Value) (wr : World) : Prop := ∃ (m : Nat) (a : Option Addr) (cap q : Nat) (L : List Le), m ≤ 8 ∧ i = .int .i64 m ∧ u = .slice a L.length cap ∧ L.length ≤ m ∧ Hid (DvI B w0 w g v a cap q L wr)
/-- what l09Draw answers -/
def DvP (B : Nat) (w0 w : World) (g : Nat) (v : Value) (e : Ending) (w' : World) : Prop := ∃ (a : Option Addr) (cap q : Nat) (L : List Le), e = .returned (.slice a L.length cap) ∧ L.length ≤ 8 ∧ DvI B w0 w g v a cap q L w'

set_option maxRecDepth 100000 in
set_option maxHeartbeats 2000000 in
theorem l09Draw_in (B : Nat) (w0 w : World) (g : Nat) (v : Value) (hc : Cur B w0 w g v) :
    Calls Tryz.prog 30 #[.pointer (some ⟨g, 0, none⟩)] w (DvP B w0 w g v) := by
  have hB := hc.size
  have hgl := hc.lt
  have HST : Hid (DvR B w0 w g v (.slice (some ⟨w.heap.size, 0, none⟩) 0 0) (.int .i64 0) (w.alloc (.cells #[] 34))) :=
    ⟨0, some ⟨w.heap.size, 0, none⟩, 0, w.heap.size, [], by omega, rfl, by simp, by simp, hc.kept (World.grownBy_alloc w _ none) (by simp) hB (fun k hk => by cases hk), ⟨⟨_, _, rfl, by simp, fun h => absurd h (by simp), fun j h => absurd h (by simp)⟩, fun j h => absurd h (by simp)⟩, hB, fun h => absurd h (by simp), ⟨by simp, fun f hf => absurd hf (by simp), List.Pairwise.nil⟩, fun e => (by cases e), World.grownBy_alloc w _ _⟩
  clear hc
  go_enter Tryz.func30, Tryz.ntmps30
  go_wp2
  go_loopw [3, 4] (fun u i wr => DvR B w0 w g v u i wr) (fun _ i _ => 9 - (intOf i).toNat)
  case atStart => exact HST.out
  case round =>
    obtain ⟨m, a, cap, q, L, hm, rfl, rfl, hLm, HI⟩ := hrel
    clear HST
    go_wp2_with fail
    refine (l01Below_in B w0 _ g v 9 9 rfl HI.out.1 (by omega) (by omega)).mono ?_
    rintro e w1 ⟨j, hj, rfl, hc1, hg1⟩
    have HI1 : Hid (DvI B w0 w g v a cap q L w1) := by
      obtain ⟨h1, h2, h3, h4, h5, h6, h7⟩ := HI.out
      exact ⟨hc1, h2.grown hg1 (fun hp => by simpa using h4 hp), h3, h4, h5, h6, h7.trans hg1⟩
    clear hc1 hg1 HI
    by_cases hlt : m < j
    · have i1 : (m : Int) < (j : Int) := by omega
      go_wp2_with fail
      refine (l04Name_in B w0 _ g v HI1.out.1).mono ?_
      rintro e w2 ⟨x, hx, rfl, hc2, hg2⟩
      have HI2 : Hid (DvI B w0 w g v a cap q L w2) := by
        obtain ⟨h1, h2, h3, h4, h5, h6, h7⟩ := HI1.out
        exact ⟨hc2, h2.grown hg2 (fun hp => by simpa using h4 hp), h3, h4, h5, h6, h7.trans hg2⟩
      clear hc2 hg2 HI1
      go_wp2_with fail
      refine (l09Value_in B w0 _ g v HI2.out.1).mono ?_
      rintro e w3 ⟨y, hy, rfl, hc3, hg3⟩
      have HI3 : Hid (DvI B w0 w g v a cap q L w3) := by
        obtain ⟨h1, h2, h3, h4, h5, h6, h7⟩ := HI2.out
        exact ⟨hc3, h2.grown hg3 (fun hp => by simpa using h4 hp), h3, h4, h5, h6, h7.trans hg3⟩
      clear hc3 hg3 HI2
      have hxo := nameL_ok x hx
      have hyo := l9v_ok y hy
      have hlb : LV.leB ⟨x, y⟩ = true := by unfold LV.leB; rw [hxo.1, hyo.1]; rfl
      have hpb := LV.putB_yes (f := ⟨x, y⟩) HI3.out.2.2.2.2.1 (by omega) hlb
      have hsm : SmallL L := fun f hf => by have := LV.leB_sizes (HI3.out.2.2.2.2.1.2.1 f hf); omega
      have hP := sLeafPut_any a cap q 0 L x y w3 HI3.out.2.1.1 HI3.out.2.2.2.2.2.1 hsm (by omega) (by omega) (by omega)
      rw [hpb, putR_yes hpb] at hP
      have hMl : (LV.put L ⟨x, y⟩).length ≤ m + 1 := by rw [LV.len_put]; have := LV.len_wout_le L x; show (LV.wout L x).length + 1 ≤ m + 1; omega
      have hM0 : 0 < (LV.put L ⟨x, y⟩).length := by rw [LV.len_put]; omega
      have hMk : LV.LOk (LV.put L ⟨x, y⟩) := LV.putB_ok hpb
      generalize LV.put L ⟨x, y⟩ = M at *
      clear hpb hlb hxo hyo hsm hx hy
      go_wp2_with fail
      refine hP.mono ?_
      rintro e w4 ⟨a4, c4, g4, rfl, hr4, hg4, hb4⟩
      have HI4 : Hid (DvI B w0 w g v a4 c4 g4 M w4) := by
        obtain ⟨h1, h2, h3, h4, h5, h6, h7⟩ := HI3.out
        have hgr := grown_below (row := some g) hb4
        refine ⟨h1.kept (grown_below (row := none) hb4) (by simp) h1.size (fun k hk => by cases hk), hr4, Nat.le_trans h1.size hg4, fun _ => by have := h1.lt; omega, hMk, fun e => ?_, h7.trans hgr⟩
        obtain ⟨⟨a', c', ev, _, hA, _⟩, _⟩ := hr4
        have := (hA hM0).1
        simp at ev
        rw [e, this] at ev
        cases ev.1
      clear hP hr4 hg4 hb4 HI3 hMk hM0
      go_wp2
      go_roundw
      case rel => exact ⟨m + 1, a4, c4, g4, M, by omega, by go_num, rfl, hMl, HI4⟩
      case measure => simp [intOf]; omega
    · have i1 : ¬ (m : Int) < (j : Int) := by omega
      have HF : Hid (DvP B w0 w g v (.returned (.slice a L.length cap)) w1) := ⟨a, cap, q, L, rfl, by omega, HI1.out⟩
      clear HI1
      go_wp2
      go_ret
      exact HF.out

/-- a drawn list of right leaves -/
theorem DrawLeaves_any (w : World) (v : Value) (hc : Code w.heap.size w v) :
    Calls Tryz.prog 6 #[v] w fun e w' => ∃ (a : Option Addr) (cap q : Nat) (L : List Le), e = .returned (.slice a L.length cap) ∧ (L.length ≤ 8 ∧ LV.LOk L ∧ (a = none → cap = 0)) ∧ RW 2 lcs w' (.slice a L.length cap) q L ∧ w.heap.size ≤ q ∧ Below w.heap.size w w' := by
  have HC : Hid (Code w.heap.size w v) := hc
  clear hc
  go_enter Tryz.func6, Tryz.ntmps6
  go_wp2_with fail
  refine (l01New_in w v HC.out).mono ?_
  rintro e w1 ⟨g, rfl, hc1, hb1⟩
  go_wp2_with fail
  refine (l09Draw_in w.heap.size w _ g v hc1).mono ?_
  rintro e w2 ⟨a, cap, q, L, rfl, hl, hI⟩
  have HF : Hid (∃ (a2 : Option Addr) (cap2 q2 : Nat) (L2 : List Le), Ending.returned (.slice a L.length cap) = .returned (.slice a2 L2.length cap2) ∧ (L2.length ≤ 8 ∧ LV.LOk L2 ∧ (a2 = none → cap2 = 0)) ∧ RW 2 lcs w2 (.slice a2 L2.length cap2) q2 L2 ∧ w.heap.size ≤ q2 ∧ Below w.heap.size w w2) := ⟨a, cap, q, L, rfl, ⟨hl, hI.2.2.2.2.1, hI.2.2.2.2.2.1⟩, hI.2.1, hI.2.2.1, hI.1.2.1⟩
  clear hI
  go_wp2
  go_ret
  exact HF.out

end Go.Proofs.YtmcejkfknbjjkaaGreatDoor
/-
  What DrawPlaces and DrawSumOf draw: twelve numbers below 10000; a text of less than forty bytes.
-/
namespace Go.Proofs.YtmcejkfknbjjkaaGreatDoor
open Go.RowKit
set_option linter.unusedVariables false

def iv (l : List Nat) : List Value := l.map (fun n : Nat => Value.int .i64 (n : Int))
theorem iv_append (l r : List Nat) : iv (l ++ r) = iv l ++ iv r := by simp [iv]

theorem own_neI {B Bw : Nat} {w0 w : World} {g n : Nat} {v u : Value} {xs : List Value} (hc : Cur B w0 w g v) (ho : w.ownsRow Bw 3 1 u n xs) : some g ≠ u.ownBlock := by
  intro he
  obtain ⟨_, _, _, i, x, hb, _⟩ := hc
  rcases ho.2 with ⟨rfl, _⟩ | ⟨g', cap, cur, rfl, _, hg, _⟩
  · simp [Value.ownBlock] at he
  · simp [Value.ownBlock] at he
    subst he
    rw [hb] at hg
    simp at hg

theorem wp_appJ {w : World} {ops : Array Oper} {rest : List Oper} {o : Oper} {a : Act} {Q : Exit → Act → World → Prop} (hgd : o.guard = none) (s x : Operand)
    (ho : o.op = .call { callee := .builtin .append, args := #[s, x], argTypes := #[26, 26] })
    (B : Nat) (v : Value) (l : List Nat) (hs : a.eval s = v) (hown : w.ownsRow B 3 1 v l.length (iv l)) (hsz : B ≤ w.heap.size)
    (ad : Addr) (n : Nat) (hx : a.eval x = .slice (some ad) 1 1) (hnews : w.cell? ad = some (.int .i64 (n : Int))) (hlen : l.length ≤ 1000000)
    (h : ∀ v' w', w'.ownsRow B 3 1 v' (l ++ [n]).length (iv (l ++ [n])) → w.grownBy w' v.ownBlock → wpList Tryz.prog ops Q rest (a.put o.dst v') w') : wpList Tryz.prog ops Q (o :: rest) a w := by
  obtain ⟨i0, hi, hz0, hz1, hz2⟩ := info_parts Tryz.info3
  refine wpList_append_own _ hgd s x 26 ho B 3 i0 (.int .i64 0) 1 8 Tryz.underlying26 hi hz0 hz1 hz2 rfl (by decide) v l.length (iv l) hs hown ad 1 1 (iv [n]) hx (by simp [iv]) ?_
    (fun u hu => by simp [iv] at hu; subst hu; rfl) (by unfold maxLen; omega) (by omega) hsz ?_
  · intro j u hj
    match j, hj with
    | 0, hj =>
      simp [iv] at hj
      subst hj
      have : ad.add 0 = ad := by unfold Addr.add; split <;> simp_all
      rw [this]
      exact hnews
  · intro v' w' h1 h2 _
    exact h v' w' (by rw [List.length_append, iv_append]; exact h1) h2

theorem one_int (w : World) (y : Nat) (t : TypeId) : (w.alloc (.cells #[.int .i64 (y : Int)] t)).cell? ⟨w.heap.size, 0, none⟩ = some (.int .i64 (y : Int)) := by simp

def PlRel (w : World) (g : Nat) (v u i : Value) (wr : World) : Prop :=
  ∃ (k : Nat) (l : List Nat), k ≤ 12 ∧ i = .int .i64 k ∧ l.length = k ∧ (∀ x ∈ l, x < 10000) ∧ wr.ownsRow w.heap.size 3 1 u l.length (iv l) ∧ Cur w.heap.size w wr g v

/-- what DrawPlaces gives: a row of twelve numbers -/
def Places (w w' : World) (v : Value) : Prop :=
  ∃ (g cap : Nat) (xs : List Nat), v = .slice (some ⟨g, 0, none⟩) 12 cap ∧ xs.length = 12 ∧ (∀ x ∈ xs, x < 10000) ∧ w.heap.size ≤ g ∧ g < w'.heap.size ∧ ∀ j, (h : j < xs.length) → w'.cell? ⟨g, j, none⟩ = some (.int .i64 (xs[j] : Int))

set_option maxRecDepth 100000 in
set_option maxHeartbeats 1000000 in
theorem DrawPlaces_any (w : World) (v : Value) (hc : Code w.heap.size w v) :
    Calls Tryz.prog 7 #[v] w fun e w' => ∃ u, e = .returned u ∧ Places w w' u ∧ Below w.heap.size w w' := by
  have HC : Hid (Code w.heap.size w v) := hc
  clear hc
  go_enter Tryz.func7, Tryz.ntmps7
  go_wp2_with fail
  refine (l01New_in w v HC.out).mono ?_
  rintro e w1 ⟨g, rfl, hc1, hb1⟩
  go_wp2_with fail
  refine (l01Byte_in w.heap.size w _ g v hc1).mono ?_
  rintro e w2 ⟨x, hx, rfl, hc2, hg2⟩
  go_wp2
  go_loopw [4, 5] (fun u i wr => PlRel w g v u i wr) (fun _ i _ => 12 - (intOf i).toNat)
  case atStart =>
    have hB := hc2.size
    refine ⟨0, [], by omega, rfl, rfl, by simp, World.ownsRow_made w2 #[] 0 hB (by decide) (by simp), ?_⟩
    exact hc2.kept (World.grownBy_alloc w2 _ none) (by simp) hc2.size (fun k hk => by cases hk)
  case round =>
    obtain ⟨k, l, hk, rfl, hll, hall, hrow, hcr⟩ := hrel
    by_cases hlt : k < 12
    · go_wp2_with fail
      refine (l01Below_in w.heap.size w _ g v 10000 10000 rfl hcr (by omega) (by omega)).mono ?_
      rintro e w3 ⟨y, hy, rfl, hc3, hg3⟩
      have hrow3 : w3.ownsRow w.heap.size 3 1 u4 l.length (iv l) := World.ownsRow.kept hrow hg3 (.inr (own_neI hcr hrow).symm)
      have hB := hc3.size
      go_wp2_with (at_builtin; refine wp_appJ rfl _ _ rfl w.heap.size _ l rfl (World.ownsRow.alloc hrow3 _) ?c0 ⟨w3.heap.size, 0, none⟩ y rfl ?c1 ?c2 ?_)
      case c0 => simp; omega
      case c1 => exact one_int _ _ _
      case c2 => omega
      intro v' w4 hrow4 hg4
      have hne := own_neI hc3 hrow3
      have hge : ∀ j, u4.ownBlock = some j → w.heap.size ≤ j := fun j hj => (World.ownsRow.lt hrow3 j hj).1
      have hca : Cur w.heap.size w (w3.alloc (.cells #[.int .i64 (y : Int)] 3)) g v := hc3.kept (World.grownBy_alloc w3 _ none) (by simp) hc3.size (fun k hk => by cases hk)
      have hc4 : Cur w.heap.size w w4 g v := hca.kept hg4 hne hca.size hge
      have hall4 : ∀ x ∈ l ++ [y], x < 10000 := by
        intro x hx
        rcases List.mem_append.1 hx with h | h
        · exact hall x h
        · simp at h; omega
      have HR4 : Hid (w4.ownsRow w.heap.size 3 1 v' (l ++ [y]).length (iv (l ++ [y]))) := by
        show w4.ownsRow w.heap.size 3 1 v' (l ++ [y]).length (iv (l ++ [y]))
        have e : (l ++ [y]).length = k + 1 := by simp; omega
        rw [e]
        exact hrow4
      have HA4 : Hid (∀ x ∈ l ++ [y], x < 10000) := hall4
      clear hca hne hge hg4 hrow3 hrow4 hc3 hg3 hall hall4
      go_wp2
      go_roundw
      case rel => exact ⟨k + 1, l ++ [y], by omega, by go_num, by simp; omega, HA4.out, HR4.out, hc4⟩
      case measure => simp [intOf] <;> omega
    · have hke : k = 12 := by omega
      subst hke
      rw [hll] at hrow
      obtain ⟨gr, cap, rfl, hlt2⟩ := World.ownsRow.form hrow (by omega)
      have HP : Hid (Places w wr (.slice (some ⟨gr, 0, none⟩) 12 cap)) := by
        refine ⟨gr, cap, l, rfl, hll, hall, hlt2.1, hlt2.2, ?_⟩
        intro j hj
        rw [hrow.cellAt j (by omega)]
        simp [iv, List.getElem?_eq_getElem hj]
      have hbel := hcr.2.1
      clear hrow hall hlt2 hcr
      go_wp2
      go_ret
      exact ⟨_, rfl, HP.out, hbel⟩

end Go.Proofs.YtmcejkfknbjjkaaGreatDoor
