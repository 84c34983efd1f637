/-
  Texts laid together: Nb, Nc, Ch.
-/
import Derived.Test.YtiabodhgjeoejaaPkC12
import Derived.Test.YtiabodhgjeoejaaPkC3
/-
  A leaf put into a list: the specification's answer.
-/
namespace Go.Proofs.Ytiabodhgjeoejaa
open Go.RowKit Go.BigFrame Go.Sort
set_option linter.unusedVariables false
set_option linter.unusedSimpArgs false

theorem put_wout (L : List Le) (f : Le) : (LV.wout L f.n).filter (fun g => F.ltN g.n f.n) ++ [f] ++ (LV.wout L f.n).filter (fun g => F.ltN f.n g.n) = LV.put L f := by
  unfold LV.put LV.wout
  rw [List.filter_filter, List.filter_filter, List.append_assoc]
  have e1 : (fun a : Le => F.ltN a.n f.n && !decide (a.n = f.n)) = fun a => F.ltN a.n f.n := by
    funext a
    cases h : F.ltN a.n f.n
    · rfl
    · rw [decide_eq_false (F.ltN_ne h)]; rfl
  have e2 : (fun a : Le => F.ltN f.n a.n && !decide (a.n = f.n)) = fun a => F.ltN f.n a.n := by
    funext a
    cases h : F.ltN f.n a.n
    · rfl
    · rw [decide_eq_false (fun e => F.ltN_ne h e.symm)]; rfl
  rw [e1, e2]
  rfl
theorem small_put {L : List Le} {f : Le} (h : SmallL L) (hn : f.n.size ≤ 1048576) (hv : f.v.size ≤ 1048576) : SmallL (LV.put L f) := fun g hg => by
  rcases LV.mem_put.1 hg with rfl | ⟨h1, _⟩
  · exact ⟨hn, hv⟩
  · exact h g h1

/-- what grows, and the row that it is taken of -/
def NbS (w wr : World) (u : Value) (l : List Le) (v : Value) (g : Nat) (K : List Le) : Prop := OL w.heap.size w wr u l ∧ RS 2 lcs wr v g 0 K ∧ (0 < K.length → u.ownBlock ≠ some g ∧ g < wr.heap.size)
theorem NbS.later {w wr W : World} {u v : Value} {l K : List Le} {g : Nat} (h : NbS w wr u l v g K) (hb : Below wr.heap.size wr W) : NbS w W u l v g K := ⟨h.1.later hb, h.2.1.later hb, fun hp => ⟨(h.2.2 hp).1, Nat.lt_of_lt_of_le (h.2.2 hp).2 hb.size⟩⟩
theorem NbS.app {w wr W : World} {u v : Value} {l l' K : List Le} {g g5 n5 cap5 : Nat} (h : NbS w wr u l v g K) (ho : OL w.heap.size w W (.slice (some ⟨g5, 0, none⟩) n5 cap5) l') (hg : wr.grownBy W u.ownBlock) (hl : u.ownBlock = some g5 ∨ g5 = wr.heap.size) : NbS w W (.slice (some ⟨g5, 0, none⟩) n5 cap5) l' v g K := by
  refine ⟨ho, h.2.1.grown hg (fun hp => fun e => (h.2.2 hp).1 e.symm), fun hp => ⟨?_, Nat.lt_of_lt_of_le (h.2.2 hp).2 hg.size⟩⟩
  intro e
  have e5 : g5 = g := by simpa [Value.ownBlock] using e
  rcases hl with h1 | h1
  · exact (h.2.2 hp).1 (by rw [h1, e5])
  · have := (h.2.2 hp).2
    omega

theorem le_of_notL {a b : ByteArray} (h : F.ltN b a = false) : (Op.bytesLess a.toList b.toList || a.toList == b.toList) = true := by
  rcases F.ltN_tri a b with h1 | h1 | h1
  · have : Op.bytesLess a.toList b.toList = true := h1
    rw [this]; rfl
  · subst h1; simp
  · rw [h] at h1; cases h1
theorem gt_ofL {a b : ByteArray} (h : F.ltN b a = true) : (Op.bytesLess a.toList b.toList || a.toList == b.toList) = false := by
  have h1 : Op.bytesLess a.toList b.toList = false := F.ltN_asymm h
  rw [h1, LV.bytes_ne (F.ltN_ne h).symm]
  rfl
def ltP (x : ByteArray) (g : Le) : Bool := F.ltN g.n x
def gtP (x : ByteArray) (g : Le) : Bool := F.ltN x g.n
/-- the first m leaves that P wants, behind those of l0 -/
def flL (l0 : List Le) (P : Le → Bool) (K : List Le) (m : Nat) : List Le := l0 ++ (K.take m).filter P
theorem flL_step (l0 : List Le) (P : Le → Bool) (K : List Le) (m : Nat) (h : m < K.length) : flL l0 P K (m + 1) = if P K[m] = true then flL l0 P K m ++ [K[m]] else flL l0 P K m := by
  unfold flL
  rw [LV.filt_step P h]
  split <;> simp
theorem flL_len (l0 : List Le) (P : Le → Bool) (K : List Le) (m : Nat) : (flL l0 P K m).length ≤ l0.length + K.length := by
  have := LV.filt_len K m P
  simp only [flL, List.length_append]
  omega
theorem flL_all (l0 : List Le) (P : Le → Bool) (K : List Le) : flL l0 P K K.length = l0 ++ K.filter P := by simp [flL]
theorem flL_zero (l0 : List Le) (P : Le → Bool) (K : List Le) : flL l0 P K 0 = l0 := by simp [flL]

def NbR (w : World) (l0 : List Le) (P : Le → Bool) (v : Value) (g : Nat) (K : List Le) (u i : Value) (wr : World) : Prop := ∃ (m : Nat) (au : Option Addr) (cu : Nat), m ≤ K.length ∧ i = .int .i64 m ∧ u = .slice au (flL l0 P K m).length cu ∧ Hid (NbS w wr u (flL l0 P K m) v g K)

set_option maxRecDepth 100000 in
set_option maxHeartbeats 4000000 in
theorem sLeafPutN_any (p : Option Addr) (cap : Nat) (ga oa : Nat) (L : List Le) (x y : ByteArray) (w : World) (hv : RS 2 lcs w (.slice p L.length cap) ga oa L) (hnil : p = none → cap = 0) (hsm : SmallL L) (hL : L.length ≤ 1048576) (hn : x.size ≤ 1048576) (hvs : y.size ≤ 1048576) :
    Calls Try.prog 67 #[.slice p L.length cap, .string x, .string y] w (LqN (LV.putR L ⟨x, y⟩) (LV.putB L ⟨x, y⟩) w) := by
  have HV : Hid (RS 2 lcs w (.slice p L.length cap) ga oa L ∧ SmallL L ∧ SmallL (LV.put L ⟨x, y⟩)) := ⟨hv, hsm, small_put hsm hn hvs⟩
  have hb1 : Below w.heap.size w (w.alloc (.cells #[] 73)) := (Below.refl _ _).alloc (Nat.le_refl _) _
  have hW := l09Without_any _ ga oa L x _ (hv.later hb1)
  have ho1 : OL w.heap.size w (w.alloc (.cells #[] 73)) (.slice (some ⟨w.heap.size, 0, none⟩) 0 0) [] := OL.made _ w w (Below.refl _ _) (Nat.le_refl _)
  have HO1 : Hid (OL w.heap.size w (w.alloc (.cells #[] 73)) (.slice (some ⟨w.heap.size, 0, none⟩) 0 0) []) := ho1
  have hKl : (LV.wout L x).length ≤ L.length := LV.len_wout_le L x
  have hPl : (LV.put L ⟨x, y⟩).length ≤ 1100000 := by rw [LV.len_put]; show (LV.wout L x).length + 1 ≤ 1100000; omega
  have HPW : Hid ((LV.wout L x).filter (ltP x) ++ [⟨x, y⟩] ++ (LV.wout L x).filter (gtP x) = LV.put L ⟨x, y⟩) := put_wout L ⟨x, y⟩
  clear hv hsm hb1 ho1
  go_enter Try.func67, Try.ntmps67
  go_wp2_with fail
  refine hW.mono ?_
  rintro e w2 ⟨u2, rfl, ho2⟩
  obtain ⟨g2, hr2, hg2, _⟩ := ho2.rw (by omega)
  obtain ⟨a2, c2, rfl⟩ := ho2.shape
  generalize LV.wout L x = K at *
  have HST : Hid (NbR w [] (ltP x) (.slice a2 K.length c2) g2 K (.slice (some ⟨w.heap.size, 0, none⟩) 0 0) (.int .i64 0) w2) := by
    refine ⟨0, some ⟨w.heap.size, 0, none⟩, 0, by omega, rfl, by simp [flL], ?_⟩
    rw [flL_zero]
    refine ⟨HO1.out.later ho2.2.1, hr2.1, fun hp => ⟨?_, hr2.lt hp⟩⟩
    intro e
    have e5 : w.heap.size = g2 := by simpa [Value.ownBlock] using e
    simp at hg2
    omega
  have HA2 : Hid (0 < K.length → a2 = some ⟨g2, 0, none⟩) := fun hp => by
    obtain ⟨⟨a', c', ev, _, h1, _⟩, _⟩ := hr2
    simp at ev
    rw [ev.1]
    exact (h1 hp).1
  clear hW ho2 hr2 hg2 HO1
  go_wp2
  go_loopw [8, 10] (fun u i wr => NbR w [] (ltP x) (.slice a2 K.length c2) g2 K u i wr) (fun _ i _ => K.length - (intOf i).toNat)
  case atStart => exact HST.out
  case round =>
    obtain ⟨m, au, cu, hm, rfl, rfl, HI⟩ := hrel
    clear HST
    by_cases hlt : m < K.length
    · have ea := HA2.out (by omega)
      subst ea
      obtain ⟨c0, c1⟩ := HI.out.2.1.leaf m hlt
      obtain ⟨X, hX⟩ : ∃ X, K[m]'hlt = X := ⟨_, rfl⟩
      rw [hX, Nat.zero_add] at c0 c1
      have hst := flL_step [] (ltP x) K m hlt
      rw [hX] at hst
      have hle : (flL [] (ltP x) K m).length ≤ K.length := by simpa using flL_len [] (ltP x) K m
      have i1 : (m : Int) < (K.length : Int) := by omega
      have i2 : (0 : Int) ≤ (m : Int) := by omega
      clear hX
      cases hk : ltP x X
      · have q : Op.bytesLess X.n.toList x.toList = false := hk
        rw [hk] at hst
        have HJ : Hid (NbS w wr (.slice au (flL [] (ltP x) K m).length cu) (flL [] (ltP x) K (m + 1)) (.slice (some ⟨g2, 0, none⟩) K.length c2) g2 K ∧ (flL [] (ltP x) K m).length = (flL [] (ltP x) K (m + 1)).length) := by rw [hst]; exact ⟨HI.out, rfl⟩
        generalize hl : flL [] (ltP x) K m = l at *
        clear HI hst hk hl
        go_wp2
        go_roundw
        case rel => exact ⟨m + 1, au, cu, by omega, by go_num, by rw [← HJ.out.2], HJ.out.1⟩
        case measure => simp [intOf]; omega
      · have q : Op.bytesLess X.n.toList x.toList = true := hk
        rw [hk] at hst
        have HJ : Hid (flL [] (ltP x) K (m + 1) = flL [] (ltP x) K m ++ [X]) := hst
        generalize hl : flL [] (ltP x) K m = l at *
        have hba : Below wr.heap.size wr (wr.alloc (.cells #[.string X.n, .string X.v] 73)) := (Below.refl _ _).alloc (Nat.le_refl _) _
        have HSA : Hid (NbS w (wr.alloc (.cells #[.string X.n, .string X.v] 73)) (.slice au l.length cu) l (.slice (some ⟨g2, 0, none⟩) K.length c2) g2 K) := HI.out.later hba
        have HRN : Hid ((wr.alloc (.cells #[.string X.n, .string X.v] 73)).rangeAt wr.heap.size 0 (lcs X)) := range_new _ [.string X.n, .string X.v] 73
        clear hba HI hst hk hl
        go_wp2_with (at_builtin; refine wp_leafL rfl _ _ rfl w.heap.size w (.slice au l.length cu) l X rfl HSA.out.1 _ rfl HRN.out (by omega) ?_)
        intro g5 cap5 w5 ho5 hg5 hl5
        have HK : Hid (NbS w w5 (.slice (some ⟨g5, 0, none⟩) (l.length + 1) cap5) (flL [] (ltP x) K (m + 1)) (.slice (some ⟨g2, 0, none⟩) K.length c2) g2 K ∧ l.length + 1 = (flL [] (ltP x) K (m + 1)).length) := ⟨HSA.out.app (by rw [HJ.out]; exact ho5) hg5 (by simpa using hl5), by rw [HJ.out]; simp⟩
        clear ho5 hg5 hl5 HSA HRN HJ c0 c1
        go_wp2
        go_roundw
        case rel => exact ⟨m + 1, _, _, by omega, by go_num, by rw [← HK.out.2], HK.out.1⟩
        case measure => simp [intOf]; omega
    · have hme : m = K.length := by omega
      subst hme
      have hfl := flL_all [] (ltP x) K
      have hle := flL_len [] (ltP x) K K.length
      have HPW2 : Hid ((flL [] (ltP x) K K.length ++ [⟨x, y⟩]) ++ K.filter (gtP x) = LV.put L ⟨x, y⟩) := by rw [hfl, List.nil_append]; exact HPW.out
      generalize flL [] (ltP x) K K.length = l at *
      have hba : Below wr.heap.size wr (wr.alloc (.cells #[.string x, .string y] 73)) := (Below.refl _ _).alloc (Nat.le_refl _) _
      have HSA : Hid (NbS w (wr.alloc (.cells #[.string x, .string y] 73)) (.slice au l.length cu) l (.slice a2 K.length c2) g2 K) := HI.out.later hba
      have HRN : Hid ((wr.alloc (.cells #[.string x, .string y] 73)).rangeAt wr.heap.size 0 (lcs ⟨x, y⟩)) := range_new _ [.string x, .string y] 73
      clear hba HI hfl HPW
      go_wp2_with (at_builtin; refine wp_leafL rfl _ _ rfl w.heap.size w (.slice au l.length cu) l ⟨x, y⟩ rfl HSA.out.1 _ rfl HRN.out (by simp at hle; omega) ?_)
      intro g5 cap5 w5 ho5 hg5 hl5
      have HS5 : Hid (NbS w w5 (.slice (some ⟨g5, 0, none⟩) (l.length + 1) cap5) (l ++ [⟨x, y⟩]) (.slice a2 K.length c2) g2 K ∧ l.length + 1 = (l ++ [(⟨x, y⟩ : Le)]).length) := ⟨HSA.out.app ho5 hg5 (by simpa using hl5), by simp⟩
      have hl2 : (l ++ [(⟨x, y⟩ : Le)]).length ≤ K.length + 1 := by simp at hle ⊢; omega
      clear ho5 hg5 hl5 HSA HRN hle
      generalize l ++ [(⟨x, y⟩ : Le)] = l2 at *
      have HST : Hid (NbR w l2 (gtP x) (.slice a2 K.length c2) g2 K (.slice (some ⟨g5, 0, none⟩) (l.length + 1) cap5) (.int .i64 0) w5) := by
        refine ⟨0, some ⟨g5, 0, none⟩, cap5, by omega, rfl, by rw [flL_zero, HS5.out.2], ?_⟩
        rw [flL_zero]
        exact HS5.out.1
      clear HS5
      generalize l.length + 1 = n5 at *
      go_wp2
      go_loopw [8, 11] (fun u i wr => NbR w l2 (gtP x) (.slice a2 K.length c2) g2 K u i wr) (fun _ i _ => K.length - (intOf i).toNat)
      case atStart => exact HST.out
      case round =>
        obtain ⟨m, au, cu, hm, rfl, rfl, HI⟩ := hrel
        clear HST
        by_cases hlt : m < K.length
        · have ea := HA2.out (by omega)
          subst ea
          obtain ⟨c0, c1⟩ := HI.out.2.1.leaf m hlt
          obtain ⟨X, hX⟩ : ∃ X, K[m]'hlt = X := ⟨_, rfl⟩
          rw [hX, Nat.zero_add] at c0 c1
          have hst := flL_step l2 (gtP x) K m hlt
          rw [hX] at hst
          have hle : (flL l2 (gtP x) K m).length ≤ l2.length + K.length := by simpa using flL_len l2 (gtP x) K m
          have i1 : (m : Int) < (K.length : Int) := by omega
          have i2 : (0 : Int) ≤ (m : Int) := by omega
          clear hX
          cases hk : gtP x X
          · have q : (Op.bytesLess X.n.toList x.toList || X.n.toList == x.toList) = true := le_of_notL hk
            rw [hk] at hst
            have HJ : Hid (NbS w wr (.slice au (flL l2 (gtP x) K m).length cu) (flL l2 (gtP x) K (m + 1)) (.slice (some ⟨g2, 0, none⟩) K.length c2) g2 K ∧ (flL l2 (gtP x) K m).length = (flL l2 (gtP x) K (m + 1)).length) := by rw [hst]; exact ⟨HI.out, rfl⟩
            generalize hl : flL l2 (gtP x) K m = l at *
            clear HI hst hk hl
            go_wp2
            go_roundw
            case rel => exact ⟨m + 1, au, cu, by omega, by go_num, by rw [← HJ.out.2], HJ.out.1⟩
            case measure => simp [intOf]; omega
          · have q : (Op.bytesLess X.n.toList x.toList || X.n.toList == x.toList) = false := gt_ofL hk
            rw [hk] at hst
            have HJ : Hid (flL l2 (gtP x) K (m + 1) = flL l2 (gtP x) K m ++ [X]) := hst
            generalize hl : flL l2 (gtP x) K m = l at *
            have hba : Below wr.heap.size wr (wr.alloc (.cells #[.string X.n, .string X.v] 73)) := (Below.refl _ _).alloc (Nat.le_refl _) _
            have HSA : Hid (NbS w (wr.alloc (.cells #[.string X.n, .string X.v] 73)) (.slice au l.length cu) l (.slice (some ⟨g2, 0, none⟩) K.length c2) g2 K) := HI.out.later hba
            have HRN : Hid ((wr.alloc (.cells #[.string X.n, .string X.v] 73)).rangeAt wr.heap.size 0 (lcs X)) := range_new _ [.string X.n, .string X.v] 73
            clear hba HI hst hk hl
            go_wp2_with (at_builtin; refine wp_leafL rfl _ _ rfl w.heap.size w (.slice au l.length cu) l X rfl HSA.out.1 _ rfl HRN.out (by omega) ?_)
            intro g5 cap5 w5 ho5 hg5 hl5
            have HK : Hid (NbS w w5 (.slice (some ⟨g5, 0, none⟩) (l.length + 1) cap5) (flL l2 (gtP x) K (m + 1)) (.slice (some ⟨g2, 0, none⟩) K.length c2) g2 K ∧ l.length + 1 = (flL l2 (gtP x) K (m + 1)).length) := ⟨HSA.out.app (by rw [HJ.out]; exact ho5) hg5 (by simpa using hl5), by rw [HJ.out]; simp⟩
            clear ho5 hg5 hl5 HSA HRN HJ c0 c1
            go_wp2
            go_roundw
            case rel => exact ⟨m + 1, _, _, by omega, by go_num, by rw [← HK.out.2], HK.out.1⟩
            case measure => simp [intOf]; omega
        · have hme : m = K.length := by omega
          subst hme
          have hfl : flL l2 (gtP x) K K.length = LV.put L ⟨x, y⟩ := by rw [flL_all]; exact HPW2.out
          have HI2 : Hid (OL w.heap.size w wr (.slice au (flL l2 (gtP x) K K.length).length cu) (LV.put L ⟨x, y⟩)) := by rw [← hfl]; exact HI.out.1
          rw [hfl] at HI2 ⊢
          clear HI hfl HPW2
          have h1 := sLeavesOk_any _ ga oa L wr (HV.out.1.later HI2.out.2.1) HV.out.2.1
          obtain ⟨gq, hrq, hgq, _⟩ := HI2.out.rw hPl
          have HO2 : Hid (∀ W, Below wr.heap.size wr W → Calls Try.prog 91 #[.slice au (LV.put L ⟨x, y⟩).length cu] W fun e w' => e = .returned (.bool (LV.leavesB (LV.put L ⟨x, y⟩))) ∧ Below W.heap.size W w') := fun W hW => sLeavesOk_any _ gq 0 _ W (hrq.1.later hW) HV.out.2.2
          have HRQ : Hid (RW 2 lcs wr (.slice au (LV.put L ⟨x, y⟩).length cu) gq (LV.put L ⟨x, y⟩) ∧ w.heap.size ≤ gq ∧ Below w.heap.size w wr ∧ (au = none → cu = 0)) := ⟨hrq, hgq, HI2.out.2.1, HI2.out.nil0⟩
          have HPB : Hid (LV.putB L ⟨x, y⟩ = (LV.leavesB L && LV.leavesB (LV.put L ⟨x, y⟩))) := LV.putB_spec L ⟨x, y⟩
          have HPN : Hid (LV.putB L ⟨x, y⟩ = false → LV.putR L ⟨x, y⟩ = L) := putR_no
          have HPY : Hid (LV.putB L ⟨x, y⟩ = true → LV.putR L ⟨x, y⟩ = LV.put L ⟨x, y⟩) := putR_yes
          have HNO : Hid (∀ W v', OL w.heap.size w W v' L → LV.putB L ⟨x, y⟩ = false → LqN (LV.putR L ⟨x, y⟩) (LV.putB L ⟨x, y⟩) w (.returned (.tuple #[v', .bool false])) W) := fun W v' ho hf => by
            rw [HPN.out hf, hf]
            obtain ⟨gz, hrz, hgz, _⟩ := ho.rw (by omega)
            obtain ⟨az, cz, rfl⟩ := ho.shape
            exact ⟨az, cz, gz, rfl, hrz, hgz, ho.2.1, ho.nil0⟩
          clear hrq hgq HI2
          generalize LV.put L ⟨x, y⟩ = M at *
          cases hR1 : LV.leavesB L
          · rw [hR1] at h1
            rw [hR1, Bool.false_and] at HPB
            go_wp2_with fail
            refine h1.mono ?_
            rintro e w6 ⟨rfl, hb6⟩
            have b6 : Below w.heap.size w w6 := HRQ.out.2.2.1.trans (hb6.mono HRQ.out.2.2.1.size)
            clear h1 hb6
            have ho6 : OL w.heap.size w (w6.alloc (.cells #[] 73)) (.slice (some ⟨w6.heap.size, 0, none⟩) 0 0) [] := OL.made _ w w6 b6 b6.size
            have hrs6 := HV.out.1.later (b6.alloc b6.size (.cells #[] 73))
            clear HO2 HRQ HPN HPY HV
            go_wp2_with (at_builtin; refine wp_rowL rfl _ _ rfl w.heap.size w w6.heap.size rfl ho6 p ga oa cap L rfl hrs6 hnil ?_)
            intro v' w7 ho7
            have HF := HNO.out w7 v' ho7 HPB.out
            have HF2 : Hid (LqN (LV.putR L ⟨x, y⟩) (LV.putB L ⟨x, y⟩) w (.returned (.tuple #[v', .bool false])) w7) := HF
            clear ho7 ho6 hrs6 HNO HF b6
            go_wp2
            go_ret2
            exact HF2.out
          · rw [hR1] at h1
            rw [hR1, Bool.true_and] at HPB
            go_wp2_with fail
            refine h1.mono ?_
            rintro e w6 ⟨rfl, hb6⟩
            clear h1
            go_wp2_with fail
            refine (HO2.out _ hb6).mono ?_
            rintro e w8 ⟨rfl, hb8⟩
            have hb9 : Below wr.heap.size wr w8 := hb6.trans (hb8.mono hb6.size)
            have b6 : Below w.heap.size w w8 := HRQ.out.2.2.1.trans (hb9.mono HRQ.out.2.2.1.size)
            cases hR2 : LV.leavesB M
            · rw [hR2] at HPB
              clear hb6 hb8 hb9
              have ho6 : OL w.heap.size w (w8.alloc (.cells #[] 73)) (.slice (some ⟨w8.heap.size, 0, none⟩) 0 0) [] := OL.made _ w w8 b6 b6.size
              have hrs6 := HV.out.1.later (b6.alloc b6.size (.cells #[] 73))
              clear HO2 HRQ HPN HPY HV
              go_wp2_with (at_builtin; refine wp_rowL rfl _ _ rfl w.heap.size w w8.heap.size rfl ho6 p ga oa cap L rfl hrs6 hnil ?_)
              intro v' w7 ho7
              have HF := HNO.out w7 v' ho7 HPB.out
              have HF2 : Hid (LqN (LV.putR L ⟨x, y⟩) (LV.putB L ⟨x, y⟩) w (.returned (.tuple #[v', .bool false])) w7) := HF
              clear ho7 ho6 hrs6 HNO HF b6
              go_wp2
              go_ret2
              exact HF2.out
            · rw [hR2] at HPB
              have HF2 : Hid (LqN (LV.putR L ⟨x, y⟩) (LV.putB L ⟨x, y⟩) w (.returned (.tuple #[.slice au M.length cu, .bool true])) w8) := by
                unfold LqN
                rw [HPY.out HPB.out, HPB.out]
                exact ⟨au, cu, gq, rfl, HRQ.out.1.later hb9, HRQ.out.2.1, b6, HRQ.out.2.2.2⟩
              clear hb6 hb8 hb9 b6 HO2 HRQ HPN HPY HV HNO
              go_wp2
              go_ret2
              exact HF2.out
theorem sLeafPut_any (p : Option Addr) (cap : Nat) (ga oa : Nat) (L : List Le) (x y : ByteArray) (w : World) (hv : RS 2 lcs w (.slice p L.length cap) ga oa L) (hnil : p = none → cap = 0) (hsm : SmallL L) (hL : L.length ≤ 1048576) (hn : x.size ≤ 1048576) (hvs : y.size ≤ 1048576) :
    Calls Try.prog 67 #[.slice p L.length cap, .string x, .string y] w (LqP (LV.putR L ⟨x, y⟩) (LV.putB L ⟨x, y⟩) w) := (sLeafPutN_any p cap ga oa L x y w hv hnil hsm hL hn hvs).mono fun _ _ h => h.plain

end Go.Proofs.Ytiabodhgjeoejaa
/-
  A leaf dropped from a list: the specification's answer.
-/
namespace Go.Proofs.Ytiabodhgjeoejaa
open Go.RowKit Go.BigFrame Go.Sort
set_option linter.unusedVariables false
set_option linter.unusedSimpArgs false

set_option maxRecDepth 100000 in
set_option maxHeartbeats 2000000 in
theorem sLeafDropN_any (p : Option Addr) (cap : Nat) (ga oa : Nat) (L : List Le) (x : ByteArray) (w : World) (hv : RS 2 lcs w (.slice p L.length cap) ga oa L) (hnil : p = none → cap = 0) (hsm : SmallL L) (hL : L.length ≤ 1048576) :
    Calls Try.prog 66 #[.slice p L.length cap, .string x] w (LqN (LV.dropR L x) (LV.dropB L x) w) := by
  have HV : Hid (RS 2 lcs w (.slice p L.length cap) ga oa L ∧ SmallL L) := ⟨hv, hsm⟩
  have h0 := sLeafGet_any _ ga oa L x w hv
  have HDB : Hid (LV.dropB L x = (LV.leavesB L && LV.getB L x)) := rfl
  have HNO : Hid (∀ W v', OL w.heap.size w W v' L → LV.dropB L x = false → LqN (LV.dropR L x) (LV.dropB L x) w (.returned (.tuple #[v', .bool false])) W) := fun W v' ho hf => by
    rw [dropR_no hf, hf]
    obtain ⟨gz, hrz, hgz, _⟩ := ho.rw (by omega)
    obtain ⟨az, cz, rfl⟩ := ho.shape
    exact ⟨az, cz, gz, rfl, hrz, hgz, ho.2.1, ho.nil0⟩
  have HYE : Hid (∀ V W v', Below w.heap.size w V → OL V.heap.size V W v' (LV.wout L x) → LV.dropB L x = true → LqN (LV.dropR L x) (LV.dropB L x) w (.returned (.tuple #[v', .bool true])) W) := fun V W v' hV ho hf => by
    rw [dropR_yes hf, hf]
    obtain ⟨gz, hrz, hgz, _⟩ := ho.rw (by have := LV.len_wout_le L x; omega)
    obtain ⟨az, cz, rfl⟩ := ho.shape
    exact ⟨az, cz, gz, rfl, hrz, by have := hV.size; omega, hV.trans (ho.2.1.mono hV.size), ho.nil0⟩
  have HOK : Hid (∀ W, Below w.heap.size w W → Calls Try.prog 91 #[.slice p L.length cap] W fun e w' => e = .returned (.bool (LV.leavesB L)) ∧ Below W.heap.size W w') := fun W hW => sLeavesOk_any _ ga oa L W (hv.later hW) hsm
  have HWO : Hid (∀ W, Below w.heap.size w W → Calls Try.prog 92 #[.slice p L.length cap, .string x] W fun e w' => ∃ u, e = .returned u ∧ OL W.heap.size W w' u (LV.wout L x)) := fun W hW => l09Without_any _ ga oa L x W (hv.later hW)
  clear hv hsm
  generalize LV.getV L x = T at *
  go_enter Try.func66, Try.ntmps66
  go_wp2_with fail
  refine h0.mono ?_
  rintro e w1 ⟨rfl, hb1⟩
  clear h0
  go_wp2_with fail
  refine (HOK.out _ hb1).mono ?_
  rintro e w2 ⟨rfl, hb2⟩
  have b2 := hb1.trans (hb2.mono hb1.size)
  clear hb1 hb2 HOK
  have ho6 : OL w.heap.size w (w2.alloc (.cells #[] 73)) (.slice (some ⟨w2.heap.size, 0, none⟩) 0 0) [] := OL.made _ w w2 b2 b2.size
  have hrs6 := HV.out.1.later (b2.alloc b2.size (.cells #[] 73))
  cases hR1 : LV.leavesB L
  · rw [hR1, Bool.false_and] at HDB
    clear HWO HV
    go_wp2_with (at_builtin; refine wp_rowL rfl _ _ rfl w.heap.size w w2.heap.size rfl ho6 p ga oa cap L rfl hrs6 hnil ?_)
    intro v' w7 ho7
    have HF2 : Hid (LqN (LV.dropR L x) (LV.dropB L x) w (.returned (.tuple #[v', .bool false])) w7) := HNO.out w7 v' ho7 HDB.out
    clear ho7 ho6 hrs6 HNO HYE b2
    go_wp2
    go_ret2
    exact HF2.out
  · rw [hR1, Bool.true_and] at HDB
    cases hR2 : LV.getB L x
    · rw [hR2] at HDB
      clear HWO HV
      go_wp2_with (at_builtin; refine wp_rowL rfl _ _ rfl w.heap.size w w2.heap.size rfl ho6 p ga oa cap L rfl hrs6 hnil ?_)
      intro v' w7 ho7
      have HF2 : Hid (LqN (LV.dropR L x) (LV.dropB L x) w (.returned (.tuple #[v', .bool false])) w7) := HNO.out w7 v' ho7 HDB.out
      clear ho7 ho6 hrs6 HNO HYE b2
      go_wp2
      go_ret2
      exact HF2.out
    · rw [hR2] at HDB
      clear ho6 hrs6 HV
      go_wp2_with fail
      refine (HWO.out _ b2).mono ?_
      rintro e w3 ⟨u, rfl, ho3⟩
      have HF2 : Hid (LqN (LV.dropR L x) (LV.dropB L x) w (.returned (.tuple #[u, .bool true])) w3) := HYE.out w2 w3 u b2 ho3 HDB.out
      clear ho3 HNO HYE b2 HWO
      go_wp2
      go_ret2
      exact HF2.out
theorem sLeafDrop_any (p : Option Addr) (cap : Nat) (ga oa : Nat) (L : List Le) (x : ByteArray) (w : World) (hv : RS 2 lcs w (.slice p L.length cap) ga oa L) (hnil : p = none → cap = 0) (hsm : SmallL L) (hL : L.length ≤ 1048576) :
    Calls Try.prog 66 #[.slice p L.length cap, .string x] w (LqP (LV.dropR L x) (LV.dropB L x) w) := (sLeafDropN_any p cap ga oa L x w hv hnil hsm hL).mono fun _ _ h => h.plain

end Go.Proofs.Ytiabodhgjeoejaa
/-
  A change done to a list, and changes done one behind the other: plain facts; the specification's answer to one.
-/
namespace Go.Proofs.Ytiabodhgjeoejaa
open Go.RowKit Go.BigFrame Go.Sort
set_option linter.unusedVariables false
set_option linter.unusedSimpArgs false

namespace UV
/-- what a change leaves of a list -/
noncomputable def apU (L : List Le) (x : Ug) : List Le := if x.v.toList.isEmpty = true then LV.dropR L x.n else LV.putR L ⟨x.n, x.v⟩
/-- .. and changes, one behind the other -/
noncomputable def apA (L : List Le) (A : List Ug) : List Le := A.foldl apU L
theorem apA_step (L : List Le) (A : List Ug) {m : Nat} (h : m < A.length) : apA L (A.take (m + 1)) = apU (apA L (A.take m)) A[m] := by
  unfold apA
  rw [List.take_succ_eq_append_getElem h, List.foldl_append]
  rfl
theorem apA_all (L : List Le) (A : List Ug) : apA L (A.take A.length) = apA L A := by rw [List.take_length]
theorem drop_len (L : List Le) (x : ByteArray) : (LV.dropR L x).length ≤ L.length := by
  unfold LV.dropR
  split
  · exact LV.len_wout_le L x
  · exact Nat.le_refl _
theorem put_len {L : List Le} {f : Le} (hl : L.length ≤ 1048576) : (LV.putR L f).length ≤ 1048576 := by
  cases h : LV.putB L f
  · rw [putR_no h]; exact hl
  · rw [putR_yes h]
    have := LV.putB_spec L f
    rw [h] at this
    have h2 : LV.leavesB (LV.put L f) = true := (Bool.and_eq_true_iff.1 this.symm).2
    have := (LV.leavesB_iff.1 h2).1
    omega
theorem ap_len {L : List Le} {x : Ug} (hl : L.length ≤ 1048576) : (apU L x).length ≤ 1048576 := by
  unfold apU
  split
  · exact Nat.le_trans (drop_len L x.n) hl
  · exact put_len hl
end UV
theorem small_drop {L : List Le} {x : ByteArray} (h : SmallL L) : SmallL (LV.dropR L x) := by
  unfold LV.dropR
  split
  · exact fun f hf => h f (List.mem_filter.1 hf).1
  · exact h
theorem small_putR {L : List Le} {f : Le} (h : SmallL L) (hn : f.n.size ≤ 1048576) (hv : f.v.size ≤ 1048576) : SmallL (LV.putR L f) := by
  unfold LV.putR
  split
  · exact small_put h hn hv
  · exact h
theorem small_ap {L : List Le} {x : Ug} (h : SmallL L) (hn : x.n.size ≤ 1048576) (hv : x.v.size ≤ 1048576) : SmallL (UV.apU L x) := by
  unfold UV.apU
  split
  · exact small_drop h
  · exact small_putR h hn hv

/-- a list answered; where it is nil it has no room -/
def ApP (M : List Le) (w : World) (e : Ending) (w' : World) : Prop := ∃ a cap g, e = .returned (.slice a M.length cap) ∧ RW 2 lcs w' (.slice a M.length cap) g M ∧ w.heap.size ≤ g ∧ Below w.heap.size w w'
def ApN (M : List Le) (w : World) (e : Ending) (w' : World) : Prop := ∃ a cap g, e = .returned (.slice a M.length cap) ∧ RW 2 lcs w' (.slice a M.length cap) g M ∧ w.heap.size ≤ g ∧ Below w.heap.size w w' ∧ (a = none → cap = 0)
theorem ApN.plain {M : List Le} {w w' : World} {e : Ending} (h : ApN M w e w') : ApP M w e w' := by
  obtain ⟨a, cap, g, h1, h2, h3, h4, _⟩ := h
  exact ⟨a, cap, g, h1, h2, h3, h4⟩

set_option maxRecDepth 100000 in
set_option maxHeartbeats 1000000 in
theorem sApplyChange_any (p : Option Addr) (cap : Nat) (ga oa : Nat) (L : List Le) (x : Ug) (w : World) (hv : RS 2 lcs w (.slice p L.length cap) ga oa L) (hnil : p = none → cap = 0) (hsm : SmallL L) (hL : L.length ≤ 1048576) (hn : x.n.size ≤ 1048576) (hvs : x.v.size ≤ 1048576) :
    Calls Try.prog 30 #[.slice p L.length cap, .agg #[.int .i64 x.i, .string x.n, .string x.v]] w (ApN (UV.apU L x) w) := by
  have HW : Hid (BU (w.alloc (.cells #[.int .i64 x.i, .string x.n, .string x.v] 31)) w.heap.size x ∧ Below w.heap.size w (w.alloc (.cells #[.int .i64 x.i, .string x.n, .string x.v] 31))) := ⟨BU.new w x, (Below.refl _ _).alloc (Nat.le_refl _) _⟩
  have HP : Hid (∀ W, Below w.heap.size w W → Calls Try.prog 67 #[.slice p L.length cap, .string x.n, .string x.v] W (LqN (LV.putR L ⟨x.n, x.v⟩) (LV.putB L ⟨x.n, x.v⟩) W)) := fun W hW => sLeafPutN_any p cap ga oa L x.n x.v W (hv.later hW) hnil hsm hL hn hvs
  have HR : Hid (∀ W, Below w.heap.size w W → Calls Try.prog 66 #[.slice p L.length cap, .string x.n] W (LqN (LV.dropR L x.n) (LV.dropB L x.n) W)) := fun W hW => sLeafDropN_any p cap ga oa L x.n W (hv.later hW) hnil hsm hL
  generalize L.length = n at *
  unfold LqN at HP HR
  unfold UV.apU
  clear hv hsm hn hvs hnil hL
  generalize LV.putB L ⟨x.n, x.v⟩ = b1 at *
  generalize LV.dropB L x.n = b2 at *
  obtain ⟨i, N, V⟩ := x
  simp only at HW HP HR ⊢
  have z1 := HW.out.1.c1
  have z2 := HW.out.1.c2
  simp only at z1 z2
  cases hd : V.toList.isEmpty
  · rw [if_neg (by simp)]
    generalize LV.putR L ⟨N, V⟩ = M at *
    clear HR
    obtain ⟨k, hk⟩ : ∃ k, M.length = k := ⟨_, rfl⟩
    rw [hk] at HP
    have HF : Hid (∀ W e, (∃ a cap g, e = .returned (.slice a k cap) ∧ RW 2 lcs W (.slice a k cap) g M ∧ w.heap.size ≤ g ∧ Below w.heap.size w W ∧ (a = none → cap = 0)) → ApN M w e W) := fun W e h => by unfold ApN; rw [hk]; exact h
    clear hk
    go_enter Try.func30, Try.ntmps30
    go_wp2_with fail
    refine (HP.out _ HW.out.2).mono ?_
    rintro e w2 ⟨a2, c2, g2, rfl, hr2, hg2, hb2, hz2⟩
    have HE := hide (HF.out w2 _ ⟨a2, c2, g2, rfl, hr2, by have := HW.out.2.size; omega, HW.out.2.trans (hb2.mono HW.out.2.size), hz2⟩)
    clear HP HW hr2 hg2 hb2 z1 z2 HF hz2
    go_wp2
    go_ret
    exact HE.out
  · rw [if_pos rfl]
    generalize LV.dropR L N = M at *
    clear HP
    obtain ⟨k, hk⟩ : ∃ k, M.length = k := ⟨_, rfl⟩
    rw [hk] at HR
    have HF : Hid (∀ W e, (∃ a cap g, e = .returned (.slice a k cap) ∧ RW 2 lcs W (.slice a k cap) g M ∧ w.heap.size ≤ g ∧ Below w.heap.size w W ∧ (a = none → cap = 0)) → ApN M w e W) := fun W e h => by unfold ApN; rw [hk]; exact h
    clear hk
    go_enter Try.func30, Try.ntmps30
    go_wp2_with fail
    refine (HR.out _ HW.out.2).mono ?_
    rintro e w2 ⟨a2, c2, g2, rfl, hr2, hg2, hb2, hz2⟩
    have HE := hide (HF.out w2 _ ⟨a2, c2, g2, rfl, hr2, by have := HW.out.2.size; omega, HW.out.2.trans (hb2.mono HW.out.2.size), hz2⟩)
    clear HR HW hr2 hg2 hb2 z1 z2 HF hz2
    go_wp2
    go_ret
    exact HE.out

end Go.Proofs.Ytiabodhgjeoejaa
