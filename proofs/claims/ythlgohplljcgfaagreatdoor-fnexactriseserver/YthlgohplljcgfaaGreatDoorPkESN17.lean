/-
  Texts laid together: Mt, Mu, Chi, Cj.
-/
import Derived.Test.YthlgohplljcgfaaGreatDoorPkESN16
import Derived.Test.YthlgohplljcgfaaGreatDoorPkESN9
import Derived.Test.YthlgohplljcgfaaGreatDoorPkESN14
import Derived.Test.YthlgohplljcgfaaGreatDoorPkESN15
/-
  The leaves of a map, told in order.
-/
namespace Go.Proofs.YthlgohplljcgfaaGreatDoor
open Go.RowKit Go.BigFrame Go.Sort Go.Maps
set_option linter.unusedVariables false
set_option linter.unusedSimpArgs false

/-- the leaves that have come so far -/
def Coll (L : List Le) (left : Lit → Bool) (l : List Le) : Prop := l.Pairwise (fun a b => a.n ≠ b.n) ∧ ∀ f, f ∈ l ↔ f ∈ L ∧ left (kl9 f.n) = false
theorem Coll.start {L : List Le} {D : DataW Le} (h1 : ∀ x : ByteArray, Maps.has D (kl9 x) = true ↔ ∃ f ∈ L, f.n = x) : Coll L (Maps.has D) [] := by
  refine ⟨List.Pairwise.nil, fun f => ?_⟩
  simp only [List.not_mem_nil, false_iff]
  rintro ⟨hf, hn⟩
  have := (h1 f.n).2 ⟨f, hf, rfl⟩
  rw [this] at hn
  cases hn
theorem same_self (x : ByteArray) : (kl9 x).sameKey (kl9 x) = true := by simp [kl9, Lit.sameKey]
theorem Coll.step {L l : List Le} {left : Lit → Bool} {f : Le} (h : Coll L left l) (hL : LV.Srt L) (hf : f ∈ L) (hl : left (kl9 f.n) = true) : Coll L (fun z => left z && !z.sameKey (kl9 f.n)) (l ++ [f]) := by
  refine ⟨List.pairwise_append.2 ⟨h.1, List.pairwise_singleton _ _, fun a ha b hb => ?_⟩, fun g => ?_⟩
  · simp at hb
    subst hb
    intro e
    have := ((h.2 a).1 ha).2
    rw [e, hl] at this
    cases this
  · rw [List.mem_append, List.mem_singleton, h.2 g]
    constructor
    · rintro (⟨h1, h2⟩ | rfl)
      · exact ⟨h1, by simp only [h2, Bool.false_and]⟩
      · exact ⟨hf, by simp only [same_self, Bool.not_true, Bool.and_false]⟩
    · rintro ⟨h1, h2⟩
      cases hg : left (kl9 g.n)
      · exact .inl ⟨h1, rfl⟩
      · simp only [hg, Bool.true_and] at h2
        right
        by_cases e : kl9 g.n = kl9 f.n
        · exact LV.srt_inj hL h1 hf (kl9_inj e)
        · rw [Maps.sameKey_ne e] at h2
          cases h2
theorem Coll.all {L l : List Le} {left : Lit → Bool} (h : Coll L left l) (hl : ∀ kl, left kl = false) : ∀ f, f ∈ l ↔ f ∈ L := fun f => by
  rw [h.2 f]
  exact ⟨fun h => h.1, fun h => ⟨h, hl _⟩⟩
/-- which leaf has come -/
theorem came {L : List Le} {D : DataW Le} {x : List UInt8} {c : Le} {yd : DataW Le} {yp : List MemPlace} (h1 : ∀ x : ByteArray, Maps.has D (kl9 x) = true ↔ ∃ f ∈ L, f.n = x) (h2 : ∀ f ∈ L, D.atKey (kl9 f.n) .nil = .held f)
    (hv : leR (.agg #[.string c.n, .string c.v]) = some (yd, yp)) (hat : ∀ zd, D.atKey (.string x) zd = yd) : c ∈ L ∧ (Lit.string x) = kl9 c.n := by
  have e3 : kl9 ⟨x.toArray⟩ = .string x := by simp [kl9]
  obtain ⟨f, hf, hn⟩ := (h1 ⟨x.toArray⟩).1 (by rw [e3]; exact Maps.has_true_of_atKey hat)
  have e4 := h2 f hf
  rw [hn, e3, hat] at e4
  rw [leR_mk] at hv
  simp at hv
  rw [← hv.1] at e4
  have : c = f := by injection e4
  subst this
  exact ⟨hf, by rw [hn, e3]⟩

theorem OL.neO {B : Nat} {w0 w : World} {u : Value} {l : List Le} {p : Nat} {o : Obj} (h : OL B w0 w u l) (hb : w.heap[p]? = some o) (ho : ∀ cs T fz, o ≠ .cells cs T fz) : some p ≠ u.ownBlock := by
  intro e
  rcases h.1.2 with ⟨hv, _⟩ | ⟨g, cap, cur, hv, _, hg, _⟩
  · rw [hv] at e; simp [Value.ownBlock] at e
  · rw [hv] at e
    have : p = g := by simpa [Value.ownBlock] using e
    subst this
    rw [hg] at hb
    exact ho _ _ _ (Option.some.inj hb).symm
theorem ranges_blocks {w : World} {b r n cnt : Nat} {D : DataW Le} {left : Lit → Bool} (h : w.ranges Tryz.prog 9 leR b r n D left cnt) : (∃ es c, w.heap[b]? = some (.map es c)) ∧ (∃ m s e c, w.heap[r]? = some (.mapIter m s e c)) := by
  obtain ⟨es, clock, since, seen, c0, hb, _, _, _, hr, _⟩ := h
  exact ⟨⟨es, clock, hb⟩, ⟨_, _, _, _, hr⟩⟩
theorem OL.ne_map {B : Nat} {w0 w : World} {u : Value} {l : List Le} {b r n cnt : Nat} {D : DataW Le} {left : Lit → Bool} (h : OL B w0 w u l) (hr : w.ranges Tryz.prog 9 leR b r n D left cnt) : some b ≠ u.ownBlock ∧ some r ≠ u.ownBlock := by
  obtain ⟨⟨es, c, h1⟩, ⟨m, s, e, c2, h2⟩⟩ := ranges_blocks hr
  exact ⟨h.neO h1 (fun _ _ _ h => by cases h), h.neO h2 (fun _ _ _ h => by cases h)⟩

/-- the range is under way, so many leaves have come -/
def MtR (w : World) (b r : Nat) (D : DataW Le) (L : List Le) (u : Value) (wr : World) : Prop := ∃ (left : Lit → Bool) (cnt : Nat) (l : List Le) (g cap : Nat), u = .slice (some ⟨g, 0, none⟩) l.length cap ∧
  Hid (OL w.heap.size w wr u l ∧ wr.ranges Tryz.prog 9 leR b r (Maps.size D) D left cnt ∧ Coll L left l ∧ l.length + cnt ≤ L.length ∧ g < wr.heap.size)

set_option maxRecDepth 100000 in
set_option maxHeartbeats 1000000 in
theorem listL_any (w0 w : World) (B b : Nat) (L : List Le) (h : LM B w0 w b L) (hL : LV.LOk L) :
    Calls Tryz.prog 198 #[.map (some b)] w fun e w' => ∃ g cap, e = .returned (.slice (some ⟨g, 0, none⟩) L.length cap) ∧ w.heap.size ≤ g ∧ RW 2 lcs w' (.slice (some ⟨g, 0, none⟩) L.length cap) g L ∧ Below w.heap.size w w' := by
  obtain ⟨D, hown, h1, h2, hsz⟩ := h.sized hL.2.2
  have hln := fun ty => h.len hL.2.2 ty
  have h24 := hL.1
  have HD : Hid ((∀ x : ByteArray, Maps.has D (kl9 x) = true ↔ ∃ f ∈ L, f.n = x) ∧ (∀ f ∈ L, D.atKey (kl9 f.n) .nil = .held f) ∧ Maps.size D = L.length) := ⟨h1, h2, hsz⟩
  have HL : Hid (LV.LOk L) := hL
  obtain ⟨i0, hi, hz0, hz1, hz2⟩ := info_parts Tryz.infoLeaf
  have hmk := run_make (P := Tryz.prog) w 59 134 i0 _ Tryz.underlying59 hi hz0 .i64 .i64 0 (L.length : Int) (by omega) (by omega) (by rw [hz2]; omega) (by omega)
  obtain ⟨w1, hw1⟩ : ∃ w1, (w.alloc (.cells (madeCells (Value.agg #[.string ByteArray.empty, .string ByteArray.empty]).cells ((L.length : Int).toNat * i0.size)) 134)) = w1 := ⟨_, rfl⟩
  rw [hw1] at hmk
  have ho1 : OL w.heap.size w w1 (.slice (some ⟨w.heap.size, 0, none⟩) 0 L.length) [] := by
    rw [← hw1]
    refine ⟨World.ownsRow_made w _ L.length (Nat.le_refl _) (by unfold maxLen; omega) ?_, (Below.refl _ _).alloc (Nat.le_refl _) _, by simp⟩
    rw [size_madeCells, hz1]
    simp
  have hs1 : w1.heap.size = w.heap.size + 1 := by rw [← hw1]; simp
  have hown1 : w1.ownsMap Tryz.prog 9 leR b (Maps.size D) D := by rw [← hw1]; exact hown.alloc _
  have HO : Hid (OL w.heap.size w w1 (.slice (some ⟨w.heap.size, 0, none⟩) 0 L.length) [] ∧ w1.heap.size = w.heap.size + 1) := ⟨ho1, hs1⟩
  simp only [Int.toNat_natCast, Int.toNat_zero] at hmk
  clear h1 h2 hsz h hL hw1 ho1 hs1 hi hz0 hz1 hz2
  go_enter Tryz.func198, Tryz.ntmps198
  go_wp2_with (at_range; refine wpList_range_own _ rfl _ 236 rfl 9 134 law_9 Tryz.underlying236 leR b (Maps.size D) D rfl hown1 ?_; intro w2 hrg2 hg2 hs2)
  have HST : Hid (MtR w b w1.heap.size D L (.slice (some ⟨w.heap.size, 0, none⟩) 0 L.length) w2) := by
    refine ⟨_, _, [], w.heap.size, L.length, rfl, ?_, hrg2, Coll.start HD.out.1, by rw [HD.out.2.2]; simp, by have := HO.out.2; omega⟩
    exact HO.out.1.grown hg2 (fun q hq => by cases hq)
  have HB : Hid (w.heap.size ≤ w1.heap.size) := by have := HO.out.2; show w.heap.size ≤ w1.heap.size; omega
  clear hrg2 hg2 hs2 hmk hown1 hown HO hln
  go_frame
  go_loopw [3] (fun u wr => MtR w b w1.heap.size D L u wr) (fun _ wr => wr.rangeLeft b w1.heap.size)
  case atStart => exact HST.out
  case round =>
    obtain ⟨left, cnt, l, g, cap, rfl, HI⟩ := hrel
    clear HST
    go_wp2_with (at_next; refine wpList_next_ranges _ rfl _ rfl 9 law_9 leR encStr (fun f : Le => .agg #[.string f.n, .string f.v]) (fun key kl hk => by obtain ⟨x, hx, _⟩ := Maps.keyOf_str Tryz.underlying9 hk; exact ⟨x, hx⟩) (fun v y hv => by obtain ⟨f, rfl, _⟩ := leR_inv hv; exact ⟨f, rfl⟩) b w1.heap.size (Maps.size D) _ _ _ rfl HI.out.2.1 ?_ ?_)
    · intro hc0 hl0
      have hall := HI.out.2.2.1.all hl0
      have hnd := HI.out.2.2.1.1
      have hll : l.length ≤ 24 := by have := HI.out.2.2.2.1; omega
      obtain ⟨g', hrw, hgB, hgg⟩ := HI.out.1.rw (by omega)
      obtain rfl : g = g' := hgg g (by simp [Value.ownBlock])
      have hso := sort_any g cap l L wr hrw HI.out.2.2.2.2 HL.out.2.2 hall hnd (by omega)
      have HW : Hid (Below w.heap.size w wr ∧ w.heap.size ≤ g) := ⟨HI.out.1.2.1, hgB⟩
      clear hall hnd hrw hgg HI hc0 hl0 HD HL
      go_wp2_with fail
      refine hso.mono ?_
      rintro e w3 ⟨rfl, hlen, hr3, hg3⟩
      have HF : Hid (∃ g2 cap2, Ending.returned (.slice (some ⟨g, 0, none⟩) l.length cap) = Ending.returned (.slice (some ⟨g2, 0, none⟩) L.length cap2) ∧ w.heap.size ≤ g2 ∧ RW 2 lcs w3 (.slice (some ⟨g2, 0, none⟩) L.length cap2) g2 L ∧ Below w.heap.size w w3) := ⟨g, cap, by rw [hlen], HW.out.2, hr3, HW.out.1.grown hg3 HW.out.1.size (fun q hq => by cases hq; exact HW.out.2)⟩
      clear hso hr3 hg3 HW hlen
      go_wp2
      go_ret
      exact HF.out
    · intro x c kl yd yp w3 cnt2 hkey hlk hv hat hrg3 hlt3 hg3 hs3 hen
      obtain ⟨x', ex, rfl, _⟩ := Maps.keyOf_str Tryz.underlying9 hkey
      obtain rfl : x = x' := encStr_inj ex
      obtain ⟨hcL, hkc⟩ := came HD.out.1 HD.out.2.1 hv hat
      rw [hkc] at hlk hrg3
      have ho3 : OL w.heap.size w w3 (.slice (some ⟨g, 0, none⟩) l.length cap) l := HI.out.1.grown hg3 (fun q hq => by cases hq; exact ⟨HB.out, (HI.out.1.ne_map HI.out.2.1).2.symm⟩)
      have HJ : Hid (OL w.heap.size w w3 (.slice (some ⟨g, 0, none⟩) l.length cap) l ∧ w3.ranges Tryz.prog 9 leR b w1.heap.size (Maps.size D) D (fun z => left z && !z.sameKey (kl9 c.n)) cnt2 ∧ Coll L (fun z => left z && !z.sameKey (kl9 c.n)) (l ++ [c]) ∧ (l.length + 1) + cnt2 ≤ L.length ∧ cnt2 < wr.rangeLeft b w1.heap.size) :=
        ⟨ho3, hrg3, HI.out.2.2.1.step HL.out.2.2 hcL hlk, by have := HI.out.2.2.2.1; omega, by rw [HI.out.2.1.left_eq]; exact hlt3⟩
      have hcs := LV.leB_sizes (HL.out.2.1 c hcL)
      have hl24 : l.length + 1 ≤ 24 := by have := HI.out.2.2.2.1; omega
      clear hrg3 ho3 hlk hv hat hkc hkey hs3 hg3 hlt3 HI hcL ex
      go_wp2_with fail
      refine (copiedL_any c _ (by omega) (by omega)).mono ?_
      rintro e w4 ⟨rfl, hb4⟩
      have hba : Below w3.heap.size w3 (w3.alloc (.cells #[.string c.n, .string c.v] 134)) := (Below.refl _ _).alloc (Nat.le_refl _) _
      have hbb := hba.trans (hb4.mono hba.size)
      have hbc : Below w3.heap.size w3 (w4.alloc (.cells #[.string c.n, .string c.v] 134)) := hbb.alloc hbb.size _
      have hoa := HJ.out.1.later hbc
      have HRG : Hid ((w4.alloc (.cells #[.string c.n, .string c.v] 134)).ranges Tryz.prog 9 leR b w1.heap.size (Maps.size D) D (fun z => left z && !z.sameKey (kl9 c.n)) cnt2) := HJ.out.2.1.kept (row := none) (grown_below hbc) (by simp) (by simp)
      have HRN : Hid ((w4.alloc (.cells #[.string c.n, .string c.v] 134)).rangeAt w4.heap.size 0 (lcs c)) := range_new _ [.string c.n, .string c.v] 134
      clear hb4 hba hbb hbc hen
      go_wp2_with (at_builtin; refine wp_leaf rfl _ _ rfl w.heap.size w (.slice (some ⟨g, 0, none⟩) l.length cap) l c rfl hoa _ rfl HRN.out (by omega) ?_)
      intro g5 cap5 w5 ho5 hg5
      have hne := hoa.ne_map HRG.out
      have hrg5 := HRG.out.kept hg5 hne.1 hne.2
      have HK : Hid (MtR w b w1.heap.size D L (.slice (some ⟨g5, 0, none⟩) (l.length + 1) cap5) w5 ∧ w5.rangeLeft b w1.heap.size < wr.rangeLeft b w1.heap.size) :=
        ⟨⟨_, cnt2, l ++ [c], g5, cap5, by simp, ho5, hrg5, HJ.out.2.2.1, by simp; exact HJ.out.2.2.2.1, (ho5.1.lt g5 (by simp [Value.ownBlock])).2⟩, by rw [hrg5.left_eq]; exact HJ.out.2.2.2.2⟩
      clear ho5 hg5 hoa hne hrg5 HRG HRN HJ
      go_wp2
      go_roundw
      case rel => exact HK.out.1
      case measure => exact HK.out.2

end Go.Proofs.YthlgohplljcgfaaGreatDoor
/-
  A leaf put into a list, and dropped from it: the program's answers.
-/
namespace Go.Proofs.YthlgohplljcgfaaGreatDoor
open Go.RowKit Go.BigFrame Go.Sort Go.Maps
set_option linter.unusedVariables false
set_option linter.unusedSimpArgs false


set_option maxRecDepth 100000 in
set_option maxHeartbeats 1000000 in
theorem LeafPut_any (v : Value) (ga oa : Nat) (L : List Le) (f : Le) (w : World) (hv : RS 2 lcs w v ga oa L) (hsm : SmallL L) (hn : f.n.size ≤ 1048576) (hvs : f.v.size ≤ 1048576) :
    Calls Tryz.prog 192 #[v, .string f.n, .string f.v] w (LqP (LV.putR L f) (LV.putB L f) w) := by
  obtain ⟨a, cap, rfl⟩ := hv.shape
  have HCP : Hid (∀ W, Below w.heap.size w W → Calls Tryz.prog 95 #[.slice a L.length cap] W fun e w' => ∃ g, e = .returned (.slice (some ⟨g, 0, none⟩) L.length L.length) ∧ W.heap.size ≤ g ∧ RW 2 lcs w' (.slice (some ⟨g, 0, none⟩) L.length L.length) g L ∧ Below W.heap.size W w') := fun W hW => leavesCopy_any _ ga oa L W (hv.later hW) hsm
  cases hd : LV.leavesB L
  · have hS := leafSetOf_no _ ga oa L w hv hsm hd
    have hpb : LV.putB L f = false := by unfold LV.putB; rw [hd]; rfl
    have HQ : Hid (LV.putB L f = false ∧ LV.putR L f = L) := ⟨hpb, putR_no hpb⟩
    clear hv hd hpb
    go_enter Tryz.func192, Tryz.ntmps192
    go_wp2_with fail
    refine hS.mono ?_
    rintro e w1 ⟨rfl, hb1⟩
    clear hS
    go_wp2_with fail
    refine (HCP.out _ hb1).mono ?_
    rintro e w2 ⟨g, rfl, hg, hr, hb2⟩
    have HF : Hid (RW 2 lcs w2 (.slice (some ⟨g, 0, none⟩) L.length L.length) g L ∧ w.heap.size ≤ g ∧ Below w.heap.size w w2) := ⟨hr, by have := hb1.size; omega, hb1.trans (hb2.mono hb1.size)⟩
    clear hr hb2 hb1 hg HCP
    go_wp2
    go_ret2
    unfold LqP
    rw [HQ.out.1, HQ.out.2]
    exact ⟨_, _, g, rfl, HF.out⟩
  · have hS := leafSetOf_yes _ ga oa L w hv hsm hd
    have HL : Hid (LV.LOk L) := LV.leavesB_iff.1 hd
    clear hv hd
    go_enter Tryz.func192, Tryz.ntmps192
    go_wp2_with fail
    refine hS.mono ?_
    rintro e w1 ⟨b, rfl, hm1⟩
    have hP := putL_any w.heap.size w w1 b L f hm1 HL.out hn hvs
    clear hS hm1
    go_wp2_with fail
    refine hP.mono ?_
    rintro e w2 ⟨rfl, hm2⟩
    clear hP
    have b2 : Below w.heap.size w w2 := hm2.2.2.1
    cases hpb : LV.putB L f
    · have HQ : Hid (LV.putB L f = false ∧ LV.putR L f = L) := ⟨hpb, putR_no hpb⟩
      clear hm2
      go_wp2_with fail
      refine (HCP.out _ b2).mono ?_
      rintro e w3 ⟨g, rfl, hg, hr, hb3⟩
      have HF : Hid (RW 2 lcs w3 (.slice (some ⟨g, 0, none⟩) L.length L.length) g L ∧ w.heap.size ≤ g ∧ Below w.heap.size w w3) := ⟨hr, by have := b2.size; omega, b2.trans (hb3.mono b2.size)⟩
      clear hr hb3 b2 hg HCP hpb
      go_wp2
      go_ret2
      unfold LqP
      rw [HQ.out.1, HQ.out.2]
      exact ⟨_, _, g, rfl, HF.out⟩
    · have HQ : Hid (LV.putB L f = true) := hpb
      have hok : LV.LOk (LV.putR L f) := by rw [putR_yes hpb]; exact LV.putB_ok hpb
      have hli := listL_any w w2 w.heap.size b (LV.putR L f) hm2 hok
      generalize LV.putR L f = M at *
      clear hm2 hok HCP
      go_wp2_with fail
      refine hli.mono ?_
      rintro e w3 ⟨g, cap3, rfl, hg, hr, hb3⟩
      have HF : Hid (RW 2 lcs w3 (.slice (some ⟨g, 0, none⟩) M.length cap3) g M ∧ w.heap.size ≤ g ∧ Below w.heap.size w w3) := ⟨hr, by have := b2.size; omega, b2.trans (hb3.mono b2.size)⟩
      clear hr hb3 b2 hg hli hpb
      go_wp2
      go_ret2
      unfold LqP
      rw [HQ.out]
      exact ⟨_, _, g, rfl, HF.out⟩

set_option maxRecDepth 100000 in
set_option maxHeartbeats 1000000 in
theorem LeafDrop_any (v : Value) (ga oa : Nat) (L : List Le) (x : ByteArray) (w : World) (hv : RS 2 lcs w v ga oa L) (hsm : SmallL L) (hx : x.size ≤ 1048576) :
    Calls Tryz.prog 191 #[v, .string x] w (LqP (LV.dropR L x) (LV.dropB L x) w) := by
  obtain ⟨a, cap, rfl⟩ := hv.shape
  have HCP : Hid (∀ W, Below w.heap.size w W → Calls Tryz.prog 95 #[.slice a L.length cap] W fun e w' => ∃ g, e = .returned (.slice (some ⟨g, 0, none⟩) L.length L.length) ∧ W.heap.size ≤ g ∧ RW 2 lcs w' (.slice (some ⟨g, 0, none⟩) L.length L.length) g L ∧ Below W.heap.size W w') := fun W hW => leavesCopy_any _ ga oa L W (hv.later hW) hsm
  cases hd : LV.leavesB L
  · have hS := leafSetOf_no _ ga oa L w hv hsm hd
    have hpb : LV.dropB L x = false := by unfold LV.dropB; rw [hd]; rfl
    have HQ : Hid (LV.dropB L x = false ∧ LV.dropR L x = L) := ⟨hpb, dropR_no hpb⟩
    clear hv hd hpb
    go_enter Tryz.func191, Tryz.ntmps191
    go_wp2_with fail
    refine hS.mono ?_
    rintro e w1 ⟨rfl, hb1⟩
    clear hS
    go_wp2_with fail
    refine (HCP.out _ hb1).mono ?_
    rintro e w2 ⟨g, rfl, hg, hr, hb2⟩
    have HF : Hid (RW 2 lcs w2 (.slice (some ⟨g, 0, none⟩) L.length L.length) g L ∧ w.heap.size ≤ g ∧ Below w.heap.size w w2) := ⟨hr, by have := hb1.size; omega, hb1.trans (hb2.mono hb1.size)⟩
    clear hr hb2 hb1 hg HCP
    go_wp2
    go_ret2
    unfold LqP
    rw [HQ.out.1, HQ.out.2]
    exact ⟨_, _, g, rfl, HF.out⟩
  · have hS := leafSetOf_yes _ ga oa L w hv hsm hd
    have hok := LV.leavesB_iff.1 hd
    have hdb : LV.dropB L x = (LV.find L x).isSome := by unfold LV.dropB; rw [hd]; rfl
    have HOW : Hid (LV.LOk (LV.wout L x)) := LV.ok_wout hok x
    clear hv hd
    go_enter Tryz.func191, Tryz.ntmps191
    go_wp2_with fail
    refine hS.mono ?_
    rintro e w1 ⟨b, rfl, hm1⟩
    have hP := dropL_any w.heap.size w w1 b L x hm1 hx
    rw [← hdb] at hP
    clear hS hm1
    go_wp2_with fail
    refine hP.mono ?_
    rintro e w2 ⟨rfl, hm2⟩
    clear hP
    have b2 : Below w.heap.size w w2 := hm2.2.2.1
    cases hpb : LV.dropB L x
    · have HQ : Hid (LV.dropB L x = false ∧ LV.dropR L x = L) := ⟨hpb, dropR_no hpb⟩
      clear hm2
      go_wp2_with fail
      refine (HCP.out _ b2).mono ?_
      rintro e w3 ⟨g, rfl, hg, hr, hb3⟩
      have HF : Hid (RW 2 lcs w3 (.slice (some ⟨g, 0, none⟩) L.length L.length) g L ∧ w.heap.size ≤ g ∧ Below w.heap.size w w3) := ⟨hr, by have := b2.size; omega, b2.trans (hb3.mono b2.size)⟩
      clear hr hb3 b2 hg HCP hpb hdb
      go_wp2
      go_ret2
      unfold LqP
      rw [HQ.out.1, HQ.out.2]
      exact ⟨_, _, g, rfl, HF.out⟩
    · have HQ : Hid (LV.dropB L x = true ∧ LV.dropR L x = LV.wout L x) := ⟨hpb, dropR_yes hpb⟩
      rw [hpb] at hm2
      have hli := listL_any w w2 w.heap.size b (LV.wout L x) (by simpa using hm2) HOW.out
      generalize LV.wout L x = M at *
      clear hm2 HOW HCP hdb
      go_wp2_with fail
      refine hli.mono ?_
      rintro e w3 ⟨g, cap3, rfl, hg, hr, hb3⟩
      have HF : Hid (RW 2 lcs w3 (.slice (some ⟨g, 0, none⟩) M.length cap3) g M ∧ w.heap.size ≤ g ∧ Below w.heap.size w w3) := ⟨hr, by have := b2.size; omega, b2.trans (hb3.mono b2.size)⟩
      clear hr hb3 b2 hg hli hpb
      go_wp2
      go_ret2
      unfold LqP
      rw [HQ.out.1, HQ.out.2]
      exact ⟨_, _, g, rfl, HF.out⟩

end Go.Proofs.YthlgohplljcgfaaGreatDoor
/-
  A change done to a list: the program's answer.
-/
namespace Go.Proofs.YthlgohplljcgfaaGreatDoor
open Go.RowKit Go.BigFrame Go.Sort
set_option linter.unusedVariables false
set_option linter.unusedSimpArgs false

set_option maxRecDepth 100000 in
set_option maxHeartbeats 1000000 in
theorem ApplyChange_any (v : Value) (ga oa : Nat) (L : List Le) (x : Ug) (w : World) (hv : RS 2 lcs w v ga oa L) (hsm : SmallL L) (hn : x.n.size ≤ 1048576) (hvs : x.v.size ≤ 1048576) :
    Calls Tryz.prog 180 #[v, .agg #[.int .i64 x.i, .string x.n, .string x.v]] w (ApP (UV.apU L x) w) := by
  have HW : Hid (BU (w.alloc (.cells #[.int .i64 x.i, .string x.n, .string x.v] 102)) w.heap.size x ∧ Below w.heap.size w (w.alloc (.cells #[.int .i64 x.i, .string x.n, .string x.v] 102))) := ⟨BU.new w x, (Below.refl _ _).alloc (Nat.le_refl _) _⟩
  have HD : Hid (∀ W, Calls Tryz.prog 163 #[.agg #[.int .i64 x.i, .string x.n, .string x.v]] W fun e w' => e = .returned (.bool x.v.toList.isEmpty) ∧ Below W.heap.size W w') := fun W => drops_any x W
  have HP : Hid (∀ W, Below w.heap.size w W → Calls Tryz.prog 192 #[v, .string x.n, .string x.v] W (LqP (LV.putR L ⟨x.n, x.v⟩) (LV.putB L ⟨x.n, x.v⟩) W)) := fun W hW => LeafPut_any v ga oa L ⟨x.n, x.v⟩ W (hv.later hW) hsm hn hvs
  have HR : Hid (∀ W, Below w.heap.size w W → Calls Tryz.prog 191 #[v, .string x.n] W (LqP (LV.dropR L x.n) (LV.dropB L x.n) W)) := fun W hW => LeafDrop_any v ga oa L x.n W (hv.later hW) hsm hn
  obtain ⟨a, c, rfl⟩ := hv.shape
  generalize L.length = n at *
  unfold LqP at HP HR
  unfold UV.apU
  clear hv hsm hn hvs
  generalize LV.putB L ⟨x.n, x.v⟩ = b1 at *
  generalize LV.dropB L x.n = b2 at *
  obtain ⟨i, N, V⟩ := x
  simp only at HW HD HP HR ⊢
  cases hd : V.toList.isEmpty
  · rw [hd] at HD
    rw [if_neg (by simp)]
    generalize LV.putR L ⟨N, V⟩ = M at *
    clear HR
    obtain ⟨k, hk⟩ : ∃ k, M.length = k := ⟨_, rfl⟩
    rw [hk] at HP
    have HF : Hid (∀ W e, (∃ a cap g, e = .returned (.slice a k cap) ∧ RW 2 lcs W (.slice a k cap) g M ∧ w.heap.size ≤ g ∧ Below w.heap.size w W) → ApP M w e W) := fun W e h => by unfold ApP; rw [hk]; exact h
    clear hk
    go_enter Tryz.func180, Tryz.ntmps180
    go_wp2_with fail
    refine (HD.out _).mono ?_
    rintro e w1 ⟨rfl, hb1⟩
    have HW1 : Hid (BU w1 w.heap.size ⟨i, N, V⟩ ∧ Below w.heap.size w w1) := ⟨HW.out.1.later hb1, HW.out.2.trans (hb1.mono HW.out.2.size)⟩
    have z1 := HW1.out.1.c1
    have z2 := HW1.out.1.c2
    simp only at z1 z2
    clear HD HW hb1
    go_wp2_with fail
    refine (HP.out _ HW1.out.2).mono ?_
    rintro e w2 ⟨a2, c2, g2, rfl, hr2, hg2, hb2⟩
    have HE := hide (HF.out w2 _ ⟨a2, c2, g2, rfl, hr2, by have := HW1.out.2.size; omega, HW1.out.2.trans (hb2.mono HW1.out.2.size)⟩)
    clear HP HW1 hr2 hg2 hb2 z1 z2 HF
    go_wp2
    go_ret
    exact HE.out
  · rw [hd] at HD
    rw [if_pos rfl]
    generalize LV.dropR L N = M at *
    clear HP
    obtain ⟨k, hk⟩ : ∃ k, M.length = k := ⟨_, rfl⟩
    rw [hk] at HR
    have HF : Hid (∀ W e, (∃ a cap g, e = .returned (.slice a k cap) ∧ RW 2 lcs W (.slice a k cap) g M ∧ w.heap.size ≤ g ∧ Below w.heap.size w W) → ApP M w e W) := fun W e h => by unfold ApP; rw [hk]; exact h
    clear hk
    go_enter Tryz.func180, Tryz.ntmps180
    go_wp2_with fail
    refine (HD.out _).mono ?_
    rintro e w1 ⟨rfl, hb1⟩
    have HW1 : Hid (BU w1 w.heap.size ⟨i, N, V⟩ ∧ Below w.heap.size w w1) := ⟨HW.out.1.later hb1, HW.out.2.trans (hb1.mono HW.out.2.size)⟩
    have z1 := HW1.out.1.c1
    simp only at z1
    clear HD HW hb1
    go_wp2_with fail
    refine (HR.out _ HW1.out.2).mono ?_
    rintro e w2 ⟨a2, c2, g2, rfl, hr2, hg2, hb2⟩
    have HE := hide (HF.out w2 _ ⟨a2, c2, g2, rfl, hr2, by have := HW1.out.2.size; omega, HW1.out.2.trans (hb2.mono HW1.out.2.size)⟩)
    clear HR HW1 hr2 hg2 hb2 z1 HF
    go_wp2
    go_ret
    exact HE.out

end Go.Proofs.YthlgohplljcgfaaGreatDoor
/-
  Changes done one behind the other: the program's answer.
-/
namespace Go.Proofs.YthlgohplljcgfaaGreatDoor
open Go.RowKit Go.BigFrame Go.Sort
set_option linter.unusedVariables false
set_option linter.unusedSimpArgs false

set_option maxRecDepth 100000 in
set_option maxHeartbeats 1000000 in
theorem ApplyAll_any (v : Value) (ga oa : Nat) (L : List Le) (q : Value) (gq oq : Nat) (A : List Ug) (w : World) (hv : RS 2 lcs w v ga oa L) (hsm : SmallL L) (hq : RS 3 ucs w q gq oq A) (hA : ∀ x ∈ A, x.n.size ≤ 1048576 ∧ x.v.size ≤ 1048576) :
    Calls Tryz.prog 167 #[v, q] w (ApP (UV.apA L A) w) := by
  have hc := leavesCopy_any v ga oa L w hv hsm
  have HQ : Hid (RS 3 ucs w q gq oq A) := hq
  have HSM : Hid (∀ m (h : m < A.length), SmallL (UV.apA L (A.take m)) ∧ (A[m]'h).n.size ≤ 1048576 ∧ (A[m]'h).v.size ≤ 1048576) := fun m h => ⟨small_apA hsm hA m, hA _ (List.getElem_mem h)⟩
  obtain ⟨aq, cq, rfl, hlq, hAq, _⟩ := hq
  obtain ⟨n, hn⟩ : ∃ n, A.length = n := ⟨_, rfl⟩
  have HA : Hid (0 < n → aq = some ⟨gq, oq, none⟩) := by rw [← hn]; exact fun h => (hAq h).1
  rw [hn] at hlq HQ ⊢
  clear hv hsm hA hAq
  go_enter Tryz.func167, Tryz.ntmps167
  go_wp2_with fail
  refine hc.mono ?_
  rintro e w1 ⟨g1, rfl, hg1, hr1, hb1⟩
  have HST : Hid (AaR w L A (.slice (some ⟨g1, 0, none⟩) L.length L.length) (.int .i64 0) w1) := ⟨0, _, _, Nat.zero_le _, rfl, rfl, ⟨g1, hr1, hg1, hb1⟩⟩
  clear hc hg1 hr1 hb1
  go_wp2
  go_loopw [5, 12] (fun u i wr => AaR w L A u i wr) (fun _ i _ => n - (intOf i).toNat)
  case atStart => exact HST.out
  case round =>
    obtain ⟨m, au, cu, hm, rfl, rfl, HI⟩ := hrel
    clear HST
    rw [hn] at hm
    obtain ⟨gu, hru, hgu, hbu⟩ := HI.out
    by_cases hlt : m < n
    · have ea := HA.out (by omega)
      subst ea
      obtain ⟨c0, c1, c2⟩ := (HQ.out.later hbu).chg m (by omega)
      have hs := HSM.out m (by omega)
      have hst := UV.apA_step L A (m := m) (by omega)
      obtain ⟨X, hX⟩ : ∃ X, A[m]'(by omega) = X := ⟨_, rfl⟩
      rw [hX] at c0 c1 c2 hs hst
      have HC := hide (fun W (hW : Below wr.heap.size wr W) => ApplyChange_any _ gu 0 _ X W (hru.1.later hW) hs.1 hs.2.1 hs.2.2)
      have HJ : Hid (UV.apA L (A.take (m + 1)) = UV.apU (UV.apA L (A.take m)) X) := hst
      have HB : Hid (Below w.heap.size w wr) := hbu
      have i1 : (m : Int) < (n : Int) := by omega
      have i2 : (0 : Int) ≤ (m : Int) := by omega
      have hba : Below wr.heap.size wr (wr.alloc (.cells #[.int .i64 X.i, .string X.n, .string X.v] 102)) := (Below.refl _ _).alloc (Nat.le_refl _) _
      generalize UV.apA L (A.take m) = M at *
      clear HI hru hgu hbu hs hst hX HQ HA HSM
      generalize M.length = k at *
      obtain ⟨x0, x1, x2⟩ := X
      simp only at c0 c1 c2 HC hba
      go_wp2_with fail
      refine (HC.out _ hba).mono ?_
      rintro e w2 ⟨a2, c2', g2, rfl, hr2, hg2, hb2⟩
      have hb3 : Below wr.heap.size wr w2 := hba.trans (hb2.mono hba.size)
      have HK : Hid (UV.apA L (A.take (m + 1)) = UV.apU M ⟨x0, x1, x2⟩ ∧ AaS w (UV.apU M ⟨x0, x1, x2⟩) (.slice a2 (UV.apU M ⟨x0, x1, x2⟩).length c2') w2) := ⟨HJ.out, g2, hr2, by have := HB.out.size; have := hba.size; omega, HB.out.trans (hb3.mono HB.out.size)⟩
      clear HC HJ HB hr2 hg2 hb2 hb3 hba c0 c1 c2
      generalize UV.apU M ⟨x0, x1, x2⟩ = M2 at *
      go_wp2
      go_roundw
      case rel => exact ⟨m + 1, a2, c2', by omega, by go_num, by rw [HK.out.1], by rw [HK.out.1]; exact HK.out.2⟩
      case measure => simp [intOf]; omega
    · have hme : m = n := by omega
      subst hme
      have hall : UV.apA L (A.take m) = UV.apA L A := by rw [← hn]; exact UV.apA_all L A
      have HE : Hid (ApP (UV.apA L A) w (.returned (.slice au (UV.apA L (A.take m)).length cu)) wr) := by
        rw [← hall]
        exact ⟨au, cu, gu, rfl, hru, hgu, hbu⟩
      clear HI hru hgu hbu hall HQ HA HSM
      go_wp2
      go_ret
      exact HE.out

end Go.Proofs.YthlgohplljcgfaaGreatDoor
