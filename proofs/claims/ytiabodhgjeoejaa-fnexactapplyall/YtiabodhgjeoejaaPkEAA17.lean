/-
  Texts laid together: Sr, Mt, Mu.
-/
import Derived.Test.YtiabodhgjeoejaaPkEAA16
import Derived.Test.YtiabodhgjeoejaaPkEAA11
import Derived.Test.YtiabodhgjeoejaaPkEAA10
import Derived.Test.YtiabodhgjeoejaaPkEAA12
/-
  Leaves sorted by their names: the library's own contract on slices.SortFunc at this program's leaves.
-/
namespace Go.Proofs.Ytiabodhgjeoejaa
open Go.RowKit Go.Shelf Go.Lib
open Go.Sort (SWO PermIn SortedIn HoldsK flatK get_flatK grow holdsK_grow holdsK_putRowK holdsK_ahead)
set_option linter.unusedVariables false
set_option linter.unusedSimpArgs false

/-- a leaf as a pair, for the library's words -/
def pr (f : Le) : ByteArray × ByteArray := (f.n, f.v)
def lf (p : ByteArray × ByteArray) : Le := ⟨p.1, p.2⟩
def pcs (p : ByteArray × ByteArray) : List Value := [.string p.1, .string p.2]
def pcf (p q : ByteArray × ByteArray) : Int := LV.cmpN p.1 q.1
theorem ltOf_pcf (p q : ByteArray × ByteArray) : ltOf pcf p q = F.ltN p.1 q.1 := by
  unfold ltOf pcf
  rw [Bool.eq_iff_iff, decide_eq_true_eq]
  exact LV.cmpN_lt _ _
theorem swo_pcf : SWO (ltOf pcf) := {
  irrefl := fun x => by rw [ltOf_pcf]; exact F.ltN_irrefl _
  trans := fun x y z h1 h2 => by rw [ltOf_pcf] at *; exact F.ltN_trans h1 h2
  ntrans := fun x y z h1 h2 => by
    rw [ltOf_pcf] at *
    cases h : F.ltN x.1 z.1
    · rfl
    · rcases F.ltN_tri x.1 y.1 with h3 | h3 | h3
      · rw [h3] at h1; cases h1
      · rw [h3, h2] at h; cases h
      · rw [F.ltN_trans h3 h] at h2; cases h2 }

theorem cmpLays_any (blk off size : Nat) (w : World) : CmpLays Try.prog 57 #[] pcs 2 pcf blk off size w :=
  fun _ _ _ _ x y => compareNames_grow (lf x) (lf y) _

theorem holds_of {w : World} {v : Value} {g : Nat} {l : List Le} (h : RW 2 lcs w v g l) : HoldsK pcs 2 w g 0 (l.map pr).toArray := by
  intro t ht
  have ht' : t < l.length * 2 := by simpa using ht
  have hq : t / 2 < l.length := by omega
  have e : (flatK pcs 2 (l.map pr).toArray)[t]! = (lcs l[t / 2])[t % 2]! := by
    rw [get_flatK _ _ _ t (by simpa using ht')]
    have : (l.map pr).toArray[t / 2]! = pr l[t / 2] := by simp [hq]
    rw [this]
    rfl
  obtain ⟨⟨a, c, _, _, _, hc⟩, hth⟩ := h
  have hm : t % 2 < 2 := Nat.mod_lt _ (by omega)
  have et : t = t / 2 * 2 + t % 2 := by omega
  rw [e]
  refine ⟨?_, ?_⟩
  · have := hc (t / 2) hq (t % 2) _ (List.getElem?_eq_getElem (by rw [lcs_len]; exact hm))
    rw [Nat.zero_add] at this ⊢
    rw [← et] at this
    rw [this, getElem!_pos (lcs l[t / 2]) (t % 2) (by rw [lcs_len]; exact hm)]
    rfl
  · have := (hth (t / 2) hq (t % 2) hm).2
    rw [← et] at this
    rw [Nat.zero_add]
    exact this

theorem row_of_holds {w : World} {g n cap : Nat} {d : Array (ByteArray × ByteArray)} (h : HoldsK pcs 2 w g 0 d) (hn : d.size = n) (hl : n ≤ 1100000) (hg : g < w.heap.size) : RW 2 lcs w (.slice (some ⟨g, 0, none⟩) n cap) g (d.toList.map lf) := by
  subst hn
  have key : ∀ j i, j < d.size → i < 2 → w.cell? ⟨g, j * 2 + i, none⟩ = some ((lcs (lf d[j]!))[i]!) ∧ w.frozen? ⟨g, j * 2 + i, none⟩ = false := by
    intro j i hj hi
    have h1 := h (j * 2 + i) (by simp; omega)
    rw [get_flatK _ _ _ _ (by omega), show (j * 2 + i) / 2 = j by omega, show (j * 2 + i) % 2 = i by omega, Nat.zero_add] at h1
    exact h1
  refine ⟨⟨some ⟨g, 0, none⟩, cap, by simp, by simpa using hl, fun _ => ⟨rfl, hg⟩, fun j hj i u hu => ?_⟩, fun j hj i hi => ?_⟩
  · have hj' : j < d.size := by simpa using hj
    have hi : i < 2 := by have := (List.getElem?_eq_some_iff.1 hu).1; rw [lcs_len] at this; exact this
    have hk := (key j i hj' hi).1
    rw [Nat.zero_add, hk]
    have e : (d.toList.map lf)[j]'hj = lf d[j]! := by simp [hj']
    rw [e, List.getElem?_eq_getElem (by rw [lcs_len]; exact hi)] at hu
    rw [← hu, getElem!_pos (lcs (lf d[j]!)) i (by rw [lcs_len]; exact hi)]
  · have hj' : j < d.size := by simpa using hj
    have hk := key j i hj' hi
    exact ⟨by rw [hk.1]; rfl, hk.2⟩

theorem grown_sort (w : World) (g n : Nat) (d : Array (ByteArray × ByteArray)) (os : Array Obj) : w.grownBy (sortWorldK pcs 2 w g 0 n d os) (some g) := by
  refine ⟨rfl, rfl, rfl, ?_, fun i hi hne => ?_⟩
  · simp [sortWorldK, grow, Go.Sort.putRowK, Go.Sort.putRow, Go.Sort.mapBlock, Go.Sort.ahead]
  · have hne' : g ≠ i := fun e => hne (by rw [e])
    simp [sortWorldK, grow, Go.Sort.putRowK, Go.Sort.putRow, Go.Sort.mapBlock, Go.Sort.ahead, Array.getElem?_append, hi, Array.getElem_modify, hne']

/-- what is sorted, told by its names -/
theorem sorted_is {l L : List Le} {d' : Array (ByteArray × ByteArray)} (hL : LV.Srt L) (hm : ∀ f, f ∈ l ↔ f ∈ L) (hnd : l.Pairwise (fun a b => a.n ≠ b.n)) (hp : PermIn 0 (l.map pr).toArray.size (l.map pr).toArray d') (hs : SortedIn (ltOf pcf) 0 (l.map pr).toArray.size d') : d'.toList.map lf = L := by
  obtain ⟨hsz, _, hperm⟩ := hp
  have hsz' : d'.size = l.length := by simpa using hsz
  have hperm' : d'.toList.Perm (l.map pr) := by
    have e1 : d'.extract 0 (l.map pr).toArray.size = d' := by rw [← hsz]; exact Array.extract_size
    have e2 : (l.map pr).toArray.extract 0 (l.map pr).toArray.size = (l.map pr).toArray := Array.extract_size
    rw [e1, e2] at hperm
    simpa using hperm
  have hpl : (d'.toList.map lf).Perm l := by
    have := hperm'.map lf
    have e : (l.map pr).map lf = l := by
      rw [List.map_map]
      exact List.map_id'' (fun f => rfl) l
    rw [e] at this
    exact this
  have hnd' : (d'.toList.map lf).Pairwise (fun a b => a.n ≠ b.n) := hpl.symm.pairwise hnd (fun {a b} h => Ne.symm h)
  refine LV.srt_ext ?_ hL (fun f => by rw [hpl.mem_iff]; exact hm f)
  unfold LV.Srt
  rw [List.pairwise_iff_getElem] at hnd' ⊢
  intro i j hi hj hij
  have hi' : i < d'.size := by simpa using hi
  have hj' : j < d'.size := by simpa using hj
  have h1 := hs i j (Nat.zero_le _) hij (by simp; omega)
  rw [ltOf_pcf] at h1
  have h2 := hnd' i j hi hj hij
  have ei : (d'.toList.map lf)[i] = lf d'[i]! := by simp [hi']
  have ej : (d'.toList.map lf)[j] = lf d'[j]! := by simp [hj']
  rw [ei, ej] at h2 ⊢
  rcases F.ltN_tri (lf d'[i]!).n (lf d'[j]!).n with h3 | h3 | h3
  · exact h3
  · exact absurd h3 h2
  · have h4 : F.ltN (d'[j]!).1 (d'[i]!).1 = true := h3
    rw [h1] at h4
    cases h4

theorem sort_any (g cap : Nat) (l L : List Le) (w : World) (h : RW 2 lcs w (.slice (some ⟨g, 0, none⟩) l.length cap) g l) (hg : g < w.heap.size) (hL : LV.Srt L) (hm : ∀ f, f ∈ l ↔ f ∈ L) (hnd : l.Pairwise (fun a b => a.n ≠ b.n)) (hl : l.length ≤ 100000) :
    Calls Try.prog 94 #[.slice (some ⟨g, 0, none⟩) l.length cap, .func (.func 57) #[] #[]] w fun e w' => e = .returned (.tuple #[]) ∧ l.length = L.length ∧ RW 2 lcs w' (.slice (some ⟨g, 0, none⟩) L.length cap) g L ∧ w.grownBy w' (some g) := by
  have eg : ∀ args w, (callFunc 57 args).run Try.prog w = .ok (.enter 57 args) w := enters_of Try.func57 (by kernel_rfl) rfl
  have hH := holds_of h
  have hcon := AnyQ.slices_SortFunc Try.sortLe 2 Try.isAgg73 Try.sizeOf73 pcs (fun _ => rfl) (fun x v hv => by simp [pcs] at hv; rcases hv with rfl | rfl <;> rfl) pcf swo_pcf 57 #[] g 0 cap (l.map pr).toArray w eg (cmpLays_any g 0 (l.map pr).toArray.size w) hH hg (by simp; omega)
  change Calls Try.prog 94 _ _ _ at hcon
  have e1 : (l.map pr).toArray.size = l.length := by simp
  rw [e1] at hcon
  refine hcon.mono ?_
  rintro e w' ⟨rfl, d', n, os, hp, hs, rfl⟩
  have hd : d'.toList.map lf = L := sorted_is hL hm hnd (by rw [e1]; exact hp) (by rw [e1]; exact hs)
  have hlen : l.length = L.length := by
    have h1 : (d'.toList.map lf).length = L.length := by rw [hd]
    rw [List.length_map, Array.length_toList, hp.1, e1] at h1
    exact h1
  have hh : HoldsK pcs 2 (sortWorldK pcs 2 w g 0 n d' os) g 0 d' := holdsK_grow pcs 2 _ _ _ _ _ (by simpa [Go.Sort.putRowK] using hg) (holdsK_putRowK pcs 2 _ _ _ _ _ (holdsK_ahead pcs 2 _ n _ _ _ hH) (by rw [hp.1]))
  have hgs := (grown_sort w g n d' os).size
  have hr := row_of_holds (cap := cap) hh (show d'.size = L.length by rw [hp.1, e1, hlen]) (by omega) (by omega)
  rw [hd] at hr
  exact ⟨rfl, hlen, hr, grown_sort w g n d' os⟩

end Go.Proofs.Ytiabodhgjeoejaa
/-
  The leaves of a map, told in order.
-/
namespace Go.Proofs.Ytiabodhgjeoejaa
open Go.RowKit Go.BigFrame Go.Sort Go.Maps
set_option linter.unusedVariables false
set_option linter.unusedSimpArgs false

/-- the leaves that have come so far -/
def Coll (L : List Le) (left : Lit → Bool) (l : List Le) : Prop := l.Pairwise (fun a b => a.n ≠ b.n) ∧ ∀ f, f ∈ l ↔ f ∈ L ∧ left (kl9 f.n) = false
theorem Coll.start {L : List Le} {D : DataW Le} (h1 : ∀ x : ByteArray, Maps.has D (kl9 x) = true ↔ ∃ f ∈ L, f.n = x) : Coll L (Maps.has D) [] := by
  refine ⟨List.Pairwise.nil, fun f => ?_⟩
  simp only [List.not_mem_nil, false_iff]
  rintro ⟨hf, hn⟩
  have := (h1 f.n).2 ⟨f, hf, rfl⟩
  rw [this] at hn
  cases hn
theorem same_self (x : ByteArray) : (kl9 x).sameKey (kl9 x) = true := by simp [kl9, Lit.sameKey]
theorem Coll.step {L l : List Le} {left : Lit → Bool} {f : Le} (h : Coll L left l) (hL : LV.Srt L) (hf : f ∈ L) (hl : left (kl9 f.n) = true) : Coll L (fun z => left z && !z.sameKey (kl9 f.n)) (l ++ [f]) := by
  refine ⟨List.pairwise_append.2 ⟨h.1, List.pairwise_singleton _ _, fun a ha b hb => ?_⟩, fun g => ?_⟩
  · simp at hb
    subst hb
    intro e
    have := ((h.2 a).1 ha).2
    rw [e, hl] at this
    cases this
  · rw [List.mem_append, List.mem_singleton, h.2 g]
    constructor
    · rintro (⟨h1, h2⟩ | rfl)
      · exact ⟨h1, by simp only [h2, Bool.false_and]⟩
      · exact ⟨hf, by simp only [same_self, Bool.not_true, Bool.and_false]⟩
    · rintro ⟨h1, h2⟩
      cases hg : left (kl9 g.n)
      · exact .inl ⟨h1, rfl⟩
      · simp only [hg, Bool.true_and] at h2
        right
        by_cases e : kl9 g.n = kl9 f.n
        · exact LV.srt_inj hL h1 hf (kl9_inj e)
        · rw [Maps.sameKey_ne e] at h2
          cases h2
theorem Coll.all {L l : List Le} {left : Lit → Bool} (h : Coll L left l) (hl : ∀ kl, left kl = false) : ∀ f, f ∈ l ↔ f ∈ L := fun f => by
  rw [h.2 f]
  exact ⟨fun h => h.1, fun h => ⟨h, hl _⟩⟩
/-- which leaf has come -/
theorem came {L : List Le} {D : DataW Le} {x : List UInt8} {c : Le} {yd : DataW Le} {yp : List MemPlace} (h1 : ∀ x : ByteArray, Maps.has D (kl9 x) = true ↔ ∃ f ∈ L, f.n = x) (h2 : ∀ f ∈ L, D.atKey (kl9 f.n) .nil = .held f)
    (hv : leR (.agg #[.string c.n, .string c.v]) = some (yd, yp)) (hat : ∀ zd, D.atKey (.string x) zd = yd) : c ∈ L ∧ (Lit.string x) = kl9 c.n := by
  have e3 : kl9 ⟨x.toArray⟩ = .string x := by simp [kl9]
  obtain ⟨f, hf, hn⟩ := (h1 ⟨x.toArray⟩).1 (by rw [e3]; exact Maps.has_true_of_atKey hat)
  have e4 := h2 f hf
  rw [hn, e3, hat] at e4
  rw [leR_mk] at hv
  simp at hv
  rw [← hv.1] at e4
  have : c = f := by injection e4
  subst this
  exact ⟨hf, by rw [hn, e3]⟩

theorem OL.neO {B : Nat} {w0 w : World} {u : Value} {l : List Le} {p : Nat} {o : Obj} (h : OL B w0 w u l) (hb : w.heap[p]? = some o) (ho : ∀ cs T fz, o ≠ .cells cs T fz) : some p ≠ u.ownBlock := by
  intro e
  rcases h.1.2 with ⟨hv, _⟩ | ⟨g, cap, cur, hv, _, hg, _⟩
  · rw [hv] at e; simp [Value.ownBlock] at e
  · rw [hv] at e
    have : p = g := by simpa [Value.ownBlock] using e
    subst this
    rw [hg] at hb
    exact ho _ _ _ (Option.some.inj hb).symm
theorem ranges_blocks {w : World} {b r n cnt : Nat} {D : DataW Le} {left : Lit → Bool} (h : w.ranges Try.prog 9 leR b r n D left cnt) : (∃ es c, w.heap[b]? = some (.map es c)) ∧ (∃ m s e c, w.heap[r]? = some (.mapIter m s e c)) := by
  obtain ⟨es, clock, since, seen, c0, hb, _, _, _, hr, _⟩ := h
  exact ⟨⟨es, clock, hb⟩, ⟨_, _, _, _, hr⟩⟩
theorem OL.ne_map {B : Nat} {w0 w : World} {u : Value} {l : List Le} {b r n cnt : Nat} {D : DataW Le} {left : Lit → Bool} (h : OL B w0 w u l) (hr : w.ranges Try.prog 9 leR b r n D left cnt) : some b ≠ u.ownBlock ∧ some r ≠ u.ownBlock := by
  obtain ⟨⟨es, c, h1⟩, ⟨m, s, e, c2, h2⟩⟩ := ranges_blocks hr
  exact ⟨h.neO h1 (fun _ _ _ h => by cases h), h.neO h2 (fun _ _ _ h => by cases h)⟩

/-- the range is under way, so many leaves have come -/
def MtR (w : World) (b r : Nat) (D : DataW Le) (L : List Le) (u : Value) (wr : World) : Prop := ∃ (left : Lit → Bool) (cnt : Nat) (l : List Le) (g cap : Nat), u = .slice (some ⟨g, 0, none⟩) l.length cap ∧
  Hid (OL w.heap.size w wr u l ∧ wr.ranges Try.prog 9 leR b r (Maps.size D) D left cnt ∧ Coll L left l ∧ l.length + cnt ≤ L.length ∧ g < wr.heap.size)

set_option maxRecDepth 100000 in
set_option maxHeartbeats 1000000 in
theorem listL_any (w0 w : World) (B b : Nat) (L : List Le) (h : LM B w0 w b L) (hL : LV.LOk L) :
    Calls Try.prog 77 #[.map (some b)] w fun e w' => ∃ g cap, e = .returned (.slice (some ⟨g, 0, none⟩) L.length cap) ∧ w.heap.size ≤ g ∧ RW 2 lcs w' (.slice (some ⟨g, 0, none⟩) L.length cap) g L ∧ Below w.heap.size w w' := by
  obtain ⟨D, hown, h1, h2, hsz⟩ := h.sized hL.2.2
  have hln := fun ty => h.len hL.2.2 ty
  have h24 := hL.1
  have HD : Hid ((∀ x : ByteArray, Maps.has D (kl9 x) = true ↔ ∃ f ∈ L, f.n = x) ∧ (∀ f ∈ L, D.atKey (kl9 f.n) .nil = .held f) ∧ Maps.size D = L.length) := ⟨h1, h2, hsz⟩
  have HL : Hid (LV.LOk L) := hL
  obtain ⟨i0, hi, hz0, hz1, hz2⟩ := info_parts Try.infoLeaf
  have hmk := run_make (P := Try.prog) w 24 73 i0 _ Try.underlying24 hi hz0 .i64 .i64 0 (L.length : Int) (by omega) (by omega) (by rw [hz2]; omega) (by omega)
  obtain ⟨w1, hw1⟩ : ∃ w1, (w.alloc (.cells (madeCells (Value.agg #[.string ByteArray.empty, .string ByteArray.empty]).cells ((L.length : Int).toNat * i0.size)) 73)) = w1 := ⟨_, rfl⟩
  rw [hw1] at hmk
  have ho1 : OL w.heap.size w w1 (.slice (some ⟨w.heap.size, 0, none⟩) 0 L.length) [] := by
    rw [← hw1]
    refine ⟨World.ownsRow_made w _ L.length (Nat.le_refl _) (by unfold maxLen; omega) ?_, (Below.refl _ _).alloc (Nat.le_refl _) _, by simp⟩
    rw [size_madeCells, hz1]
    simp
  have hs1 : w1.heap.size = w.heap.size + 1 := by rw [← hw1]; simp
  have hown1 : w1.ownsMap Try.prog 9 leR b (Maps.size D) D := by rw [← hw1]; exact hown.alloc _
  have HO : Hid (OL w.heap.size w w1 (.slice (some ⟨w.heap.size, 0, none⟩) 0 L.length) [] ∧ w1.heap.size = w.heap.size + 1) := ⟨ho1, hs1⟩
  simp only [Int.toNat_natCast, Int.toNat_zero] at hmk
  clear h1 h2 hsz h hL hw1 ho1 hs1 hi hz0 hz1 hz2
  go_enter Try.func77, Try.ntmps77
  go_wp2_with (at_range; refine wpList_range_own _ rfl _ 100 rfl 9 73 law_9 Try.underlying100 leR b (Maps.size D) D rfl hown1 ?_; intro w2 hrg2 hg2 hs2)
  have HST : Hid (MtR w b w1.heap.size D L (.slice (some ⟨w.heap.size, 0, none⟩) 0 L.length) w2) := by
    refine ⟨_, _, [], w.heap.size, L.length, rfl, ?_, hrg2, Coll.start HD.out.1, by rw [HD.out.2.2]; simp, by have := HO.out.2; omega⟩
    exact HO.out.1.grown hg2 (fun q hq => by cases hq)
  have HB : Hid (w.heap.size ≤ w1.heap.size) := by have := HO.out.2; show w.heap.size ≤ w1.heap.size; omega
  clear hrg2 hg2 hs2 hmk hown1 hown HO hln
  go_frame
  go_loopw [3] (fun u wr => MtR w b w1.heap.size D L u wr) (fun _ wr => wr.rangeLeft b w1.heap.size)
  case atStart => exact HST.out
  case round =>
    obtain ⟨left, cnt, l, g, cap, rfl, HI⟩ := hrel
    clear HST
    go_wp2_with (at_next; refine wpList_next_ranges _ rfl _ rfl 9 law_9 leR encStr (fun f : Le => .agg #[.string f.n, .string f.v]) (fun key kl hk => by obtain ⟨x, hx, _⟩ := Maps.keyOf_str Try.underlying9 hk; exact ⟨x, hx⟩) (fun v y hv => by obtain ⟨f, rfl, _⟩ := leR_inv hv; exact ⟨f, rfl⟩) b w1.heap.size (Maps.size D) _ _ _ rfl HI.out.2.1 ?_ ?_)
    · intro hc0 hl0
      have hall := HI.out.2.2.1.all hl0
      have hnd := HI.out.2.2.1.1
      have hll : l.length ≤ 24 := by have := HI.out.2.2.2.1; omega
      obtain ⟨g', hrw, hgB, hgg⟩ := HI.out.1.rw (by omega)
      obtain rfl : g = g' := hgg g (by simp [Value.ownBlock])
      have hso := sort_any g cap l L wr hrw HI.out.2.2.2.2 HL.out.2.2 hall hnd (by omega)
      have HW : Hid (Below w.heap.size w wr ∧ w.heap.size ≤ g) := ⟨HI.out.1.2.1, hgB⟩
      clear hall hnd hrw hgg HI hc0 hl0 HD HL
      go_wp2_with fail
      refine hso.mono ?_
      rintro e w3 ⟨rfl, hlen, hr3, hg3⟩
      have HF : Hid (∃ g2 cap2, Ending.returned (.slice (some ⟨g, 0, none⟩) l.length cap) = Ending.returned (.slice (some ⟨g2, 0, none⟩) L.length cap2) ∧ w.heap.size ≤ g2 ∧ RW 2 lcs w3 (.slice (some ⟨g2, 0, none⟩) L.length cap2) g2 L ∧ Below w.heap.size w w3) := ⟨g, cap, by rw [hlen], HW.out.2, hr3, HW.out.1.grown hg3 HW.out.1.size (fun q hq => by cases hq; exact HW.out.2)⟩
      clear hso hr3 hg3 HW hlen
      go_wp2
      go_ret
      exact HF.out
    · intro x c kl yd yp w3 cnt2 hkey hlk hv hat hrg3 hlt3 hg3 hs3 hen
      obtain ⟨x', ex, rfl, _⟩ := Maps.keyOf_str Try.underlying9 hkey
      obtain rfl : x = x' := encStr_inj ex
      obtain ⟨hcL, hkc⟩ := came HD.out.1 HD.out.2.1 hv hat
      rw [hkc] at hlk hrg3
      have ho3 : OL w.heap.size w w3 (.slice (some ⟨g, 0, none⟩) l.length cap) l := HI.out.1.grown hg3 (fun q hq => by cases hq; exact ⟨HB.out, (HI.out.1.ne_map HI.out.2.1).2.symm⟩)
      have HJ : Hid (OL w.heap.size w w3 (.slice (some ⟨g, 0, none⟩) l.length cap) l ∧ w3.ranges Try.prog 9 leR b w1.heap.size (Maps.size D) D (fun z => left z && !z.sameKey (kl9 c.n)) cnt2 ∧ Coll L (fun z => left z && !z.sameKey (kl9 c.n)) (l ++ [c]) ∧ (l.length + 1) + cnt2 ≤ L.length ∧ cnt2 < wr.rangeLeft b w1.heap.size) :=
        ⟨ho3, hrg3, HI.out.2.2.1.step HL.out.2.2 hcL hlk, by have := HI.out.2.2.2.1; omega, by rw [HI.out.2.1.left_eq]; exact hlt3⟩
      have hcs := LV.leB_sizes (HL.out.2.1 c hcL)
      have hl24 : l.length + 1 ≤ 24 := by have := HI.out.2.2.2.1; omega
      clear hrg3 ho3 hlk hv hat hkc hkey hs3 hg3 hlt3 HI hcL ex
      go_wp2_with fail
      refine (copiedL_any c _ (by omega) (by omega)).mono ?_
      rintro e w4 ⟨rfl, hb4⟩
      have hba : Below w3.heap.size w3 (w3.alloc (.cells #[.string c.n, .string c.v] 73)) := (Below.refl _ _).alloc (Nat.le_refl _) _
      have hbb := hba.trans (hb4.mono hba.size)
      have hbc : Below w3.heap.size w3 (w4.alloc (.cells #[.string c.n, .string c.v] 73)) := hbb.alloc hbb.size _
      have hoa := HJ.out.1.later hbc
      have HRG : Hid ((w4.alloc (.cells #[.string c.n, .string c.v] 73)).ranges Try.prog 9 leR b w1.heap.size (Maps.size D) D (fun z => left z && !z.sameKey (kl9 c.n)) cnt2) := HJ.out.2.1.kept (row := none) (grown_below hbc) (by simp) (by simp)
      have HRN : Hid ((w4.alloc (.cells #[.string c.n, .string c.v] 73)).rangeAt w4.heap.size 0 (lcs c)) := range_new _ [.string c.n, .string c.v] 73
      clear hb4 hba hbb hbc hen
      go_wp2_with (at_builtin; refine wp_leaf rfl _ _ rfl w.heap.size w (.slice (some ⟨g, 0, none⟩) l.length cap) l c rfl hoa _ rfl HRN.out (by omega) ?_)
      intro g5 cap5 w5 ho5 hg5
      have hne := hoa.ne_map HRG.out
      have hrg5 := HRG.out.kept hg5 hne.1 hne.2
      have HK : Hid (MtR w b w1.heap.size D L (.slice (some ⟨g5, 0, none⟩) (l.length + 1) cap5) w5 ∧ w5.rangeLeft b w1.heap.size < wr.rangeLeft b w1.heap.size) :=
        ⟨⟨_, cnt2, l ++ [c], g5, cap5, by simp, ho5, hrg5, HJ.out.2.2.1, by simp; exact HJ.out.2.2.2.1, (ho5.1.lt g5 (by simp [Value.ownBlock])).2⟩, by rw [hrg5.left_eq]; exact HJ.out.2.2.2.2⟩
      clear ho5 hg5 hoa hne hrg5 HRG HRN HJ
      go_wp2
      go_roundw
      case rel => exact HK.out.1
      case measure => exact HK.out.2

end Go.Proofs.Ytiabodhgjeoejaa
/-
  A leaf put into a list, and dropped from it: the program's answers.
-/
namespace Go.Proofs.Ytiabodhgjeoejaa
open Go.RowKit Go.BigFrame Go.Sort Go.Maps
set_option linter.unusedVariables false
set_option linter.unusedSimpArgs false


set_option maxRecDepth 100000 in
set_option maxHeartbeats 1000000 in
theorem LeafPut_any (v : Value) (ga oa : Nat) (L : List Le) (f : Le) (w : World) (hv : RS 2 lcs w v ga oa L) (hsm : SmallL L) (hn : f.n.size ≤ 1048576) (hvs : f.v.size ≤ 1048576) :
    Calls Try.prog 45 #[v, .string f.n, .string f.v] w (LqP (LV.putR L f) (LV.putB L f) w) := by
  obtain ⟨a, cap, rfl⟩ := hv.shape
  have HCP : Hid (∀ W, Below w.heap.size w W → Calls Try.prog 42 #[.slice a L.length cap] W fun e w' => ∃ g, e = .returned (.slice (some ⟨g, 0, none⟩) L.length L.length) ∧ W.heap.size ≤ g ∧ RW 2 lcs w' (.slice (some ⟨g, 0, none⟩) L.length L.length) g L ∧ Below W.heap.size W w') := fun W hW => leavesCopy_any _ ga oa L W (hv.later hW) hsm
  cases hd : LV.leavesB L
  · have hS := leafSetOf_no _ ga oa L w hv hsm hd
    have hpb : LV.putB L f = false := by unfold LV.putB; rw [hd]; rfl
    have HQ : Hid (LV.putB L f = false ∧ LV.putR L f = L) := ⟨hpb, putR_no hpb⟩
    clear hv hd hpb
    go_enter Try.func45, Try.ntmps45
    go_wp2_with fail
    refine hS.mono ?_
    rintro e w1 ⟨rfl, hb1⟩
    clear hS
    go_wp2_with fail
    refine (HCP.out _ hb1).mono ?_
    rintro e w2 ⟨g, rfl, hg, hr, hb2⟩
    have HF : Hid (RW 2 lcs w2 (.slice (some ⟨g, 0, none⟩) L.length L.length) g L ∧ w.heap.size ≤ g ∧ Below w.heap.size w w2) := ⟨hr, by have := hb1.size; omega, hb1.trans (hb2.mono hb1.size)⟩
    clear hr hb2 hb1 hg HCP
    go_wp2
    go_ret2
    unfold LqP
    rw [HQ.out.1, HQ.out.2]
    exact ⟨_, _, g, rfl, HF.out⟩
  · have hS := leafSetOf_yes _ ga oa L w hv hsm hd
    have HL : Hid (LV.LOk L) := LV.leavesB_iff.1 hd
    clear hv hd
    go_enter Try.func45, Try.ntmps45
    go_wp2_with fail
    refine hS.mono ?_
    rintro e w1 ⟨b, rfl, hm1⟩
    have hP := putL_any w.heap.size w w1 b L f hm1 HL.out hn hvs
    clear hS hm1
    go_wp2_with fail
    refine hP.mono ?_
    rintro e w2 ⟨rfl, hm2⟩
    clear hP
    have b2 : Below w.heap.size w w2 := hm2.2.2.1
    cases hpb : LV.putB L f
    · have HQ : Hid (LV.putB L f = false ∧ LV.putR L f = L) := ⟨hpb, putR_no hpb⟩
      clear hm2
      go_wp2_with fail
      refine (HCP.out _ b2).mono ?_
      rintro e w3 ⟨g, rfl, hg, hr, hb3⟩
      have HF : Hid (RW 2 lcs w3 (.slice (some ⟨g, 0, none⟩) L.length L.length) g L ∧ w.heap.size ≤ g ∧ Below w.heap.size w w3) := ⟨hr, by have := b2.size; omega, b2.trans (hb3.mono b2.size)⟩
      clear hr hb3 b2 hg HCP hpb
      go_wp2
      go_ret2
      unfold LqP
      rw [HQ.out.1, HQ.out.2]
      exact ⟨_, _, g, rfl, HF.out⟩
    · have HQ : Hid (LV.putB L f = true) := hpb
      have hok : LV.LOk (LV.putR L f) := by rw [putR_yes hpb]; exact LV.putB_ok hpb
      have hli := listL_any w w2 w.heap.size b (LV.putR L f) hm2 hok
      generalize LV.putR L f = M at *
      clear hm2 hok HCP
      go_wp2_with fail
      refine hli.mono ?_
      rintro e w3 ⟨g, cap3, rfl, hg, hr, hb3⟩
      have HF : Hid (RW 2 lcs w3 (.slice (some ⟨g, 0, none⟩) M.length cap3) g M ∧ w.heap.size ≤ g ∧ Below w.heap.size w w3) := ⟨hr, by have := b2.size; omega, b2.trans (hb3.mono b2.size)⟩
      clear hr hb3 b2 hg hli hpb
      go_wp2
      go_ret2
      unfold LqP
      rw [HQ.out]
      exact ⟨_, _, g, rfl, HF.out⟩

set_option maxRecDepth 100000 in
set_option maxHeartbeats 1000000 in
theorem LeafDrop_any (v : Value) (ga oa : Nat) (L : List Le) (x : ByteArray) (w : World) (hv : RS 2 lcs w v ga oa L) (hsm : SmallL L) (hx : x.size ≤ 1048576) :
    Calls Try.prog 44 #[v, .string x] w (LqP (LV.dropR L x) (LV.dropB L x) w) := by
  obtain ⟨a, cap, rfl⟩ := hv.shape
  have HCP : Hid (∀ W, Below w.heap.size w W → Calls Try.prog 42 #[.slice a L.length cap] W fun e w' => ∃ g, e = .returned (.slice (some ⟨g, 0, none⟩) L.length L.length) ∧ W.heap.size ≤ g ∧ RW 2 lcs w' (.slice (some ⟨g, 0, none⟩) L.length L.length) g L ∧ Below W.heap.size W w') := fun W hW => leavesCopy_any _ ga oa L W (hv.later hW) hsm
  cases hd : LV.leavesB L
  · have hS := leafSetOf_no _ ga oa L w hv hsm hd
    have hpb : LV.dropB L x = false := by unfold LV.dropB; rw [hd]; rfl
    have HQ : Hid (LV.dropB L x = false ∧ LV.dropR L x = L) := ⟨hpb, dropR_no hpb⟩
    clear hv hd hpb
    go_enter Try.func44, Try.ntmps44
    go_wp2_with fail
    refine hS.mono ?_
    rintro e w1 ⟨rfl, hb1⟩
    clear hS
    go_wp2_with fail
    refine (HCP.out _ hb1).mono ?_
    rintro e w2 ⟨g, rfl, hg, hr, hb2⟩
    have HF : Hid (RW 2 lcs w2 (.slice (some ⟨g, 0, none⟩) L.length L.length) g L ∧ w.heap.size ≤ g ∧ Below w.heap.size w w2) := ⟨hr, by have := hb1.size; omega, hb1.trans (hb2.mono hb1.size)⟩
    clear hr hb2 hb1 hg HCP
    go_wp2
    go_ret2
    unfold LqP
    rw [HQ.out.1, HQ.out.2]
    exact ⟨_, _, g, rfl, HF.out⟩
  · have hS := leafSetOf_yes _ ga oa L w hv hsm hd
    have hok := LV.leavesB_iff.1 hd
    have hdb : LV.dropB L x = (LV.find L x).isSome := by unfold LV.dropB; rw [hd]; rfl
    have HOW : Hid (LV.LOk (LV.wout L x)) := LV.ok_wout hok x
    clear hv hd
    go_enter Try.func44, Try.ntmps44
    go_wp2_with fail
    refine hS.mono ?_
    rintro e w1 ⟨b, rfl, hm1⟩
    have hP := dropL_any w.heap.size w w1 b L x hm1 hx
    rw [← hdb] at hP
    clear hS hm1
    go_wp2_with fail
    refine hP.mono ?_
    rintro e w2 ⟨rfl, hm2⟩
    clear hP
    have b2 : Below w.heap.size w w2 := hm2.2.2.1
    cases hpb : LV.dropB L x
    · have HQ : Hid (LV.dropB L x = false ∧ LV.dropR L x = L) := ⟨hpb, dropR_no hpb⟩
      clear hm2
      go_wp2_with fail
      refine (HCP.out _ b2).mono ?_
      rintro e w3 ⟨g, rfl, hg, hr, hb3⟩
      have HF : Hid (RW 2 lcs w3 (.slice (some ⟨g, 0, none⟩) L.length L.length) g L ∧ w.heap.size ≤ g ∧ Below w.heap.size w w3) := ⟨hr, by have := b2.size; omega, b2.trans (hb3.mono b2.size)⟩
      clear hr hb3 b2 hg HCP hpb hdb
      go_wp2
      go_ret2
      unfold LqP
      rw [HQ.out.1, HQ.out.2]
      exact ⟨_, _, g, rfl, HF.out⟩
    · have HQ : Hid (LV.dropB L x = true ∧ LV.dropR L x = LV.wout L x) := ⟨hpb, dropR_yes hpb⟩
      rw [hpb] at hm2
      have hli := listL_any w w2 w.heap.size b (LV.wout L x) (by simpa using hm2) HOW.out
      generalize LV.wout L x = M at *
      clear hm2 HOW HCP hdb
      go_wp2_with fail
      refine hli.mono ?_
      rintro e w3 ⟨g, cap3, rfl, hg, hr, hb3⟩
      have HF : Hid (RW 2 lcs w3 (.slice (some ⟨g, 0, none⟩) M.length cap3) g M ∧ w.heap.size ≤ g ∧ Below w.heap.size w w3) := ⟨hr, by have := b2.size; omega, b2.trans (hb3.mono b2.size)⟩
      clear hr hb3 b2 hg hli hpb
      go_wp2
      go_ret2
      unfold LqP
      rw [HQ.out.1, HQ.out.2]
      exact ⟨_, _, g, rfl, HF.out⟩

end Go.Proofs.Ytiabodhgjeoejaa
