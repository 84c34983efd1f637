/-
  Texts laid together: Ms, So, Sr.
-/
import Derived.Test.YtiabodhgjeoejaaPkC20
import Derived.Shelf.SlSortCmp.WholeK
import Derived.Test.YtiabodhgjeoejaaProg
import Derived.Test.YtiabodhgjeoejaaPkC11
import Derived.Test.YtiabodhgjeoejaaPkC10
/-
  A leaf put into the map, and dropped from it.
-/
namespace Go.Proofs.Ytiabodhgjeoejaa
open Go.RowKit Go.BigFrame Go.Sort Go.Maps
set_option linter.unusedVariables false
set_option linter.unusedSimpArgs false

theorem wp_leafLook {w : World} {ops : Array Oper} {rest : List Oper} {o : Oper} {a : Act} {Q : Exit → Act → World → Prop} (hgd : o.guard = none) (m x : Operand) (hop : o.op = Op.lookup 100 m x true)
    (b : Nat) (y : ByteArray) (hm : a.eval m = .map (some b)) (hx : a.eval x = .string y) (B : Nat) (w0 : World) (L : List Le) (h : LM B w0 w b L) (hs : y.size ≤ 2000000)
    (hK : ∀ f : Le, wpList Try.prog ops Q rest (a.put o.dst (.tuple #[.agg #[.string f.n, .string f.v], .bool (LV.find L y).isSome])) w) : wpList Try.prog ops Q (o :: rest) a w := by
  refine wpList_plain hgd fun K' hK' => ?_
  obtain ⟨f, hrun⟩ := h.look y hs
  unfold Oper.wp
  simp [execOp, hop, hm, hx, hrun, Result.andThen]
  exact hK' _ _ (hK f)

set_option maxRecDepth 100000 in
set_option maxHeartbeats 1000000 in
theorem dropL_any (B : Nat) (w0 w : World) (b : Nat) (L : List Le) (x : ByteArray) (hS : LM B w0 w b L) (hx : x.size ≤ 1048576) :
    Calls Try.prog 76 #[.map (some b), .string x] w fun e w' => e = .returned (.bool (LV.find L x).isSome) ∧ LM B w0 w' b (if (LV.find L x).isSome then LV.wout L x else L) := by
  have hbl : ∀ (f : Le), LM B w0 (w.alloc (.cells #[.string f.n, .string f.v] 73)) b L := fun f => hS.later ((Below.refl _ _).alloc (Nat.le_refl _) _)
  have hbz : LM B w0 (w.alloc (.cells #[.string ⟨#[]⟩, .string ⟨#[]⟩] 73)) b L := hS.later ((Below.refl _ _).alloc (Nat.le_refl _) _)
  have HS : Hid (LM B w0 w b L) := hS
  cases hR : (LV.find L x).isSome
  · have HR : Hid ((LV.find L x).isSome = false) := hR
    have HB : Hid (∀ (f : Le), LM B w0 (w.alloc (.cells #[.string f.n, .string f.v] 73)) b L) := hbl
    clear hS hR hbl
    go_enter Try.func76, Try.ntmps76
    go_wp2_with (at_lookup; refine wp_leafLook rfl _ _ rfl b x rfl rfl B w0 L (by first | exact HS.out | exact hbz) (by omega) ?_; intro f0; rw [HR.out])
    go_ret
    exact ⟨rfl, HB.out f0⟩
  · have HR : Hid ((LV.find L x).isSome = true) := hR
    have HB : Hid (∀ (f : Le), LM B w0 (w.alloc (.cells #[.string f.n, .string f.v] 73)) b L) := hbl
    clear hS hR hbl
    go_enter Try.func76, Try.ntmps76
    go_wp2_with (first | (at_lookup; refine wp_leafLook rfl _ _ rfl b x rfl rfl B w0 L (by first | exact HS.out | exact hbz) (by omega) ?_; intro f0; rw [HR.out]) | (at_delete; refine wp_leafDel rfl _ _ rfl b x rfl rfl B w0 L (HB.out f0) (by omega) ?_; intro w2 hm2 hg2))
    have HM : Hid (LM B w0 w2 b (LV.wout L x)) := hm2
    clear hm2 hg2
    go_wp2
    go_ret
    exact ⟨rfl, HM.out⟩

set_option maxRecDepth 100000 in
set_option maxHeartbeats 1000000 in
theorem putL_any (B : Nat) (w0 w : World) (b : Nat) (L : List Le) (f : Le) (hS : LM B w0 w b L) (hL : LV.LOk L) (hn : f.n.size ≤ 1048576) (hv : f.v.size ≤ 1048576) :
    Calls Try.prog 78 #[.map (some b), .agg #[.string f.n, .string f.v]] w fun e w' => e = .returned (.bool (LV.putB L f)) ∧ LM B w0 w' b (LV.putR L f) := by
  have hbz : LM B w0 ((w.alloc (.cells #[.string f.n, .string f.v] 73)).alloc (.cells #[.string ⟨#[]⟩, .string ⟨#[]⟩] 73)) b L := hS.later (((Below.refl _ _).alloc (Nat.le_refl _) _).alloc (by simp) _)
  have hb1 : LM B w0 (w.alloc (.cells #[.string f.n, .string f.v] 73)) b L := hS.later ((Below.refl _ _).alloc (Nat.le_refl _) _)
  have HB : Hid (∀ (g : Le), LM B w0 ((w.alloc (.cells #[.string f.n, .string f.v] 73)).alloc (.cells #[.string g.n, .string g.v] 73)) b L) := fun g => hS.later (((Below.refl _ _).alloc (Nat.le_refl _) _).alloc (by simp) _)
  have HL : Hid (LV.LOk L) := hL
  have HOK : Hid (∀ W, Calls Try.prog 56 #[.agg #[.string f.n, .string f.v]] W fun e w' => e = .returned (.bool (LV.leB f)) ∧ Below W.heap.size W w') := fun W => leafOk_any f W hn hv
  have HPB : Hid (LV.putB L f = (LV.leB f && ((LV.find L f.n).isSome || decide (L.length < 24)))) := by unfold LV.putB; rw [LV.leavesB_iff.2 hL, Bool.true_and]; rfl
  have HPR : Hid (LV.putR L f = if LV.putB L f then LV.put L f else L) := rfl
  clear hS hL
  obtain ⟨R, hR⟩ : ∃ R, (LV.find L f.n).isSome = R := ⟨_, rfl⟩
  have HR : Hid ((LV.find L f.n).isSome = R) := hR
  go_enter Try.func78, Try.ntmps78
  go_wp2_with (at_lookup; refine wp_leafLook rfl _ _ rfl b f.n rfl rfl B w0 L (by first | exact hbz | exact hb1) (by omega) ?_; intro f0; rw [HR.out])
  refine (HOK.out _).mono ?_
  rintro e w3 ⟨rfl, hb3⟩
  have hbx : BL ((w.alloc (.cells #[.string f.n, .string f.v] 73)).alloc (.cells #[.string f0.n, .string f0.v] 73)) w.heap.size f.n f.v := alloc_snd _ _ _ rfl
  have HX : Hid (LM B w0 w3 b L ∧ BL w3 w.heap.size f.n f.v) := ⟨(HB.out f0).later hb3, hbx.later hb3⟩
  have x0 := HX.out.2.c0
  have x1 := HX.out.2.c1
  have hln := fun ty => HX.out.1.len HL.out.2.2 ty
  clear hb3 hbx HB hbz hb1 HOK HR
  have hpb := HPB.out
  rw [hR] at hpb
  cases hf : LV.leB f
  · rw [hf, Bool.false_and] at hpb
    have HQ : Hid (LV.putB L f = false ∧ LV.putR L f = L) := ⟨hpb, by rw [HPR.out, hpb]; rfl⟩
    clear HPB HPR HL hln hR hpb
    go_wp2
    go_ret
    exact ⟨by rw [HQ.out.1]; rfl, by rw [HQ.out.2]; exact HX.out.1⟩
  · rw [hf, Bool.true_and] at hpb
    cases R
    · rw [Bool.false_or] at hpb
      by_cases h24 : L.length < 24
      · rw [decide_eq_true h24] at hpb
        have HQ : Hid (LV.putB L f = true ∧ LV.putR L f = LV.put L f) := ⟨hpb, by rw [HPR.out, hpb]; rfl⟩
        have q : ¬ (24 : Int) ≤ (L.length : Int) := by omega
        clear HPB HPR hR hpb
        go_wp2_with (at_mapUpdate; refine wp_leafStore rfl _ _ _ rfl b f rfl rfl rfl B w0 L HX.out.1 HL.out (by omega) ?_; intro w4 hm4 hg4)
        have HM : Hid (LM B w0 w4 b (LV.put L f)) := hm4
        clear hm4 hg4 HX x0 x1 hln
        go_wp2
        go_ret
        exact ⟨by rw [HQ.out.1]; rfl, by rw [HQ.out.2]; exact HM.out⟩
      · rw [decide_eq_false h24] at hpb
        have HQ : Hid (LV.putB L f = false ∧ LV.putR L f = L) := ⟨hpb, by rw [HPR.out, hpb]; rfl⟩
        have q : (24 : Int) ≤ (L.length : Int) := by omega
        clear HPB HPR hR hpb
        go_wp2
        go_ret
        exact ⟨by rw [HQ.out.1]; rfl, by rw [HQ.out.2]; exact HX.out.1⟩
    · rw [Bool.true_or] at hpb
      have HQ : Hid (LV.putB L f = true ∧ LV.putR L f = LV.put L f) := ⟨hpb, by rw [HPR.out, hpb]; rfl⟩
      clear HPB HPR hR hpb
      go_wp2_with (at_mapUpdate; refine wp_leafStore rfl _ _ _ rfl b f rfl rfl rfl B w0 L HX.out.1 HL.out (by omega) ?_; intro w4 hm4 hg4)
      have HM : Hid (LM B w0 w4 b (LV.put L f)) := hm4
      clear hm4 hg4 HX x0 x1 hln
      go_wp2
      go_ret
      exact ⟨by rw [HQ.out.1]; rfl, by rw [HQ.out.2]; exact HM.out⟩

end Go.Proofs.Ytiabodhgjeoejaa
/-
  The library's own contract on slices.SortFunc, laid at this program: a table of numbers and one theorem.
-/
namespace Go.Proofs
open Go.Shelf
def Try.sortLe_ren : Go.Shelf.Ren := ⟨fun | 6 => 94 | 15 => 99 | 14 => 98 | 28 => 109 | 29 => 110 | 20 => 101 | 21 => 102 | 22 => 103 | 23 => 104 | 24 => 105 | 25 => 106 | 26 => 107 | 27 => 108 | 46 => 111 | 47 => 112 | 48 => 113 | 49 => 114 | 50 => 115 | 57 => 116 | n => n, fun | 22 => 24 | 24 => 73 | 25 => 85 | 3 => 3 | 39 => 120 | 0 => 0 | 53 => 135 | 55 => 137 | 4 => 4 | 46 => 128 | 45 => 127 | 50 => 132 | 5 => 5 | 9 => 9 | 66 => 138 | 70 => 142 | 76 => 144 | 77 => 145 | n => n, fun | n => n⟩
theorem Try.sortLe : Go.Proofs.SlLaysF0.n6 Try.prog Try.sortLe_ren := {
  mixed := by kernel_rfl
  f6 := ⟨Try.f94.name, by decide, Try.func94.trans (congrArg some (by kernel_rfl))⟩
  f14 := ⟨Try.f98.name, by decide, Try.func98.trans (congrArg some (by kernel_rfl))⟩
  f15 := Try.func99.trans (congrArg some (by kernel_rfl))
  f20 := ⟨Try.f101.name, by decide, Try.func101.trans (congrArg some (by kernel_rfl))⟩
  f21 := ⟨Try.f102.name, by decide, Try.func102.trans (congrArg some (by kernel_rfl))⟩
  f22 := ⟨Try.f103.name, by decide, Try.func103.trans (congrArg some (by kernel_rfl))⟩
  f23 := ⟨Try.f104.name, by decide, Try.func104.trans (congrArg some (by kernel_rfl))⟩
  f24 := ⟨Try.f105.name, by decide, Try.func105.trans (congrArg some (by kernel_rfl))⟩
  f25 := ⟨Try.f106.name, by decide, Try.func106.trans (congrArg some (by kernel_rfl))⟩
  f26 := ⟨Try.f107.name, by decide, Try.func107.trans (congrArg some (by kernel_rfl))⟩
  f27 := ⟨Try.f108.name, by decide, Try.func108.trans (congrArg some (by kernel_rfl))⟩
  f28 := Try.func109.trans (congrArg some (by kernel_rfl))
  f29 := Try.func110.trans (congrArg some (by kernel_rfl))
  f46 := ⟨Try.f111.name, by decide, Try.func111.trans (congrArg some (by kernel_rfl))⟩
  f47 := Try.func112.trans (congrArg some (by kernel_rfl))
  f48 := Try.func113.trans (congrArg some (by kernel_rfl))
  f49 := ⟨Try.f114.name, by decide, Try.func114.trans (congrArg some (by kernel_rfl))⟩
  f50 := ⟨Try.f115.name, by decide, Try.func115.trans (congrArg some (by kernel_rfl))⟩
  f57 := ⟨Try.f116.name, by decide, Try.func116.trans (congrArg some (by kernel_rfl))⟩
  t0 := Try.underlying0
  a0 := Try.isAgg0
  z0 := Try.sizeOf0
  v0 := Try.zeroValue0
  t3 := Try.underlying3
  a3 := Try.isAgg3
  z3 := Try.sizeOf3
  v3 := Try.zeroValue3
  t4 := Try.underlying4
  a4 := Try.isAgg4
  z4 := Try.sizeOf4
  v4 := Try.zeroValue4
  t5 := Try.underlying5
  a5 := Try.isAgg5
  z5 := Try.sizeOf5
  v5 := Try.zeroValue5
  t9 := Try.underlying9
  a9 := Try.isAgg9
  z9 := Try.sizeOf9
  v9 := Try.zeroValue9
  t22 := Try.underlying24
  a22 := Try.isAgg24
  z22 := Try.sizeOf24
  v22 := Try.zeroValue24
  t25 := Try.underlying85
  a25 := Try.isAgg85
  z25 := Try.sizeOf85
  v25 := Try.zeroValue85
  t39 := Try.underlying120
  a39 := Try.isAgg120
  z39 := Try.sizeOf120
  v39 := Try.zeroValue120
  t45 := Try.underlying127
  a45 := Try.isAgg127
  z45 := Try.sizeOf127
  v45 := Try.zeroValue127
  t46 := Try.underlying128
  a46 := Try.isAgg128
  z46 := Try.sizeOf128
  v46 := Try.zeroValue128
  t50 := Try.underlying132
  a50 := Try.isAgg132
  z50 := Try.sizeOf132
  v50 := Try.zeroValue132
  t53 := Try.underlying135
  a53 := Try.isAgg135
  z53 := Try.sizeOf135
  v53 := Try.zeroValue135
  t55 := Try.underlying137
  a55 := Try.isAgg137
  z55 := Try.sizeOf137
  v55 := Try.zeroValue137
  t66 := Try.underlying138
  a66 := Try.isAgg138
  z66 := Try.sizeOf138
  v66 := Try.zeroValue138
  t70 := Try.underlying142
  a70 := Try.isAgg142
  z70 := Try.sizeOf142
  v70 := Try.zeroValue142
  t76 := Try.underlying144
  a76 := Try.isAgg144
  z76 := Try.sizeOf144
  v76 := Try.zeroValue144
  t77 := Try.underlying145
  a77 := Try.isAgg145
  z77 := Try.sizeOf145
  v77 := Try.zeroValue145 }
end Go.Proofs
/-
  Leaves sorted by their names: the library's own contract on slices.SortFunc at this program's leaves.
-/
namespace Go.Proofs.Ytiabodhgjeoejaa
open Go.RowKit Go.Shelf Go.Lib
open Go.Sort (SWO PermIn SortedIn HoldsK flatK get_flatK grow holdsK_grow holdsK_putRowK holdsK_ahead)
set_option linter.unusedVariables false
set_option linter.unusedSimpArgs false

/-- a leaf as a pair, for the library's words -/
def pr (f : Le) : ByteArray × ByteArray := (f.n, f.v)
def lf (p : ByteArray × ByteArray) : Le := ⟨p.1, p.2⟩
def pcs (p : ByteArray × ByteArray) : List Value := [.string p.1, .string p.2]
def pcf (p q : ByteArray × ByteArray) : Int := LV.cmpN p.1 q.1
theorem ltOf_pcf (p q : ByteArray × ByteArray) : ltOf pcf p q = F.ltN p.1 q.1 := by
  unfold ltOf pcf
  rw [Bool.eq_iff_iff, decide_eq_true_eq]
  exact LV.cmpN_lt _ _
theorem swo_pcf : SWO (ltOf pcf) := {
  irrefl := fun x => by rw [ltOf_pcf]; exact F.ltN_irrefl _
  trans := fun x y z h1 h2 => by rw [ltOf_pcf] at *; exact F.ltN_trans h1 h2
  ntrans := fun x y z h1 h2 => by
    rw [ltOf_pcf] at *
    cases h : F.ltN x.1 z.1
    · rfl
    · rcases F.ltN_tri x.1 y.1 with h3 | h3 | h3
      · rw [h3] at h1; cases h1
      · rw [h3, h2] at h; cases h
      · rw [F.ltN_trans h3 h] at h2; cases h2 }

theorem cmpLays_any (blk off size : Nat) (w : World) : CmpLays Try.prog 57 #[] pcs 2 pcf blk off size w :=
  fun _ _ _ _ x y => compareNames_grow (lf x) (lf y) _

theorem holds_of {w : World} {v : Value} {g : Nat} {l : List Le} (h : RW 2 lcs w v g l) : HoldsK pcs 2 w g 0 (l.map pr).toArray := by
  intro t ht
  have ht' : t < l.length * 2 := by simpa using ht
  have hq : t / 2 < l.length := by omega
  have e : (flatK pcs 2 (l.map pr).toArray)[t]! = (lcs l[t / 2])[t % 2]! := by
    rw [get_flatK _ _ _ t (by simpa using ht')]
    have : (l.map pr).toArray[t / 2]! = pr l[t / 2] := by simp [hq]
    rw [this]
    rfl
  obtain ⟨⟨a, c, _, _, _, hc⟩, hth⟩ := h
  have hm : t % 2 < 2 := Nat.mod_lt _ (by omega)
  have et : t = t / 2 * 2 + t % 2 := by omega
  rw [e]
  refine ⟨?_, ?_⟩
  · have := hc (t / 2) hq (t % 2) _ (List.getElem?_eq_getElem (by rw [lcs_len]; exact hm))
    rw [Nat.zero_add] at this ⊢
    rw [← et] at this
    rw [this, getElem!_pos (lcs l[t / 2]) (t % 2) (by rw [lcs_len]; exact hm)]
    rfl
  · have := (hth (t / 2) hq (t % 2) hm).2
    rw [← et] at this
    rw [Nat.zero_add]
    exact this

theorem row_of_holds {w : World} {g n cap : Nat} {d : Array (ByteArray × ByteArray)} (h : HoldsK pcs 2 w g 0 d) (hn : d.size = n) (hl : n ≤ 1100000) (hg : g < w.heap.size) : RW 2 lcs w (.slice (some ⟨g, 0, none⟩) n cap) g (d.toList.map lf) := by
  subst hn
  have key : ∀ j i, j < d.size → i < 2 → w.cell? ⟨g, j * 2 + i, none⟩ = some ((lcs (lf d[j]!))[i]!) ∧ w.frozen? ⟨g, j * 2 + i, none⟩ = false := by
    intro j i hj hi
    have h1 := h (j * 2 + i) (by simp; omega)
    rw [get_flatK _ _ _ _ (by omega), show (j * 2 + i) / 2 = j by omega, show (j * 2 + i) % 2 = i by omega, Nat.zero_add] at h1
    exact h1
  refine ⟨⟨some ⟨g, 0, none⟩, cap, by simp, by simpa using hl, fun _ => ⟨rfl, hg⟩, fun j hj i u hu => ?_⟩, fun j hj i hi => ?_⟩
  · have hj' : j < d.size := by simpa using hj
    have hi : i < 2 := by have := (List.getElem?_eq_some_iff.1 hu).1; rw [lcs_len] at this; exact this
    have hk := (key j i hj' hi).1
    rw [Nat.zero_add, hk]
    have e : (d.toList.map lf)[j]'hj = lf d[j]! := by simp [hj']
    rw [e, List.getElem?_eq_getElem (by rw [lcs_len]; exact hi)] at hu
    rw [← hu, getElem!_pos (lcs (lf d[j]!)) i (by rw [lcs_len]; exact hi)]
  · have hj' : j < d.size := by simpa using hj
    have hk := key j i hj' hi
    exact ⟨by rw [hk.1]; rfl, hk.2⟩

theorem grown_sort (w : World) (g n : Nat) (d : Array (ByteArray × ByteArray)) (os : Array Obj) : w.grownBy (sortWorldK pcs 2 w g 0 n d os) (some g) := by
  refine ⟨rfl, rfl, rfl, ?_, fun i hi hne => ?_⟩
  · simp [sortWorldK, grow, Go.Sort.putRowK, Go.Sort.putRow, Go.Sort.mapBlock, Go.Sort.ahead]
  · have hne' : g ≠ i := fun e => hne (by rw [e])
    simp [sortWorldK, grow, Go.Sort.putRowK, Go.Sort.putRow, Go.Sort.mapBlock, Go.Sort.ahead, Array.getElem?_append, hi, Array.getElem_modify, hne']

/-- what is sorted, told by its names -/
theorem sorted_is {l L : List Le} {d' : Array (ByteArray × ByteArray)} (hL : LV.Srt L) (hm : ∀ f, f ∈ l ↔ f ∈ L) (hnd : l.Pairwise (fun a b => a.n ≠ b.n)) (hp : PermIn 0 (l.map pr).toArray.size (l.map pr).toArray d') (hs : SortedIn (ltOf pcf) 0 (l.map pr).toArray.size d') : d'.toList.map lf = L := by
  obtain ⟨hsz, _, hperm⟩ := hp
  have hsz' : d'.size = l.length := by simpa using hsz
  have hperm' : d'.toList.Perm (l.map pr) := by
    have e1 : d'.extract 0 (l.map pr).toArray.size = d' := by rw [← hsz]; exact Array.extract_size
    have e2 : (l.map pr).toArray.extract 0 (l.map pr).toArray.size = (l.map pr).toArray := Array.extract_size
    rw [e1, e2] at hperm
    simpa using hperm
  have hpl : (d'.toList.map lf).Perm l := by
    have := hperm'.map lf
    have e : (l.map pr).map lf = l := by
      rw [List.map_map]
      exact List.map_id'' (fun f => rfl) l
    rw [e] at this
    exact this
  have hnd' : (d'.toList.map lf).Pairwise (fun a b => a.n ≠ b.n) := hpl.symm.pairwise hnd (fun {a b} h => Ne.symm h)
  refine LV.srt_ext ?_ hL (fun f => by rw [hpl.mem_iff]; exact hm f)
  unfold LV.Srt
  rw [List.pairwise_iff_getElem] at hnd' ⊢
  intro i j hi hj hij
  have hi' : i < d'.size := by simpa using hi
  have hj' : j < d'.size := by simpa using hj
  have h1 := hs i j (Nat.zero_le _) hij (by simp; omega)
  rw [ltOf_pcf] at h1
  have h2 := hnd' i j hi hj hij
  have ei : (d'.toList.map lf)[i] = lf d'[i]! := by simp [hi']
  have ej : (d'.toList.map lf)[j] = lf d'[j]! := by simp [hj']
  rw [ei, ej] at h2 ⊢
  rcases F.ltN_tri (lf d'[i]!).n (lf d'[j]!).n with h3 | h3 | h3
  · exact h3
  · exact absurd h3 h2
  · have h4 : F.ltN (d'[j]!).1 (d'[i]!).1 = true := h3
    rw [h1] at h4
    cases h4

theorem sort_any (g cap : Nat) (l L : List Le) (w : World) (h : RW 2 lcs w (.slice (some ⟨g, 0, none⟩) l.length cap) g l) (hg : g < w.heap.size) (hL : LV.Srt L) (hm : ∀ f, f ∈ l ↔ f ∈ L) (hnd : l.Pairwise (fun a b => a.n ≠ b.n)) (hl : l.length ≤ 100000) :
    Calls Try.prog 94 #[.slice (some ⟨g, 0, none⟩) l.length cap, .func (.func 57) #[] #[]] w fun e w' => e = .returned (.tuple #[]) ∧ l.length = L.length ∧ RW 2 lcs w' (.slice (some ⟨g, 0, none⟩) L.length cap) g L ∧ w.grownBy w' (some g) := by
  have eg : ∀ args w, (callFunc 57 args).run Try.prog w = .ok (.enter 57 args) w := enters_of Try.func57 (by kernel_rfl) rfl
  have hH := holds_of h
  have hcon := AnyQ.slices_SortFunc Try.sortLe 2 Try.isAgg73 Try.sizeOf73 pcs (fun _ => rfl) (fun x v hv => by simp [pcs] at hv; rcases hv with rfl | rfl <;> rfl) pcf swo_pcf 57 #[] g 0 cap (l.map pr).toArray w eg (cmpLays_any g 0 (l.map pr).toArray.size w) hH hg (by simp; omega)
  change Calls Try.prog 94 _ _ _ at hcon
  have e1 : (l.map pr).toArray.size = l.length := by simp
  rw [e1] at hcon
  refine hcon.mono ?_
  rintro e w' ⟨rfl, d', n, os, hp, hs, rfl⟩
  have hd : d'.toList.map lf = L := sorted_is hL hm hnd (by rw [e1]; exact hp) (by rw [e1]; exact hs)
  have hlen : l.length = L.length := by
    have h1 : (d'.toList.map lf).length = L.length := by rw [hd]
    rw [List.length_map, Array.length_toList, hp.1, e1] at h1
    exact h1
  have hh : HoldsK pcs 2 (sortWorldK pcs 2 w g 0 n d' os) g 0 d' := holdsK_grow pcs 2 _ _ _ _ _ (by simpa [Go.Sort.putRowK] using hg) (holdsK_putRowK pcs 2 _ _ _ _ _ (holdsK_ahead pcs 2 _ n _ _ _ hH) (by rw [hp.1]))
  have hgs := (grown_sort w g n d' os).size
  have hr := row_of_holds (cap := cap) hh (show d'.size = L.length by rw [hp.1, e1, hlen]) (by omega) (by omega)
  rw [hd] at hr
  exact ⟨rfl, hlen, hr, grown_sort w g n d' os⟩

end Go.Proofs.Ytiabodhgjeoejaa
