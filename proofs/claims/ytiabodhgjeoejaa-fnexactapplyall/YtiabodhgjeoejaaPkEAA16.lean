/-
  Texts laid together: Mr, Ms, So.
-/
import Derived.Test.YtiabodhgjeoejaaPkEAA14
import Derived.Test.YtiabodhgjeoejaaPkEAA15
import Derived.Shelf.SlSortCmp.WholeK
import Derived.Test.YtiabodhgjeoejaaProg
/-
  Leaves in a map, step by step: made of a row, put, dropped; and a row copied.
-/
namespace Go.Proofs.Ytiabodhgjeoejaa
open Go.RowKit Go.BigFrame Go.Sort Go.Maps
set_option linter.unusedVariables false
set_option linter.unusedSimpArgs false

theorem leafSetOf_no (v : Value) (ga oa : Nat) (L : List Le) (w : World) (hv : RS 2 lcs w v ga oa L) (hsm : SmallL L) (hd : LV.leavesB L = false) :
    Calls Try.prog 75 #[v] w fun e w' => e = .returned (.tuple #[.map none, .bool false]) ∧ Below w.heap.size w w' := by
  have HC := LeavesOk_any v ga oa L _ hv hsm
  rw [hd] at HC
  obtain ⟨a, cap, rfl⟩ := hv.shape
  clear hv
  go_enter Try.func75, Try.ntmps75
  go_wp2_with fail
  refine HC.mono ?_
  rintro e w1 ⟨rfl, hb1⟩
  go_wp2
  go_ret2
  exact ⟨rfl, hb1⟩

def SoR (w : World) (b : Nat) (L : List Le) (i : Value) (wr : World) : Prop := ∃ m : Nat, m ≤ L.length ∧ i = .int .i64 m ∧ Hid (LM w.heap.size w wr b (L.take m))

set_option maxRecDepth 100000 in
set_option maxHeartbeats 1000000 in
theorem leafSetOf_yes (v : Value) (ga oa : Nat) (L : List Le) (w : World) (hv : RS 2 lcs w v ga oa L) (hsm : SmallL L) (hd : LV.leavesB L = true) :
    Calls Try.prog 75 #[v] w fun e w' => ∃ b, e = .returned (.tuple #[.map (some b), .bool true]) ∧ LM w.heap.size w w' b L := by
  have HC := LeavesOk_any v ga oa L _ hv hsm
  rw [hd] at HC
  have HV : Hid (RS 2 lcs w v ga oa L) := hv
  obtain ⟨a, cap, rfl, hl, hA, _⟩ := hv
  obtain ⟨n, hn⟩ : ∃ n, L.length = n := ⟨_, rfl⟩
  rw [hn] at HC HV ⊢
  have HA : Hid (0 < n → a = some ⟨ga, oa, none⟩) := fun h => (hA (by omega)).1
  have HD : Hid (LV.LOk L) := LV.leavesB_iff.1 hd
  have hmm := run_makeLeaves n
  clear hA hd hsm
  go_enter Try.func75, Try.ntmps75
  go_wp2_with fail
  refine HC.mono ?_
  rintro e w1 ⟨rfl, hb1⟩
  have HST : Hid (SoR w w1.heap.size L (.int .i64 0) (w1.alloc (.map #[] 0))) := ⟨0, by omega, rfl, LM.made _ w w1 hb1 hb1.size⟩
  clear HC hb1
  go_wp2
  clear hmm
  go_loopw [15] (fun i wr => SoR w w1.heap.size L i wr) (fun i _ => n - (intOf i).toNat)
  case atStart => exact HST.out
  case round =>
    obtain ⟨m, hm, rfl, HI⟩ := hrel
    clear HST
    rw [hn] at hm
    by_cases hlt : m < n
    · have ea := HA.out (by omega)
      subst ea
      obtain ⟨c0, c1⟩ := (HV.out.later HI.out.2.2.1).leaf m (by omega)
      obtain ⟨X, hX⟩ : ∃ X, L[m]'(by omega) = X := ⟨_, rfl⟩
      rw [hX] at c0 c1
      have hxs : X.n.size ≤ 12 := (LV.leB_sizes (HD.out.2.1 X (by rw [← hX]; exact List.getElem_mem _))).1.2
      have hpt : LV.put (L.take m) X = L.take (m + 1) := by rw [← hX]; exact LV.put_take HD.out (by omega)
      have HF : Hid (LM w.heap.size w (wr.alloc (.cells #[.string X.n, .string X.v] 73)) w1.heap.size (L.take m) ∧ LV.LOk (L.take m) ∧ LV.put (L.take m) X = L.take (m + 1)) :=
        ⟨HI.out.later ((Below.refl _ _).alloc (Nat.le_refl _) _), LV.ok_take HD.out m, hpt⟩
      have i1 : (m : Int) < (n : Int) := by omega
      have i2 : (0 : Int) ≤ (m : Int) := by omega
      clear HI HA HV HD hX hpt
      go_wp2_with (at_mapUpdate; refine wp_leafStore rfl _ _ _ rfl w1.heap.size X rfl rfl rfl w.heap.size w (L.take m) HF.out.1 HF.out.2.1 (by omega) ?_; intro w2 hm2 hg2)
      have HG : Hid (LM w.heap.size w w2 w1.heap.size (L.take (m + 1))) := by rw [HF.out.2.2] at hm2; exact hm2
      clear hm2 hg2 HF c0 c1
      go_wp2
      go_roundw
      case rel => exact ⟨m + 1, by omega, by go_num, HG⟩
      case measure => simp [intOf]; omega
    · have hme : n = m := by omega
      have e1 : L.take m = L := List.take_of_length_le (by omega)
      rw [e1] at HI
      subst hme
      clear HA HV HD
      go_wp2
      go_ret2
      exact ⟨_, rfl, HI.out⟩

end Go.Proofs.Ytiabodhgjeoejaa
/-
  A leaf put into the map, and dropped from it.
-/
namespace Go.Proofs.Ytiabodhgjeoejaa
open Go.RowKit Go.BigFrame Go.Sort Go.Maps
set_option linter.unusedVariables false
set_option linter.unusedSimpArgs false

theorem wp_leafLook {w : World} {ops : Array Oper} {rest : List Oper} {o : Oper} {a : Act} {Q : Exit → Act → World → Prop} (hgd : o.guard = none) (m x : Operand) (hop : o.op = Op.lookup 100 m x true)
    (b : Nat) (y : ByteArray) (hm : a.eval m = .map (some b)) (hx : a.eval x = .string y) (B : Nat) (w0 : World) (L : List Le) (h : LM B w0 w b L) (hs : y.size ≤ 2000000)
    (hK : ∀ f : Le, wpList Try.prog ops Q rest (a.put o.dst (.tuple #[.agg #[.string f.n, .string f.v], .bool (LV.find L y).isSome])) w) : wpList Try.prog ops Q (o :: rest) a w := by
  refine wpList_plain hgd fun K' hK' => ?_
  obtain ⟨f, hrun⟩ := h.look y hs
  unfold Oper.wp
  simp [execOp, hop, hm, hx, hrun, Result.andThen]
  exact hK' _ _ (hK f)

set_option maxRecDepth 100000 in
set_option maxHeartbeats 1000000 in
theorem dropL_any (B : Nat) (w0 w : World) (b : Nat) (L : List Le) (x : ByteArray) (hS : LM B w0 w b L) (hx : x.size ≤ 1048576) :
    Calls Try.prog 76 #[.map (some b), .string x] w fun e w' => e = .returned (.bool (LV.find L x).isSome) ∧ LM B w0 w' b (if (LV.find L x).isSome then LV.wout L x else L) := by
  have hbl : ∀ (f : Le), LM B w0 (w.alloc (.cells #[.string f.n, .string f.v] 73)) b L := fun f => hS.later ((Below.refl _ _).alloc (Nat.le_refl _) _)
  have hbz : LM B w0 (w.alloc (.cells #[.string ⟨#[]⟩, .string ⟨#[]⟩] 73)) b L := hS.later ((Below.refl _ _).alloc (Nat.le_refl _) _)
  have HS : Hid (LM B w0 w b L) := hS
  cases hR : (LV.find L x).isSome
  · have HR : Hid ((LV.find L x).isSome = false) := hR
    have HB : Hid (∀ (f : Le), LM B w0 (w.alloc (.cells #[.string f.n, .string f.v] 73)) b L) := hbl
    clear hS hR hbl
    go_enter Try.func76, Try.ntmps76
    go_wp2_with (at_lookup; refine wp_leafLook rfl _ _ rfl b x rfl rfl B w0 L (by first | exact HS.out | exact hbz) (by omega) ?_; intro f0; rw [HR.out])
    go_ret
    exact ⟨rfl, HB.out f0⟩
  · have HR : Hid ((LV.find L x).isSome = true) := hR
    have HB : Hid (∀ (f : Le), LM B w0 (w.alloc (.cells #[.string f.n, .string f.v] 73)) b L) := hbl
    clear hS hR hbl
    go_enter Try.func76, Try.ntmps76
    go_wp2_with (first | (at_lookup; refine wp_leafLook rfl _ _ rfl b x rfl rfl B w0 L (by first | exact HS.out | exact hbz) (by omega) ?_; intro f0; rw [HR.out]) | (at_delete; refine wp_leafDel rfl _ _ rfl b x rfl rfl B w0 L (HB.out f0) (by omega) ?_; intro w2 hm2 hg2))
    have HM : Hid (LM B w0 w2 b (LV.wout L x)) := hm2
    clear hm2 hg2
    go_wp2
    go_ret
    exact ⟨rfl, HM.out⟩

set_option maxRecDepth 100000 in
set_option maxHeartbeats 1000000 in
theorem putL_any (B : Nat) (w0 w : World) (b : Nat) (L : List Le) (f : Le) (hS : LM B w0 w b L) (hL : LV.LOk L) (hn : f.n.size ≤ 1048576) (hv : f.v.size ≤ 1048576) :
    Calls Try.prog 78 #[.map (some b), .agg #[.string f.n, .string f.v]] w fun e w' => e = .returned (.bool (LV.putB L f)) ∧ LM B w0 w' b (LV.putR L f) := by
  have hbz : LM B w0 ((w.alloc (.cells #[.string f.n, .string f.v] 73)).alloc (.cells #[.string ⟨#[]⟩, .string ⟨#[]⟩] 73)) b L := hS.later (((Below.refl _ _).alloc (Nat.le_refl _) _).alloc (by simp) _)
  have hb1 : LM B w0 (w.alloc (.cells #[.string f.n, .string f.v] 73)) b L := hS.later ((Below.refl _ _).alloc (Nat.le_refl _) _)
  have HB : Hid (∀ (g : Le), LM B w0 ((w.alloc (.cells #[.string f.n, .string f.v] 73)).alloc (.cells #[.string g.n, .string g.v] 73)) b L) := fun g => hS.later (((Below.refl _ _).alloc (Nat.le_refl _) _).alloc (by simp) _)
  have HL : Hid (LV.LOk L) := hL
  have HOK : Hid (∀ W, Calls Try.prog 56 #[.agg #[.string f.n, .string f.v]] W fun e w' => e = .returned (.bool (LV.leB f)) ∧ Below W.heap.size W w') := fun W => leafOk_any f W hn hv
  have HPB : Hid (LV.putB L f = (LV.leB f && ((LV.find L f.n).isSome || decide (L.length < 24)))) := by unfold LV.putB; rw [LV.leavesB_iff.2 hL, Bool.true_and]; rfl
  have HPR : Hid (LV.putR L f = if LV.putB L f then LV.put L f else L) := rfl
  clear hS hL
  obtain ⟨R, hR⟩ : ∃ R, (LV.find L f.n).isSome = R := ⟨_, rfl⟩
  have HR : Hid ((LV.find L f.n).isSome = R) := hR
  go_enter Try.func78, Try.ntmps78
  go_wp2_with (at_lookup; refine wp_leafLook rfl _ _ rfl b f.n rfl rfl B w0 L (by first | exact hbz | exact hb1) (by omega) ?_; intro f0; rw [HR.out])
  refine (HOK.out _).mono ?_
  rintro e w3 ⟨rfl, hb3⟩
  have hbx : BL ((w.alloc (.cells #[.string f.n, .string f.v] 73)).alloc (.cells #[.string f0.n, .string f0.v] 73)) w.heap.size f.n f.v := alloc_snd _ _ _ rfl
  have HX : Hid (LM B w0 w3 b L ∧ BL w3 w.heap.size f.n f.v) := ⟨(HB.out f0).later hb3, hbx.later hb3⟩
  have x0 := HX.out.2.c0
  have x1 := HX.out.2.c1
  have hln := fun ty => HX.out.1.len HL.out.2.2 ty
  clear hb3 hbx HB hbz hb1 HOK HR
  have hpb := HPB.out
  rw [hR] at hpb
  cases hf : LV.leB f
  · rw [hf, Bool.false_and] at hpb
    have HQ : Hid (LV.putB L f = false ∧ LV.putR L f = L) := ⟨hpb, by rw [HPR.out, hpb]; rfl⟩
    clear HPB HPR HL hln hR hpb
    go_wp2
    go_ret
    exact ⟨by rw [HQ.out.1]; rfl, by rw [HQ.out.2]; exact HX.out.1⟩
  · rw [hf, Bool.true_and] at hpb
    cases R
    · rw [Bool.false_or] at hpb
      by_cases h24 : L.length < 24
      · rw [decide_eq_true h24] at hpb
        have HQ : Hid (LV.putB L f = true ∧ LV.putR L f = LV.put L f) := ⟨hpb, by rw [HPR.out, hpb]; rfl⟩
        have q : ¬ (24 : Int) ≤ (L.length : Int) := by omega
        clear HPB HPR hR hpb
        go_wp2_with (at_mapUpdate; refine wp_leafStore rfl _ _ _ rfl b f rfl rfl rfl B w0 L HX.out.1 HL.out (by omega) ?_; intro w4 hm4 hg4)
        have HM : Hid (LM B w0 w4 b (LV.put L f)) := hm4
        clear hm4 hg4 HX x0 x1 hln
        go_wp2
        go_ret
        exact ⟨by rw [HQ.out.1]; rfl, by rw [HQ.out.2]; exact HM.out⟩
      · rw [decide_eq_false h24] at hpb
        have HQ : Hid (LV.putB L f = false ∧ LV.putR L f = L) := ⟨hpb, by rw [HPR.out, hpb]; rfl⟩
        have q : (24 : Int) ≤ (L.length : Int) := by omega
        clear HPB HPR hR hpb
        go_wp2
        go_ret
        exact ⟨by rw [HQ.out.1]; rfl, by rw [HQ.out.2]; exact HX.out.1⟩
    · rw [Bool.true_or] at hpb
      have HQ : Hid (LV.putB L f = true ∧ LV.putR L f = LV.put L f) := ⟨hpb, by rw [HPR.out, hpb]; rfl⟩
      clear HPB HPR hR hpb
      go_wp2_with (at_mapUpdate; refine wp_leafStore rfl _ _ _ rfl b f rfl rfl rfl B w0 L HX.out.1 HL.out (by omega) ?_; intro w4 hm4 hg4)
      have HM : Hid (LM B w0 w4 b (LV.put L f)) := hm4
      clear hm4 hg4 HX x0 x1 hln
      go_wp2
      go_ret
      exact ⟨by rw [HQ.out.1]; rfl, by rw [HQ.out.2]; exact HM.out⟩

end Go.Proofs.Ytiabodhgjeoejaa
/-
  The library's own contract on slices.SortFunc, laid at this program: a table of numbers and one theorem.
-/
namespace Go.Proofs
open Go.Shelf
def Try.sortLe_ren : Go.Shelf.Ren := ⟨fun | 6 => 94 | 15 => 99 | 14 => 98 | 28 => 109 | 29 => 110 | 20 => 101 | 21 => 102 | 22 => 103 | 23 => 104 | 24 => 105 | 25 => 106 | 26 => 107 | 27 => 108 | 46 => 111 | 47 => 112 | 48 => 113 | 49 => 114 | 50 => 115 | 57 => 116 | n => n, fun | 22 => 24 | 24 => 73 | 25 => 85 | 3 => 3 | 39 => 120 | 0 => 0 | 53 => 135 | 55 => 137 | 4 => 4 | 46 => 128 | 45 => 127 | 50 => 132 | 5 => 5 | 9 => 9 | 66 => 138 | 70 => 142 | 76 => 144 | 77 => 145 | n => n, fun | n => n⟩
theorem Try.sortLe : Go.Proofs.SlLaysF0.n6 Try.prog Try.sortLe_ren := {
  mixed := by kernel_rfl
  f6 := ⟨Try.f94.name, by decide, Try.func94.trans (congrArg some (by kernel_rfl))⟩
  f14 := ⟨Try.f98.name, by decide, Try.func98.trans (congrArg some (by kernel_rfl))⟩
  f15 := Try.func99.trans (congrArg some (by kernel_rfl))
  f20 := ⟨Try.f101.name, by decide, Try.func101.trans (congrArg some (by kernel_rfl))⟩
  f21 := ⟨Try.f102.name, by decide, Try.func102.trans (congrArg some (by kernel_rfl))⟩
  f22 := ⟨Try.f103.name, by decide, Try.func103.trans (congrArg some (by kernel_rfl))⟩
  f23 := ⟨Try.f104.name, by decide, Try.func104.trans (congrArg some (by kernel_rfl))⟩
  f24 := ⟨Try.f105.name, by decide, Try.func105.trans (congrArg some (by kernel_rfl))⟩
  f25 := ⟨Try.f106.name, by decide, Try.func106.trans (congrArg some (by kernel_rfl))⟩
  f26 := ⟨Try.f107.name, by decide, Try.func107.trans (congrArg some (by kernel_rfl))⟩
  f27 := ⟨Try.f108.name, by decide, Try.func108.trans (congrArg some (by kernel_rfl))⟩
  f28 := Try.func109.trans (congrArg some (by kernel_rfl))
  f29 := Try.func110.trans (congrArg some (by kernel_rfl))
  f46 := ⟨Try.f111.name, by decide, Try.func111.trans (congrArg some (by kernel_rfl))⟩
  f47 := Try.func112.trans (congrArg some (by kernel_rfl))
  f48 := Try.func113.trans (congrArg some (by kernel_rfl))
  f49 := ⟨Try.f114.name, by decide, Try.func114.trans (congrArg some (by kernel_rfl))⟩
  f50 := ⟨Try.f115.name, by decide, Try.func115.trans (congrArg some (by kernel_rfl))⟩
  f57 := ⟨Try.f116.name, by decide, Try.func116.trans (congrArg some (by kernel_rfl))⟩
  t0 := Try.underlying0
  a0 := Try.isAgg0
  z0 := Try.sizeOf0
  v0 := Try.zeroValue0
  t3 := Try.underlying3
  a3 := Try.isAgg3
  z3 := Try.sizeOf3
  v3 := Try.zeroValue3
  t4 := Try.underlying4
  a4 := Try.isAgg4
  z4 := Try.sizeOf4
  v4 := Try.zeroValue4
  t5 := Try.underlying5
  a5 := Try.isAgg5
  z5 := Try.sizeOf5
  v5 := Try.zeroValue5
  t9 := Try.underlying9
  a9 := Try.isAgg9
  z9 := Try.sizeOf9
  v9 := Try.zeroValue9
  t22 := Try.underlying24
  a22 := Try.isAgg24
  z22 := Try.sizeOf24
  v22 := Try.zeroValue24
  t25 := Try.underlying85
  a25 := Try.isAgg85
  z25 := Try.sizeOf85
  v25 := Try.zeroValue85
  t39 := Try.underlying120
  a39 := Try.isAgg120
  z39 := Try.sizeOf120
  v39 := Try.zeroValue120
  t45 := Try.underlying127
  a45 := Try.isAgg127
  z45 := Try.sizeOf127
  v45 := Try.zeroValue127
  t46 := Try.underlying128
  a46 := Try.isAgg128
  z46 := Try.sizeOf128
  v46 := Try.zeroValue128
  t50 := Try.underlying132
  a50 := Try.isAgg132
  z50 := Try.sizeOf132
  v50 := Try.zeroValue132
  t53 := Try.underlying135
  a53 := Try.isAgg135
  z53 := Try.sizeOf135
  v53 := Try.zeroValue135
  t55 := Try.underlying137
  a55 := Try.isAgg137
  z55 := Try.sizeOf137
  v55 := Try.zeroValue137
  t66 := Try.underlying138
  a66 := Try.isAgg138
  z66 := Try.sizeOf138
  v66 := Try.zeroValue138
  t70 := Try.underlying142
  a70 := Try.isAgg142
  z70 := Try.sizeOf142
  v70 := Try.zeroValue142
  t76 := Try.underlying144
  a76 := Try.isAgg144
  z76 := Try.sizeOf144
  v76 := Try.zeroValue144
  t77 := Try.underlying145
  a77 := Try.isAgg145
  z77 := Try.sizeOf145
  v77 := Try.zeroValue145 }
end Go.Proofs
