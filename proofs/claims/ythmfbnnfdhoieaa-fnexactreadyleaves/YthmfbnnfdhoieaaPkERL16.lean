/-
  Texts laid together: Mr, Ms, So, Sr.
-/
import Derived.Test.YthmfbnnfdhoieaaPkERL15
import Derived.Shelf.SlSortCmp.WholeK
import Derived.Test.YthmfbnnfdhoieaaProg
import Derived.Test.YthmfbnnfdhoieaaPkERL8
import Derived.Test.YthmfbnnfdhoieaaPkERL7
/-
  Leaves in a map, step by step: made of a row, put, dropped; and a row copied.
-/
namespace Go.Proofs.Ythmfbnnfdhoieaa
open Go.RowKit Go.BigFrame Go.Sort Go.Maps
set_option linter.unusedVariables false
set_option linter.unusedSimpArgs false

theorem leafSetOf_no (v : Value) (ga oa : Nat) (L : List Le) (w : World) (hv : RS 2 lcs w v ga oa L) (hsm : SmallL L) (hd : LV.leavesB L = false) :
    Calls Try.prog 63 #[v] w fun e w' => e = .returned (.tuple #[.map none, .bool false]) ∧ Below w.heap.size w w' := by
  have HC := LeavesOk_any v ga oa L _ hv hsm
  rw [hd] at HC
  obtain ⟨a, cap, rfl⟩ := hv.shape
  clear hv
  go_enter Try.func63, Try.ntmps63
  go_wp2_with fail
  refine HC.mono ?_
  rintro e w1 ⟨rfl, hb1⟩
  go_wp2
  go_ret2
  exact ⟨rfl, hb1⟩

def SoR (w : World) (b : Nat) (L : List Le) (i : Value) (wr : World) : Prop := ∃ m : Nat, m ≤ L.length ∧ i = .int .i64 m ∧ Hid (LM w.heap.size w wr b (L.take m))

set_option maxRecDepth 100000 in
set_option maxHeartbeats 1000000 in
theorem leafSetOf_yes (v : Value) (ga oa : Nat) (L : List Le) (w : World) (hv : RS 2 lcs w v ga oa L) (hsm : SmallL L) (hd : LV.leavesB L = true) :
    Calls Try.prog 63 #[v] w fun e w' => ∃ b, e = .returned (.tuple #[.map (some b), .bool true]) ∧ LM w.heap.size w w' b L := by
  have HC := LeavesOk_any v ga oa L _ hv hsm
  rw [hd] at HC
  have HV : Hid (RS 2 lcs w v ga oa L) := hv
  obtain ⟨a, cap, rfl, hl, hA, _⟩ := hv
  obtain ⟨n, hn⟩ : ∃ n, L.length = n := ⟨_, rfl⟩
  rw [hn] at HC HV ⊢
  have HA : Hid (0 < n → a = some ⟨ga, oa, none⟩) := fun h => (hA (by omega)).1
  have HD : Hid (LV.LOk L) := LV.leavesB_iff.1 hd
  have hmm := run_makeLeaves n
  clear hA hd hsm
  go_enter Try.func63, Try.ntmps63
  go_wp2_with fail
  refine HC.mono ?_
  rintro e w1 ⟨rfl, hb1⟩
  have HST : Hid (SoR w w1.heap.size L (.int .i64 0) (w1.alloc (.map #[] 0))) := ⟨0, by omega, rfl, LM.made _ w w1 hb1 hb1.size⟩
  clear HC hb1
  go_wp2
  clear hmm
  go_loopw [15] (fun i wr => SoR w w1.heap.size L i wr) (fun i _ => n - (intOf i).toNat)
  case atStart => exact HST.out
  case round =>
    obtain ⟨m, hm, rfl, HI⟩ := hrel
    clear HST
    rw [hn] at hm
    by_cases hlt : m < n
    · have ea := HA.out (by omega)
      subst ea
      obtain ⟨c0, c1⟩ := (HV.out.later HI.out.2.2.1).leaf m (by omega)
      obtain ⟨X, hX⟩ : ∃ X, L[m]'(by omega) = X := ⟨_, rfl⟩
      rw [hX] at c0 c1
      have hxs : X.n.size ≤ 12 := (LV.leB_sizes (HD.out.2.1 X (by rw [← hX]; exact List.getElem_mem _))).1.2
      have hpt : LV.put (L.take m) X = L.take (m + 1) := by rw [← hX]; exact LV.put_take HD.out (by omega)
      have HF : Hid (LM w.heap.size w (wr.alloc (.cells #[.string X.n, .string X.v] 62)) w1.heap.size (L.take m) ∧ LV.LOk (L.take m) ∧ LV.put (L.take m) X = L.take (m + 1)) :=
        ⟨HI.out.later ((Below.refl _ _).alloc (Nat.le_refl _) _), LV.ok_take HD.out m, hpt⟩
      have i1 : (m : Int) < (n : Int) := by omega
      have i2 : (0 : Int) ≤ (m : Int) := by omega
      clear HI HA HV HD hX hpt
      go_wp2_with (at_mapUpdate; refine wp_leafStore rfl _ _ _ rfl w1.heap.size X rfl rfl rfl w.heap.size w (L.take m) HF.out.1 HF.out.2.1 (by omega) ?_; intro w2 hm2 hg2)
      have HG : Hid (LM w.heap.size w w2 w1.heap.size (L.take (m + 1))) := by rw [HF.out.2.2] at hm2; exact hm2
      clear hm2 hg2 HF c0 c1
      go_wp2
      go_roundw
      case rel => exact ⟨m + 1, by omega, by go_num, HG⟩
      case measure => simp [intOf]; omega
    · have hme : n = m := by omega
      have e1 : L.take m = L := List.take_of_length_le (by omega)
      rw [e1] at HI
      subst hme
      clear HA HV HD
      go_wp2
      go_ret2
      exact ⟨_, rfl, HI.out⟩

end Go.Proofs.Ythmfbnnfdhoieaa
/-
  A leaf put into the map, and dropped from it.
-/
namespace Go.Proofs.Ythmfbnnfdhoieaa
open Go.RowKit Go.BigFrame Go.Sort Go.Maps
set_option linter.unusedVariables false
set_option linter.unusedSimpArgs false

theorem wp_leafLook {w : World} {ops : Array Oper} {rest : List Oper} {o : Oper} {a : Act} {Q : Exit → Act → World → Prop} (hgd : o.guard = none) (m x : Operand) (hop : o.op = Op.lookup 109 m x true)
    (b : Nat) (y : ByteArray) (hm : a.eval m = .map (some b)) (hx : a.eval x = .string y) (B : Nat) (w0 : World) (L : List Le) (h : LM B w0 w b L) (hs : y.size ≤ 2000000)
    (hK : ∀ f : Le, wpList Try.prog ops Q rest (a.put o.dst (.tuple #[.agg #[.string f.n, .string f.v], .bool (LV.find L y).isSome])) w) : wpList Try.prog ops Q (o :: rest) a w := by
  refine wpList_plain hgd fun K' hK' => ?_
  obtain ⟨f, hrun⟩ := h.look y hs
  unfold Oper.wp
  simp [execOp, hop, hm, hx, hrun, Result.andThen]
  exact hK' _ _ (hK f)

set_option maxRecDepth 100000 in
set_option maxHeartbeats 1000000 in
theorem dropL_any (B : Nat) (w0 w : World) (b : Nat) (L : List Le) (x : ByteArray) (hS : LM B w0 w b L) (hx : x.size ≤ 1048576) :
    Calls Try.prog 64 #[.map (some b), .string x] w fun e w' => e = .returned (.bool (LV.find L x).isSome) ∧ LM B w0 w' b (if (LV.find L x).isSome then LV.wout L x else L) := by
  have hbl : ∀ (f : Le), LM B w0 (w.alloc (.cells #[.string f.n, .string f.v] 62)) b L := fun f => hS.later ((Below.refl _ _).alloc (Nat.le_refl _) _)
  have hbz : LM B w0 (w.alloc (.cells #[.string ⟨#[]⟩, .string ⟨#[]⟩] 62)) b L := hS.later ((Below.refl _ _).alloc (Nat.le_refl _) _)
  have HS : Hid (LM B w0 w b L) := hS
  cases hR : (LV.find L x).isSome
  · have HR : Hid ((LV.find L x).isSome = false) := hR
    have HB : Hid (∀ (f : Le), LM B w0 (w.alloc (.cells #[.string f.n, .string f.v] 62)) b L) := hbl
    clear hS hR hbl
    go_enter Try.func64, Try.ntmps64
    go_wp2_with (at_lookup; refine wp_leafLook rfl _ _ rfl b x rfl rfl B w0 L (by first | exact HS.out | exact hbz) (by omega) ?_; intro f0; rw [HR.out])
    go_ret
    exact ⟨rfl, HB.out f0⟩
  · have HR : Hid ((LV.find L x).isSome = true) := hR
    have HB : Hid (∀ (f : Le), LM B w0 (w.alloc (.cells #[.string f.n, .string f.v] 62)) b L) := hbl
    clear hS hR hbl
    go_enter Try.func64, Try.ntmps64
    go_wp2_with (first | (at_lookup; refine wp_leafLook rfl _ _ rfl b x rfl rfl B w0 L (by first | exact HS.out | exact hbz) (by omega) ?_; intro f0; rw [HR.out]) | (at_delete; refine wp_leafDel rfl _ _ rfl b x rfl rfl B w0 L (HB.out f0) (by omega) ?_; intro w2 hm2 hg2))
    have HM : Hid (LM B w0 w2 b (LV.wout L x)) := hm2
    clear hm2 hg2
    go_wp2
    go_ret
    exact ⟨rfl, HM.out⟩

set_option maxRecDepth 100000 in
set_option maxHeartbeats 1000000 in
theorem putL_any (B : Nat) (w0 w : World) (b : Nat) (L : List Le) (f : Le) (hS : LM B w0 w b L) (hL : LV.LOk L) (hn : f.n.size ≤ 1048576) (hv : f.v.size ≤ 1048576) :
    Calls Try.prog 66 #[.map (some b), .agg #[.string f.n, .string f.v]] w fun e w' => e = .returned (.bool (LV.putB L f)) ∧ LM B w0 w' b (LV.putR L f) := by
  have hbz : LM B w0 ((w.alloc (.cells #[.string f.n, .string f.v] 62)).alloc (.cells #[.string ⟨#[]⟩, .string ⟨#[]⟩] 62)) b L := hS.later (((Below.refl _ _).alloc (Nat.le_refl _) _).alloc (by simp) _)
  have hb1 : LM B w0 (w.alloc (.cells #[.string f.n, .string f.v] 62)) b L := hS.later ((Below.refl _ _).alloc (Nat.le_refl _) _)
  have HB : Hid (∀ (g : Le), LM B w0 ((w.alloc (.cells #[.string f.n, .string f.v] 62)).alloc (.cells #[.string g.n, .string g.v] 62)) b L) := fun g => hS.later (((Below.refl _ _).alloc (Nat.le_refl _) _).alloc (by simp) _)
  have HL : Hid (LV.LOk L) := hL
  have HOK : Hid (∀ W, Calls Try.prog 73 #[.agg #[.string f.n, .string f.v]] W fun e w' => e = .returned (.bool (LV.leB f)) ∧ Below W.heap.size W w') := fun W => leafOk_any f W hn hv
  have HPB : Hid (LV.putB L f = (LV.leB f && ((LV.find L f.n).isSome || decide (L.length < 24)))) := by unfold LV.putB; rw [LV.leavesB_iff.2 hL, Bool.true_and]; rfl
  have HPR : Hid (LV.putR L f = if LV.putB L f then LV.put L f else L) := rfl
  clear hS hL
  obtain ⟨R, hR⟩ : ∃ R, (LV.find L f.n).isSome = R := ⟨_, rfl⟩
  have HR : Hid ((LV.find L f.n).isSome = R) := hR
  go_enter Try.func66, Try.ntmps66
  go_wp2_with (at_lookup; refine wp_leafLook rfl _ _ rfl b f.n rfl rfl B w0 L (by first | exact hbz | exact hb1) (by omega) ?_; intro f0; rw [HR.out])
  refine (HOK.out _).mono ?_
  rintro e w3 ⟨rfl, hb3⟩
  have hbx : BL ((w.alloc (.cells #[.string f.n, .string f.v] 62)).alloc (.cells #[.string f0.n, .string f0.v] 62)) w.heap.size f.n f.v := alloc_snd _ _ _ rfl
  have HX : Hid (LM B w0 w3 b L ∧ BL w3 w.heap.size f.n f.v) := ⟨(HB.out f0).later hb3, hbx.later hb3⟩
  have x0 := HX.out.2.c0
  have x1 := HX.out.2.c1
  have hln := fun ty => HX.out.1.len HL.out.2.2 ty
  clear hb3 hbx HB hbz hb1 HOK HR
  have hpb := HPB.out
  rw [hR] at hpb
  cases hf : LV.leB f
  · rw [hf, Bool.false_and] at hpb
    have HQ : Hid (LV.putB L f = false ∧ LV.putR L f = L) := ⟨hpb, by rw [HPR.out, hpb]; rfl⟩
    clear HPB HPR HL hln hR hpb
    go_wp2
    go_ret
    exact ⟨by rw [HQ.out.1]; rfl, by rw [HQ.out.2]; exact HX.out.1⟩
  · rw [hf, Bool.true_and] at hpb
    cases R
    · rw [Bool.false_or] at hpb
      by_cases h24 : L.length < 24
      · rw [decide_eq_true h24] at hpb
        have HQ : Hid (LV.putB L f = true ∧ LV.putR L f = LV.put L f) := ⟨hpb, by rw [HPR.out, hpb]; rfl⟩
        have q : ¬ (24 : Int) ≤ (L.length : Int) := by omega
        clear HPB HPR hR hpb
        go_wp2_with (at_mapUpdate; refine wp_leafStore rfl _ _ _ rfl b f rfl rfl rfl B w0 L HX.out.1 HL.out (by omega) ?_; intro w4 hm4 hg4)
        have HM : Hid (LM B w0 w4 b (LV.put L f)) := hm4
        clear hm4 hg4 HX x0 x1 hln
        go_wp2
        go_ret
        exact ⟨by rw [HQ.out.1]; rfl, by rw [HQ.out.2]; exact HM.out⟩
      · rw [decide_eq_false h24] at hpb
        have HQ : Hid (LV.putB L f = false ∧ LV.putR L f = L) := ⟨hpb, by rw [HPR.out, hpb]; rfl⟩
        have q : (24 : Int) ≤ (L.length : Int) := by omega
        clear HPB HPR hR hpb
        go_wp2
        go_ret
        exact ⟨by rw [HQ.out.1]; rfl, by rw [HQ.out.2]; exact HX.out.1⟩
    · rw [Bool.true_or] at hpb
      have HQ : Hid (LV.putB L f = true ∧ LV.putR L f = LV.put L f) := ⟨hpb, by rw [HPR.out, hpb]; rfl⟩
      clear HPB HPR hR hpb
      go_wp2_with (at_mapUpdate; refine wp_leafStore rfl _ _ _ rfl b f rfl rfl rfl B w0 L HX.out.1 HL.out (by omega) ?_; intro w4 hm4 hg4)
      have HM : Hid (LM B w0 w4 b (LV.put L f)) := hm4
      clear hm4 hg4 HX x0 x1 hln
      go_wp2
      go_ret
      exact ⟨by rw [HQ.out.1]; rfl, by rw [HQ.out.2]; exact HM.out⟩

end Go.Proofs.Ythmfbnnfdhoieaa
/-
  The library's own contract on slices.SortFunc, laid at this program: a table of numbers and one theorem.
-/
namespace Go.Proofs
open Go.Shelf
def Try.sortLe_ren : Go.Shelf.Ren := ⟨fun | 6 => 71 | 15 => 76 | 14 => 75 | 28 => 88 | 29 => 89 | 20 => 80 | 21 => 81 | 22 => 82 | 23 => 83 | 24 => 84 | 25 => 85 | 26 => 86 | 27 => 87 | 46 => 92 | 47 => 93 | 48 => 94 | 49 => 95 | 50 => 96 | 57 => 98 | n => n, fun | 22 => 33 | 24 => 62 | 25 => 117 | 3 => 3 | 39 => 122 | 0 => 0 | 53 => 133 | 55 => 135 | 4 => 4 | 46 => 126 | 45 => 125 | 50 => 130 | 5 => 5 | 9 => 9 | 66 => 137 | 70 => 141 | 76 => 143 | 77 => 144 | n => n, fun | n => n⟩
theorem Try.sortLe : Go.Proofs.SlLaysF0.n6 Try.prog Try.sortLe_ren := {
  mixed := by kernel_rfl
  f6 := ⟨Try.f71.name, by decide, Try.func71.trans (congrArg some (by kernel_rfl))⟩
  f14 := ⟨Try.f75.name, by decide, Try.func75.trans (congrArg some (by kernel_rfl))⟩
  f15 := Try.func76.trans (congrArg some (by kernel_rfl))
  f20 := ⟨Try.f80.name, by decide, Try.func80.trans (congrArg some (by kernel_rfl))⟩
  f21 := ⟨Try.f81.name, by decide, Try.func81.trans (congrArg some (by kernel_rfl))⟩
  f22 := ⟨Try.f82.name, by decide, Try.func82.trans (congrArg some (by kernel_rfl))⟩
  f23 := ⟨Try.f83.name, by decide, Try.func83.trans (congrArg some (by kernel_rfl))⟩
  f24 := ⟨Try.f84.name, by decide, Try.func84.trans (congrArg some (by kernel_rfl))⟩
  f25 := ⟨Try.f85.name, by decide, Try.func85.trans (congrArg some (by kernel_rfl))⟩
  f26 := ⟨Try.f86.name, by decide, Try.func86.trans (congrArg some (by kernel_rfl))⟩
  f27 := ⟨Try.f87.name, by decide, Try.func87.trans (congrArg some (by kernel_rfl))⟩
  f28 := Try.func88.trans (congrArg some (by kernel_rfl))
  f29 := Try.func89.trans (congrArg some (by kernel_rfl))
  f46 := ⟨Try.f92.name, by decide, Try.func92.trans (congrArg some (by kernel_rfl))⟩
  f47 := Try.func93.trans (congrArg some (by kernel_rfl))
  f48 := Try.func94.trans (congrArg some (by kernel_rfl))
  f49 := ⟨Try.f95.name, by decide, Try.func95.trans (congrArg some (by kernel_rfl))⟩
  f50 := ⟨Try.f96.name, by decide, Try.func96.trans (congrArg some (by kernel_rfl))⟩
  f57 := ⟨Try.f98.name, by decide, Try.func98.trans (congrArg some (by kernel_rfl))⟩
  t0 := Try.underlying0
  a0 := Try.isAgg0
  z0 := Try.sizeOf0
  v0 := Try.zeroValue0
  t3 := Try.underlying3
  a3 := Try.isAgg3
  z3 := Try.sizeOf3
  v3 := Try.zeroValue3
  t4 := Try.underlying4
  a4 := Try.isAgg4
  z4 := Try.sizeOf4
  v4 := Try.zeroValue4
  t5 := Try.underlying5
  a5 := Try.isAgg5
  z5 := Try.sizeOf5
  v5 := Try.zeroValue5
  t9 := Try.underlying9
  a9 := Try.isAgg9
  z9 := Try.sizeOf9
  v9 := Try.zeroValue9
  t22 := Try.underlying33
  a22 := Try.isAgg33
  z22 := Try.sizeOf33
  v22 := Try.zeroValue33
  t25 := Try.underlying117
  a25 := Try.isAgg117
  z25 := Try.sizeOf117
  v25 := Try.zeroValue117
  t39 := Try.underlying122
  a39 := Try.isAgg122
  z39 := Try.sizeOf122
  v39 := Try.zeroValue122
  t45 := Try.underlying125
  a45 := Try.isAgg125
  z45 := Try.sizeOf125
  v45 := Try.zeroValue125
  t46 := Try.underlying126
  a46 := Try.isAgg126
  z46 := Try.sizeOf126
  v46 := Try.zeroValue126
  t50 := Try.underlying130
  a50 := Try.isAgg130
  z50 := Try.sizeOf130
  v50 := Try.zeroValue130
  t53 := Try.underlying133
  a53 := Try.isAgg133
  z53 := Try.sizeOf133
  v53 := Try.zeroValue133
  t55 := Try.underlying135
  a55 := Try.isAgg135
  z55 := Try.sizeOf135
  v55 := Try.zeroValue135
  t66 := Try.underlying137
  a66 := Try.isAgg137
  z66 := Try.sizeOf137
  v66 := Try.zeroValue137
  t70 := Try.underlying141
  a70 := Try.isAgg141
  z70 := Try.sizeOf141
  v70 := Try.zeroValue141
  t76 := Try.underlying143
  a76 := Try.isAgg143
  z76 := Try.sizeOf143
  v76 := Try.zeroValue143
  t77 := Try.underlying144
  a77 := Try.isAgg144
  z77 := Try.sizeOf144
  v77 := Try.zeroValue144 }
end Go.Proofs
/-
  Leaves sorted by their names: the library's own contract on slices.SortFunc at this program's leaves.
-/
namespace Go.Proofs.Ythmfbnnfdhoieaa
open Go.RowKit Go.Shelf Go.Lib
open Go.Sort (SWO PermIn SortedIn HoldsK flatK get_flatK grow holdsK_grow holdsK_putRowK holdsK_ahead)
set_option linter.unusedVariables false
set_option linter.unusedSimpArgs false

/-- a leaf as a pair, for the library's words -/
def pr (f : Le) : ByteArray × ByteArray := (f.n, f.v)
def lf (p : ByteArray × ByteArray) : Le := ⟨p.1, p.2⟩
def pcs (p : ByteArray × ByteArray) : List Value := [.string p.1, .string p.2]
def pcf (p q : ByteArray × ByteArray) : Int := LV.cmpN p.1 q.1
theorem ltOf_pcf (p q : ByteArray × ByteArray) : ltOf pcf p q = F.ltN p.1 q.1 := by
  unfold ltOf pcf
  rw [Bool.eq_iff_iff, decide_eq_true_eq]
  exact LV.cmpN_lt _ _
theorem swo_pcf : SWO (ltOf pcf) := {
  irrefl := fun x => by rw [ltOf_pcf]; exact F.ltN_irrefl _
  trans := fun x y z h1 h2 => by rw [ltOf_pcf] at *; exact F.ltN_trans h1 h2
  ntrans := fun x y z h1 h2 => by
    rw [ltOf_pcf] at *
    cases h : F.ltN x.1 z.1
    · rfl
    · rcases F.ltN_tri x.1 y.1 with h3 | h3 | h3
      · rw [h3] at h1; cases h1
      · rw [h3, h2] at h; cases h
      · rw [F.ltN_trans h3 h] at h2; cases h2 }

theorem cmpLays_any (blk off size : Nat) (w : World) : CmpLays Try.prog 72 #[] pcs 2 pcf blk off size w :=
  fun _ _ _ _ x y => compareNames_grow (lf x) (lf y) _

theorem holds_of {w : World} {v : Value} {g : Nat} {l : List Le} (h : RW 2 lcs w v g l) : HoldsK pcs 2 w g 0 (l.map pr).toArray := by
  intro t ht
  have ht' : t < l.length * 2 := by simpa using ht
  have hq : t / 2 < l.length := by omega
  have e : (flatK pcs 2 (l.map pr).toArray)[t]! = (lcs l[t / 2])[t % 2]! := by
    rw [get_flatK _ _ _ t (by simpa using ht')]
    have : (l.map pr).toArray[t / 2]! = pr l[t / 2] := by simp [hq]
    rw [this]
    rfl
  obtain ⟨⟨a, c, _, _, _, hc⟩, hth⟩ := h
  have hm : t % 2 < 2 := Nat.mod_lt _ (by omega)
  have et : t = t / 2 * 2 + t % 2 := by omega
  rw [e]
  refine ⟨?_, ?_⟩
  · have := hc (t / 2) hq (t % 2) _ (List.getElem?_eq_getElem (by rw [lcs_len]; exact hm))
    rw [Nat.zero_add] at this ⊢
    rw [← et] at this
    rw [this, getElem!_pos (lcs l[t / 2]) (t % 2) (by rw [lcs_len]; exact hm)]
    rfl
  · have := (hth (t / 2) hq (t % 2) hm).2
    rw [← et] at this
    rw [Nat.zero_add]
    exact this

theorem row_of_holds {w : World} {g n cap : Nat} {d : Array (ByteArray × ByteArray)} (h : HoldsK pcs 2 w g 0 d) (hn : d.size = n) (hl : n ≤ 1100000) (hg : g < w.heap.size) : RW 2 lcs w (.slice (some ⟨g, 0, none⟩) n cap) g (d.toList.map lf) := by
  subst hn
  have key : ∀ j i, j < d.size → i < 2 → w.cell? ⟨g, j * 2 + i, none⟩ = some ((lcs (lf d[j]!))[i]!) ∧ w.frozen? ⟨g, j * 2 + i, none⟩ = false := by
    intro j i hj hi
    have h1 := h (j * 2 + i) (by simp; omega)
    rw [get_flatK _ _ _ _ (by omega), show (j * 2 + i) / 2 = j by omega, show (j * 2 + i) % 2 = i by omega, Nat.zero_add] at h1
    exact h1
  refine ⟨⟨some ⟨g, 0, none⟩, cap, by simp, by simpa using hl, fun _ => ⟨rfl, hg⟩, fun j hj i u hu => ?_⟩, fun j hj i hi => ?_⟩
  · have hj' : j < d.size := by simpa using hj
    have hi : i < 2 := by have := (List.getElem?_eq_some_iff.1 hu).1; rw [lcs_len] at this; exact this
    have hk := (key j i hj' hi).1
    rw [Nat.zero_add, hk]
    have e : (d.toList.map lf)[j]'hj = lf d[j]! := by simp [hj']
    rw [e, List.getElem?_eq_getElem (by rw [lcs_len]; exact hi)] at hu
    rw [← hu, getElem!_pos (lcs (lf d[j]!)) i (by rw [lcs_len]; exact hi)]
  · have hj' : j < d.size := by simpa using hj
    have hk := key j i hj' hi
    exact ⟨by rw [hk.1]; rfl, hk.2⟩

theorem grown_sort (w : World) (g n : Nat) (d : Array (ByteArray × ByteArray)) (os : Array Obj) : w.grownBy (sortWorldK pcs 2 w g 0 n d os) (some g) := by
  refine ⟨rfl, rfl, rfl, ?_, fun i hi hne => ?_⟩
  · simp [sortWorldK, grow, Go.Sort.putRowK, Go.Sort.putRow, Go.Sort.mapBlock, Go.Sort.ahead]
  · have hne' : g ≠ i := fun e => hne (by rw [e])
    simp [sortWorldK, grow, Go.Sort.putRowK, Go.Sort.putRow, Go.Sort.mapBlock, Go.Sort.ahead, Array.getElem?_append, hi, Array.getElem_modify, hne']

/-- what is sorted, told by its names -/
theorem sorted_is {l L : List Le} {d' : Array (ByteArray × ByteArray)} (hL : LV.Srt L) (hm : ∀ f, f ∈ l ↔ f ∈ L) (hnd : l.Pairwise (fun a b => a.n ≠ b.n)) (hp : PermIn 0 (l.map pr).toArray.size (l.map pr).toArray d') (hs : SortedIn (ltOf pcf) 0 (l.map pr).toArray.size d') : d'.toList.map lf = L := by
  obtain ⟨hsz, _, hperm⟩ := hp
  have hsz' : d'.size = l.length := by simpa using hsz
  have hperm' : d'.toList.Perm (l.map pr) := by
    have e1 : d'.extract 0 (l.map pr).toArray.size = d' := by rw [← hsz]; exact Array.extract_size
    have e2 : (l.map pr).toArray.extract 0 (l.map pr).toArray.size = (l.map pr).toArray := Array.extract_size
    rw [e1, e2] at hperm
    simpa using hperm
  have hpl : (d'.toList.map lf).Perm l := by
    have := hperm'.map lf
    have e : (l.map pr).map lf = l := by
      rw [List.map_map]
      exact List.map_id'' (fun f => rfl) l
    rw [e] at this
    exact this
  have hnd' : (d'.toList.map lf).Pairwise (fun a b => a.n ≠ b.n) := hpl.symm.pairwise hnd (fun {a b} h => Ne.symm h)
  refine LV.srt_ext ?_ hL (fun f => by rw [hpl.mem_iff]; exact hm f)
  unfold LV.Srt
  rw [List.pairwise_iff_getElem] at hnd' ⊢
  intro i j hi hj hij
  have hi' : i < d'.size := by simpa using hi
  have hj' : j < d'.size := by simpa using hj
  have h1 := hs i j (Nat.zero_le _) hij (by simp; omega)
  rw [ltOf_pcf] at h1
  have h2 := hnd' i j hi hj hij
  have ei : (d'.toList.map lf)[i] = lf d'[i]! := by simp [hi']
  have ej : (d'.toList.map lf)[j] = lf d'[j]! := by simp [hj']
  rw [ei, ej] at h2 ⊢
  rcases F.ltN_tri (lf d'[i]!).n (lf d'[j]!).n with h3 | h3 | h3
  · exact h3
  · exact absurd h3 h2
  · have h4 : F.ltN (d'[j]!).1 (d'[i]!).1 = true := h3
    rw [h1] at h4
    cases h4

theorem sort_any (g cap : Nat) (l L : List Le) (w : World) (h : RW 2 lcs w (.slice (some ⟨g, 0, none⟩) l.length cap) g l) (hg : g < w.heap.size) (hL : LV.Srt L) (hm : ∀ f, f ∈ l ↔ f ∈ L) (hnd : l.Pairwise (fun a b => a.n ≠ b.n)) (hl : l.length ≤ 100000) :
    Calls Try.prog 71 #[.slice (some ⟨g, 0, none⟩) l.length cap, .func (.func 72) #[] #[]] w fun e w' => e = .returned (.tuple #[]) ∧ l.length = L.length ∧ RW 2 lcs w' (.slice (some ⟨g, 0, none⟩) L.length cap) g L ∧ w.grownBy w' (some g) := by
  have eg : ∀ args w, (callFunc 72 args).run Try.prog w = .ok (.enter 72 args) w := enters_of Try.func72 (by kernel_rfl) rfl
  have hH := holds_of h
  have hcon := AnyQ.slices_SortFunc Try.sortLe 2 Try.isAgg62 Try.sizeOf62 pcs (fun _ => rfl) (fun x v hv => by simp [pcs] at hv; rcases hv with rfl | rfl <;> rfl) pcf swo_pcf 72 #[] g 0 cap (l.map pr).toArray w eg (cmpLays_any g 0 (l.map pr).toArray.size w) hH hg (by simp; omega)
  change Calls Try.prog 71 _ _ _ at hcon
  have e1 : (l.map pr).toArray.size = l.length := by simp
  rw [e1] at hcon
  refine hcon.mono ?_
  rintro e w' ⟨rfl, d', n, os, hp, hs, rfl⟩
  have hd : d'.toList.map lf = L := sorted_is hL hm hnd (by rw [e1]; exact hp) (by rw [e1]; exact hs)
  have hlen : l.length = L.length := by
    have h1 : (d'.toList.map lf).length = L.length := by rw [hd]
    rw [List.length_map, Array.length_toList, hp.1, e1] at h1
    exact h1
  have hh : HoldsK pcs 2 (sortWorldK pcs 2 w g 0 n d' os) g 0 d' := holdsK_grow pcs 2 _ _ _ _ _ (by simpa [Go.Sort.putRowK] using hg) (holdsK_putRowK pcs 2 _ _ _ _ _ (holdsK_ahead pcs 2 _ n _ _ _ hH) (by rw [hp.1]))
  have hgs := (grown_sort w g n d' os).size
  have hr := row_of_holds (cap := cap) hh (show d'.size = L.length by rw [hp.1, e1, hlen]) (by omega) (by omega)
  rw [hd] at hr
  exact ⟨rfl, hlen, hr, grown_sort w g n d' os⟩

end Go.Proofs.Ythmfbnnfdhoieaa
