/-
  Texts laid together: Hg, Lkt, Pool.
-/
import Derived.Test.YtaejeemjndmjcaaDoorPkS16
import Derived.Test.YtaejeemjndmjcaaDoorPkS10
import Derived.Test.YtaejeemjndmjcaaDoorPkS12
import Derived.Test.YtaejeemjndmjcaaDoorPkS3
import Derived.StillTailTactics
import Derived.Test.YtaejeemjndmjcaaDoorPkS11
import Derived.Deep.RegionHeld3
/-
  The hash of a head: the program's and the specification's answers.
-/
namespace Go.Proofs.YtaejeemjndmjcaaDoor
open Go.RowKit Go.BigFrame Go.Sort
set_option linter.unusedVariables false
set_option linter.unusedSimpArgs false

/-- the hash of a head, when it is right -/
def HV.hashH (x : Hd) : ByteArray := if HV.okH x = true then hashB 4 [HV.txtH x] 16 else ⟨#[]⟩

set_option maxRecDepth 100000 in
set_option maxHeartbeats 1000000 in
theorem HeadHash_any (x : Hd) (w : World) (hT : Tb w) : Calls Tryd.prog 72 #[.agg #[.int .i64 x.h, .int .i64 x.e, .string x.r, .string x.p]] w fun e w' => e = .returned (.string (HV.hashH x)) ∧ Below w.heap.size w w' := by
  have HC : Hid (∀ W, Calls Tryd.prog 31 #[.agg #[.int .i64 x.h, .int .i64 x.e, .string x.r, .string x.p]] W fun e w' => e = .returned (.tuple #[.string (HV.textH x), .bool (HV.okH x)]) ∧ Below W.heap.size W w') := fun W => HeadText_any x W
  have HTB : Hid (Tb w) := hT
  unfold HV.hashH
  unfold HV.textH at HC
  clear hT
  generalize HV.txtH x = t at *
  generalize HV.okH x = b at *
  obtain ⟨h, e, r, p⟩ := x
  have HB : Hid (Below w.heap.size w (w.alloc (.cells #[.int .i64 h, .int .i64 e, .string r, .string p] 25))) := (Below.refl _ _).alloc (Nat.le_refl _) _
  cases b
  · rw [if_neg (by simp)] at HC ⊢
    go_enter Tryd.func72, Tryd.ntmps72
    go_wp2_with fail
    refine (HC.out _).mono ?_
    rintro e1 w1 ⟨rfl, hb1⟩
    have HB1 : Hid (Below w.heap.size w w1) := HB.out.trans (hb1.mono HB.out.size)
    clear HC hb1 HB HTB
    go_wp2
    go_ret
    exact ⟨rfl, HB1.out⟩
  · rw [if_pos rfl] at HC ⊢
    go_enter Tryd.func72, Tryd.ntmps72
    go_wp2_with fail
    refine (HC.out _).mono ?_
    rintro e1 w1 ⟨rfl, hb1⟩
    have HB1 : Hid (Below w.heap.size w w1) := HB.out.trans (hb1.mono HB.out.size)
    have CT := taggedHash_w 16 4 [t] 1 #[.string t] w1 w1.heap.size rfl rfl (by omega) rfl (HTB.out.later HB1.out)
    clear HC hb1 HB HTB
    go_wp2_with fail
    refine CT.out.mono ?_
    rintro e2 w2 ⟨rfl, hb2⟩
    have HB2 : Hid (Below w.heap.size w w2) := HB1.out.trans (hb2.mono HB1.out.size)
    clear CT
    go_wp2
    go_ret
    exact ⟨rfl, HB2.out⟩

set_option maxRecDepth 100000 in
set_option maxHeartbeats 1000000 in
theorem sHeadHash_any (x : Hd) (w : World) : Calls Tryd.prog 11 #[.agg #[.int .i64 x.h, .int .i64 x.e, .string x.r, .string x.p]] w fun e w' => e = .returned (.string (HV.hashH x)) ∧ Below w.heap.size w w' := by
  have HC : Hid (∀ W, Calls Tryd.prog 37 #[.agg #[.int .i64 x.h, .int .i64 x.e, .string x.r, .string x.p]] W fun e w' => e = .returned (.tuple #[.string (HV.textH x), .bool (HV.okH x)]) ∧ Below W.heap.size W w') := fun W => sHeadText_any x W
  unfold HV.hashH
  unfold HV.textH at HC
  generalize HV.txtH x = t at *
  generalize HV.okH x = b at *
  obtain ⟨h, e, r, p⟩ := x
  have HB : Hid (Below w.heap.size w (w.alloc (.cells #[.int .i64 h, .int .i64 e, .string r, .string p] 25))) := (Below.refl _ _).alloc (Nat.le_refl _) _
  cases b
  · rw [if_neg (by simp)] at HC ⊢
    go_enter Tryd.func11, Tryd.ntmps11
    go_wp2_with fail
    refine (HC.out _).mono ?_
    rintro e1 w1 ⟨rfl, hb1⟩
    have HB1 : Hid (Below w.heap.size w w1) := HB.out.trans (hb1.mono HB.out.size)
    clear HC hb1 HB
    go_wp2
    go_ret
    exact ⟨rfl, HB1.out⟩
  · rw [if_pos rfl] at HC ⊢
    go_enter Tryd.func11, Tryd.ntmps11
    go_wp2_with fail
    refine (HC.out _).mono ?_
    rintro e1 w1 ⟨rfl, hb1⟩
    have HB1 : Hid (Below w.heap.size w w1) := HB.out.trans (hb1.mono HB.out.size)
    have CT := sTagHash_w 16 4 [t] 1 #[.string t] w1 w1.heap.size rfl rfl (by omega) rfl
    clear HC hb1 HB
    go_wp2_with fail
    refine CT.out.mono ?_
    rintro e2 w2 ⟨rfl, hb2⟩
    have HB2 : Hid (Below w.heap.size w w2) := HB1.out.trans (hb2.mono HB1.out.size)
    clear CT
    go_wp2
    go_ret
    exact ⟨rfl, HB2.out⟩

end Go.Proofs.YtaejeemjndmjcaaDoor
/-
  What lockTexts answers: the texts of the opened secrets, and all locks.
-/
namespace Go.Proofs.YtaejeemjndmjcaaDoor
open Go.RowKit Go.BigFrame
set_option linter.unusedVariables false

/-- 'make([]string, 0, n)' -/
theorem run_mkT (n : Nat) (h : n ≤ 1000000000) (W : World) : ∃ M : Array Value, (Instr.makeSlice 26 (.int .i64 0) (.int .i64 (n : Int))).run Tryd.prog W = .ok (.slice (some ⟨W.heap.size, 0, none⟩) 0 n) (W.alloc (.cells M 9)) ∧ OS W.heap.size W (W.alloc (.cells M 9)) (.slice (some ⟨W.heap.size, 0, none⟩) 0 n) [] := by
  obtain ⟨i0, hi, hz0, hz1, hz2⟩ := info_parts Tryd.info9
  have h1 := run_make (P := Tryd.prog) W 26 9 i0 (.string ByteArray.empty) Tryd.underlying26 hi hz0 .i64 .i64 0 (n : Int) (by omega) (by omega) (by rw [hz2]; omega) (by omega)
  refine ⟨madeCells (Value.string ByteArray.empty).cells (((n : Nat) : Int).toNat * i0.size), by simpa using h1, ?_⟩
  refine ⟨World.ownsRow_made W _ n (Nat.le_refl _) (by unfold maxLen; omega) ?_, (Below.refl _ _).alloc (Nat.le_refl _) _, by simp⟩
  rw [size_madeCells, hz1]
  simp

/-- an array of texts is no row that a call appends to -/
theorem TA.keptO {w w' : World} {g t B : Nat} {w0 : World} {v : Value} {l r : List ByteArray} (h : TA w g t l) (ht : t ≠ 9) (ho : OS B w0 w v r) (hg : w.grownBy w' v.ownBlock) : TA w' g t l := by
  have hlt : g < w.heap.size := h.lt
  refine h.keep (hg.block g hlt ?_)
  intro he
  rcases ho.1.2 with ⟨rfl, _⟩ | ⟨g', cap, cur, rfl, _, hg', _⟩
  · simp [Value.ownBlock] at he
  · simp [Value.ownBlock] at he
    subst he
    unfold TA at h
    rw [h] at hg'
    simp at hg'
    exact ht hg'.2
theorem SgM.keptO {w w' : World} {g B : Nat} {w0 : World} {v : Value} {x : Int} {v1 v2 v3 : Value} {r : List ByteArray} (h : SgM w g x v1 v2 v3) (ho : OS B w0 w v r) (hg : w.grownBy w' v.ownBlock) : SgM w' g x v1 v2 v3 := by
  refine h.keep (hg.block g h.lt ?_)
  intro he
  rcases ho.1.2 with ⟨rfl, _⟩ | ⟨g', cap, cur, rfl, _, hg', _⟩
  · simp [Value.ownBlock] at he
  · simp [Value.ownBlock] at he
    subst he
    unfold SgM at h
    rw [h] at hg'
    simp at hg'

theorem os_ne {B g t : Nat} {w0 w : World} {v : Value} {l r : List ByteArray} (ho : OS B w0 w v r) (h : TA w g t l) (ht : t ≠ 9) : v.ownBlock = none ∨ v.ownBlock ≠ some g := by
  refine .inr (fun he => ?_)
  rcases ho.1.2 with ⟨rfl, _⟩ | ⟨g', cap, cur, rfl, _, hg', _⟩
  · simp [Value.ownBlock] at he
  · simp [Value.ownBlock] at he
    subst he
    unfold TA at h
    rw [h] at hg'
    simp at hg'
    exact ht hg'.2

/-- one text appended, and that nothing else turned -/
theorem wp_appSG {w : World} {ops : Array Oper} {rest : List Oper} {o : Oper} {a : Act} {Q : Exit → Act → World → Prop} (hgd : o.guard = none) (s x : Operand)
    (ho : o.op = .call { callee := .builtin .append, args := #[s, x], argTypes := #[26, 26] })
    (B : Nat) (w0 : World) (v : Value) (l : List ByteArray) (hs : a.eval s = v) (hown : OS B w0 w v l)
    (ad : Addr) (t : ByteArray) (hx : a.eval x = .slice (some ad) 1 1) (hnews : w.cell? ad = some (.string t)) (hlen : l.length ≤ 1000000)
    (h : ∀ v' w', OS B w0 w' v' (l ++ [t]) → w.grownBy w' v.ownBlock → wpList Tryd.prog ops Q rest (a.put o.dst v') w') : wpList Tryd.prog ops Q (o :: rest) a w := by
  obtain ⟨i0, hi, hz0, hz1, hz2⟩ := info_parts Tryd.info9
  refine wpList_append_own _ hgd s x 26 ho B 9 i0 (.string ByteArray.empty) 1 16 Tryd.underlying26 hi hz0 hz1 hz2 rfl (by decide) v l.length (svs l) hs hown.1 ad 1 1 [.string t] hx rfl ?_
    (fun u hu => by simp at hu; subst hu; rfl) (by unfold maxLen; omega) (by omega) hown.2.2 ?_
  · intro j u hj
    match j, hj with
    | 0, hj =>
      simp at hj
      subst hj
      have : ad.add 0 = ad := by unfold Addr.add; split <;> simp_all
      rw [this]
      exact hnews
  · intro v' w' h1 h2 _
    exact h v' w' ⟨by simpa [svs] using h1, hown.2.1.grown h2 hown.2.2 (fun k hk => (hown.1.lt k hk).1), Nat.le_trans hown.2.2 h2.size⟩ h2

/-- the locks so far, and nothing behind -/
def lkR (b : Nat) (o s : List ByteArray) (m : Nat) : List ByteArray := lkN b o s m ++ List.replicate (16 - 2 * m) ByteArray.empty
theorem lkR_len (b : Nat) (o s : List ByteArray) (m : Nat) (h : m ≤ 8) : (lkR b o s m).length = 16 := by
  unfold lkR
  rw [List.length_append, lkN_len, List.length_replicate]
  omega
theorem lkR_all (b : Nat) (o s : List ByteArray) : lkR b o s 8 = lkN b o s 8 := by simp [lkR]
theorem lkR_step (b : Nat) (o s : List ByteArray) (m : Nat) (h : m < 8) : ((lkR b o s m).set (2 * m + bitN b m) (lockB (gB o m))).set (2 * m + 1 - bitN b m) (gB s m) = lkR b o s (m + 1) := by
  unfold lkR
  rw [lkN_step]
  have e : 16 - 2 * m = (16 - 2 * (m + 1)) + 1 + 1 := by omega
  rw [e, List.replicate_succ, List.replicate_succ]
  have hl := lkN_len b o s m
  have hb := bitN_lt b m
  have h0 : bitN b m = 0 ∨ bitN b m = 1 := by omega
  rcases h0 with h0 | h0
  · rw [h0, List.set_append_right _ _ (by omega), hl, show 2 * m + 0 - 2 * m = 0 by omega, List.set_cons_zero, List.set_append_right _ _ (by omega), hl, show 2 * m + 1 - 0 - 2 * m = 1 by omega]
    unfold lk2
    rw [h0]
    simp
  · rw [h0, List.set_append_right _ _ (by omega), hl, show 2 * m + 1 - 2 * m = 1 by omega, List.set_cons_succ, List.set_cons_zero, List.set_append_right _ _ (by omega), hl, show 2 * m + 1 - 1 - 2 * m = 0 by omega]
    unfold lk2
    rw [h0]
    simp

theorem grown_setRow2 (w : World) (g : Nat) (R : Array Value) : w.grownBy (w.setRow g R) (some g) :=
  ⟨rfl, rfl, rfl, by simp [World.setRow], fun k _ hk => setRow_other w g k R (fun e => hk (by simp [e]))⟩
theorem still_loadT {w : World} {ops : Array Oper} {rest : List Oper} {o : Oper} {a : Act} {Q : Act → Prop} (hgd : o.guard = none) (ty : TypeId) (p : Operand) (ho : o.op = .load ty p) (g t n : Nat) (l : List ByteArray) (e : TypeId) (hp : a.eval p = .pointer (some ⟨g, 0, none⟩)) (hA : TA w g t l) (hl : l.length = n)
    (hu : Tryd.prog.underlying ty = some (.array n e)) (hi : (Tryd.prog.info? ty).map (·.size) = some n)
    (h : wpStill Tryd.prog ops w Q rest (a.put o.dst (.agg (svs l).toArray))) : wpStill Tryd.prog ops w Q (o :: rest) a := by
  refine wpStill_step fun K hK => ?_
  have hr := run_loadT ty e hu hi hl hA
  have hw : Region.wanted o (yielded ops a.tmps) = true := by simp [Region.wanted, hgd]
  rw [if_pos hw]
  unfold Oper.still
  simp [execOp, ho, hp, hr, Result.andThen, Oper.stillUpon]
  exact hK _ h

/-- what each round of lockTexts holds -/
def LtR (b : Nat) (o s : List ByteArray) (w : World) (a : Int) (vo vs vd v i : Value) (wr : World) : Prop :=
  ∃ m : Nat, m ≤ 8 ∧ i = .int .i64 m ∧ OS w.heap.size w wr v (txN o m) ∧ TA wr (w.heap.size + 1 + 1 + 1) 105 (lkR b o s m) ∧ TA wr (w.heap.size + 1) 105 (List.replicate 16 ByteArray.empty) ∧ SgM wr w.heap.size a vo vs vd
/-- a row of texts and an array of them, answered -/
theorem ret_rowArr {fn : Func} {Rp : Ending → World → Prop} {a : Act} {w : World} (c s g t n : Nat) (ty e : TypeId) (l : List ByteArray) (b : Value) (hres : fn.results = #[.tmp s, .cell c ty]) (hd : a.defers = []) (hp : a.tmps.getD c undef = .pointer (some ⟨g, 0, none⟩)) (hb : a.tmps.getD s undef = b)
    (hA : TA w g t l) (hl : l.length = n) (hu : Tryd.prog.underlying ty = some (.array n e)) (hi : (Tryd.prog.info? ty).map (·.size) = some n) (h : Rp (.returned (.tuple #[b, .agg (svs l).toArray])) w) : bodyPost Tryd.prog fn Rp .ret a w := by
  have hr := run_loadVar_row (P := Tryd.prog) w g t ty _ (0, 0) _ hA hu rfl (by rw [svs_size, hl]; exact hi)
  refine bodyPost_ret (v := .tuple #[b, .agg (svs l).toArray]) ?_ hd h
  have hp' : a.tmps[c]?.getD undef = .pointer (some ⟨g, 0, none⟩) := by simpa using hp
  have hb' : a.tmps[s]?.getD undef = b := by simpa using hb
  simp [results, hres, asAddr, hr, hp', hb']

set_option maxRecDepth 100000 in
set_option maxHeartbeats 4000000 in
theorem lockTexts_any (b : Nat) (a : Int) (vo vs vd : Value) (g1 o1 g2 o2 : Nat) (o s : List ByteArray) (w : World) (hb : b < 256) (ho : SS w vo g1 o1 o) (hs : SS w vs g2 o2 s) (lo : o.length = 8) (ls : s.length = 8) (wo : kwB o = true) (hvd : vd.oneCell' = true) (hT : Tb w) :
    Calls Tryd.prog 106 #[.int .u8 (b : Int), .agg #[.int .i64 a, vo, vs, vd]] w fun e w' => ∃ v, e = .returned (.tuple #[v, .agg (svs (lkN b o s 8)).toArray]) ∧ OS w.heap.size w w' v (txN o 8) := by
  have HSS : Hid (∀ W, Below w.heap.size w W → SS W vo g1 o1 o ∧ SS W vs g2 o2 s) := fun W hW => ⟨ho.below hW ho.lt, hs.below hW hs.lt⟩
  have HT : Hid (Tb w) := hT
  have HL : Hid (o.length = 8 ∧ s.length = 8 ∧ kwB o = true) := ⟨lo, ls, wo⟩
  obtain ⟨ao, co, rfl, _, x1⟩ := ho
  obtain ⟨as2, cs2, rfl, _, x2⟩ := hs
  rw [lo, ls] at HSS ⊢
  clear x1 x2 lo ls wo hT
  obtain ⟨M, hmk0, hos0⟩ := run_mkT 13 (by omega) ((w.alloc (.cells #[.int .i64 a, .slice ao 8 co, .slice as2 8 cs2, vd] 28)).alloc (.cells (zT 16) 105))
  have hmk : (Instr.makeSlice 26 (.int .i64 0) (.int .i64 13)).run Tryd.prog ((w.alloc (.cells #[.int .i64 a, .slice ao 8 co, .slice as2 8 cs2, vd] 28)).alloc (.cells (zT 16) 105)) = .ok (.slice (some ⟨w.heap.size + 1 + 1, 0, none⟩) 0 13) (((w.alloc (.cells #[.int .i64 a, .slice ao 8 co, .slice as2 8 cs2, vd] 28)).alloc (.cells (zT 16) 105)).alloc (.cells M 9)) := by simpa using hmk0
  have HST : Hid (LtR b o s w a (.slice ao 8 co) (.slice as2 8 cs2) vd (.slice (some ⟨w.heap.size + 1 + 1, 0, none⟩) 0 13) (.int .i64 0) ((((w.alloc (.cells #[.int .i64 a, .slice ao 8 co, .slice as2 8 cs2, vd] 28)).alloc (.cells (zT 16) 105)).alloc (.cells M 9)).alloc (.cells (zT 16) 105))) := by
    have h0 := SgM.new w a (.slice ao 8 co) (.slice as2 8 cs2) vd
    have b0 : Below w.heap.size w (w.alloc (.cells #[.int .i64 a, .slice ao 8 co, .slice as2 8 cs2, vd] 28)) := (Below.refl _ _).alloc (Nat.le_refl _) _
    have z0 : (w.alloc (.cells #[.int .i64 a, .slice ao 8 co, .slice as2 8 cs2, vd] 28)).heap.size = w.heap.size + 1 := by simp
    generalize w.alloc (.cells #[.int .i64 a, .slice ao 8 co, .slice as2 8 cs2, vd] 28) = W0 at *
    have h1 := TA.new W0 (List.replicate 16 ByteArray.empty) 105
    have b1 : Below W0.heap.size W0 (W0.alloc (.cells (zT 16) 105)) := (Below.refl _ _).alloc (Nat.le_refl _) _
    have z1 : (W0.alloc (.cells (zT 16) 105)).heap.size = w.heap.size + 1 + 1 := by simp [z0]
    rw [z0] at h1
    have h1 : TA (W0.alloc (.cells (zT 16) 105)) (w.heap.size + 1) 105 (List.replicate 16 ByteArray.empty) := h1
    have h0 := h0.later b1
    have b1 := b0.trans (b1.mono b0.size)
    generalize W0.alloc (.cells (zT 16) 105) = W1 at *
    have b2 : Below W1.heap.size W1 (W1.alloc (.cells M 9)) := (Below.refl _ _).alloc (Nat.le_refl _) _
    have z2 : (W1.alloc (.cells M 9)).heap.size = w.heap.size + 1 + 1 + 1 := by simp [z1]
    have h0 := h0.later b2
    have h1 := h1.later b2
    have hos : OS w.heap.size w (W1.alloc (.cells M 9)) (.slice (some ⟨w.heap.size + 1 + 1, 0, none⟩) 0 13) [] := by
      rw [← z1]
      refine ⟨⟨hos0.1.1, ?_⟩, b1.trans (b2.mono b1.size), Nat.le_trans b1.size b2.size⟩
      rcases hos0.1.2 with hn | ⟨g, cap, cur, hv, hbg, rest⟩
      · exact .inl hn
      · exact .inr ⟨g, cap, cur, hv, Nat.le_trans b1.size hbg, rest⟩
    generalize W1.alloc (.cells M 9) = W2 at *
    have h3 := TA.new W2 (List.replicate 16 ByteArray.empty) 105
    have b3 : Below W2.heap.size W2 (W2.alloc (.cells (zT 16) 105)) := (Below.refl _ _).alloc (Nat.le_refl _) _
    rw [z2] at h3
    exact ⟨0, by omega, rfl, hos.alloc _, h3, h1.later b3, h0.later b3⟩
  clear hmk0 hos0
  go_enter Tryd.func106, Tryd.ntmps106
  go_wp2_with (refine wp_allocT rfl 105 16 rfl zeroA ?_)
  clear hmk
  go_loopw [6, 16] (fun v i wr => LtR b o s w a (.slice ao 8 co) (.slice as2 8 cs2) vd v i wr) (fun _ i _ => 8 - (intOf i).toNat)
  case atStart => exact HST.out
  case round =>
    obtain ⟨m, hm, rfl, hos, hta, htz, hsg⟩ := hrel
    clear HST
    by_cases hlt : m < 8
    · obtain ⟨⟨x1, y1, hv1, _, hA1, hc1⟩, ⟨x2, y2, hv2, _, hA2, hc2⟩⟩ := HSS.out _ hos.2.1
      have e1 := hA1 (by rw [HL.out.1]; omega)
      have e2 := hA2 (by rw [HL.out.2.1]; omega)
      rw [HL.out.1] at hv1
      rw [HL.out.2.1] at hv2
      simp at hv1 hv2
      obtain ⟨rfl, rfl⟩ := hv1
      obtain ⟨rfl, rfl⟩ := hv2
      subst e1
      subst e2
      have hz1 := kwB_at HL.out.2.2 m (by rw [HL.out.1]; exact hlt)
      have c1 := hc1 m (by rw [HL.out.1]; exact hlt)
      rw [gB_eq o m (by rw [HL.out.1]; exact hlt)] at c1 hz1
      have hlc := lock_cut o m (by omega)
      have hst := lkR_step b o s m hlt
      have htx := txN_step o m
      have htl := txN_len o m
      have hll := lkR_len b o s m (by omega)
      have hKT := keyText_lit 6 [gB o m] 1 #[.string (gB o m)] wr _ rfl rfl (by omega) rfl
      have hV := bitN_lt b m
      have i1 : (m : Int) < 8 := by omega
      have i2 : (0 : Int) ≤ (m : Int) := by omega
      have hts : (tx1 o m).size ≤ 1048576 := Nat.le_trans (tagB_size _ _) (by omega)
      have HK : Hid (tagB 6 [gB o m] = tx1 o m) := rfl
      rw [HK.out] at hKT
      generalize tx1 o m = X at *
      have HH : Hid (cutH X 16 = lockB (gB o m)) := hlc
      have HSTEP : Hid (∀ K, ((lkR b o s m).set (2 * m + bitN b m) (lockB (gB o m))).set (2 * m + 1 - bitN b m) (gB s m) = K → lkR b o s (m + 1) = K) := fun K hK => hst.symm.trans hK
      generalize gB o m = O at *
      clear hst hA1 hA2 hlc HK
      have hc2 : Hid (∀ W, Below w.heap.size w W → W.cell? ⟨g2, o2 + m, none⟩ = some (.string (gB s m))) := fun W hW => by
        obtain ⟨_, ⟨_, _, _, _, _, hcc⟩⟩ := HSS.out W hW
        have := hcc m (by rw [HL.out.2.1]; exact hlt)
        rw [gB_eq s m (by rw [HL.out.2.1]; exact hlt)] at this
        exact this
      generalize gB s m = Y at *
      go_wp2_with fail
      refine hKT.out.mono ?_
      rintro e w1 ⟨rfl, hb1⟩
      have hos1 := hos.later hb1
      have hta1 := hta.later hb1
      have htz1 := htz.later hb1
      have hsg1 := hsg.later hb1
      clear hos hta htz hsg hb1 hKT c1 hc1
      go_wp2_with (at_builtin; refine wp_appSG rfl _ _ rfl w.heap.size w _ (txN o m) rfl (hos1.alloc _) ⟨w1.heap.size, 0, none⟩ X rfl ?c1 ?c2 ?_)
      case c1 => exact one_text _ _ _
      case c2 => omega
      intro v2 w2 hos2 hg2
      rw [← htx] at hos2
      have hba : Below w1.heap.size w1 (w1.alloc (.cells #[.string X] 9)) := (Below.refl _ _).alloc (Nat.le_refl _) _
      have hta2 := (hta1.later hba).keptO (by decide) (hos1.alloc _) hg2
      have htz2 := (htz1.later hba).keptO (by decide) (hos1.alloc _) hg2
      have hsg2 := (hsg1.later hba).keptO (hos1.alloc _) hg2
      clear hos1 hta1 htz1 hsg1 hg2 hba htx
      go_wp2_with fail
      refine (val_any b m _ _ hb rfl (by omega)).mono ?_
      rintro e w2' ⟨rfl, rfl⟩
      generalize bitN b m = V at *
      have hT2 := HT.out.later hos2.2.1
      have hcd := CutDigest_any X 16 w2' hts hT2.1 hT2.2
      rw [HH.out] at hcd
      clear hT2 HH
      generalize lockB O = K at *
      have j1 : (0 : Int) ≤ 2 * (m : Int) + (V : Int) := by omega
      have j2 : 2 * (m : Int) + (V : Int) < 16 := by omega
      have j3 : (0 : Int) ≤ 2 * (m : Int) + 1 - (V : Int) := by omega
      have j4 : 2 * (m : Int) + 1 - (V : Int) < 16 := by omega
      have t1 : (2 * (m : Int) + (V : Int)).toNat = 2 * m + V := by omega
      have t2 : (2 * (m : Int) + 1 - (V : Int)).toNat = 2 * m + 1 - V := by omega
      go_wp2_with fail
      refine hcd.mono ?_
      rintro e w3 ⟨rfl, hb3⟩
      have hos3 := hos2.later hb3
      have hta3 := hta2.later hb3
      have htz3 := htz2.later hb3
      have hsg3 := hsg2.later hb3
      clear hos2 hta2 htz2 hsg2 hb3 hcd
      obtain ⟨Z, c0⟩ : ∃ Z, w3.cell? ⟨w.heap.size + 1 + 1 + 1, 2 * m + V, none⟩ = some (.string Z) := ⟨_, hta3.cell (2 * m + V) (by omega)⟩
      have f0 := hta3.frozen (2 * m + V)
      have hgs := grown_set w3 (w.heap.size + 1 + 1 + 1) (2 * m + V) (.string K)
      have hta4 := hta3.set (2 * m + V) K
      have hos4 : OS w.heap.size w (w3.setCell ⟨w.heap.size + 1 + 1 + 1, 2 * m + V, none⟩ (.string K)) v2 (txN o (m + 1)) := hos3.kept hgs (fun k hk => by simp at hk; omega) (os_ne hos3 hta3 (by decide))
      have htz4 : TA (w3.setCell ⟨w.heap.size + 1 + 1 + 1, 2 * m + V, none⟩ (.string K)) (w.heap.size + 1) 105 (List.replicate 16 ByteArray.empty) := htz3.keep (hgs.block _ htz3.lt (by simp))
      have hsg4 := hsg3.keptG hgs (by simp; omega)
      have d1 := hsg4.c2
      have d2 := hc2.out _ hos4.2.1
      obtain ⟨Z2, c4⟩ : ∃ Z, (w3.setCell ⟨w.heap.size + 1 + 1 + 1, 2 * m + V, none⟩ (.string K)).cell? ⟨w.heap.size + 1 + 1 + 1, 2 * m + 1 - V, none⟩ = some (.string Z) := ⟨_, hta4.cell (2 * m + 1 - V) (by rw [List.length_set]; omega)⟩
      have f4 := hta4.frozen (2 * m + 1 - V)
      have hgs2 := grown_set (w3.setCell ⟨w.heap.size + 1 + 1 + 1, 2 * m + V, none⟩ (.string K)) (w.heap.size + 1 + 1 + 1) (2 * m + 1 - V) (.string Y)
      have hta5 := hta4.set (2 * m + 1 - V) Y
      have hos5 := hos4.kept hgs2 (fun k hk => by simp at hk; omega) (os_ne hos4 hta4 (by decide))
      have htz5 : TA _ (w.heap.size + 1) 105 (List.replicate 16 ByteArray.empty) := htz4.keep (hgs2.block _ htz4.lt (by simp))
      have hsg5 := hsg4.keptG hgs2 (by simp; omega)
      rw [← HSTEP.out _ rfl] at hta5
      have HN : Hid (LtR b o s w a (.slice (some ⟨g1, o1, none⟩) 8 co) (.slice (some ⟨g2, o2, none⟩) 8 cs2) vd v2 (.int .i64 ((m : Int) + 1)) ((w3.setCell ⟨w.heap.size + 1 + 1 + 1, 2 * m + V, none⟩ (.string K)).setCell ⟨w.heap.size + 1 + 1 + 1, 2 * m + 1 - V, none⟩ (.string Y))) := ⟨m + 1, by omega, by simp, hos5, hta5, htz5, hsg5⟩
      clear hta5 hos5 htz5 hsg5 hta4 hos4 htz4 hsg4 hos3 hta3 htz3 hsg3 hgs hgs2 HSTEP hll htl HL HSS hc2
      go_wp2
      go_roundw
      case rel => exact HN.out
      case measure => simp [intOf]; omega
    · have hme : m = 8 := by omega
      subst hme
      rw [lkR_all] at hta
      have hll := lkN_len b o s 8
      have HTA : Hid (TA wr (w.heap.size + 1 + 1 + 1) 105 (lkN b o s 8) ∧ TA wr (w.heap.size + 1) 105 (List.replicate 16 ByteArray.empty)) := ⟨hta, htz⟩
      have HO : Hid (OS w.heap.size w wr u6 (txN o 8)) := hos
      clear hta htz hos hsg HSS HL
      go_wp2
      refine wp_region_still_tail 3 (by kernel_rfl) (by kernel_rfl) ?_
      simp only [List.take_succ_cons, List.take_zero, List.drop_succ_cons, List.drop_zero]
      still_step
      refine still_loadT rfl 105 _ rfl (w.heap.size + 1 + 1 + 1) 105 16 (lkN b o s 8) 9 rfl HTA.out.1 hll Tryd.underlying105 sizeA ?_
      still_step
      refine wpStill_nil ?_
      go_wp2_with (refine wp_storeT rfl 105 _ _ rfl (w.heap.size + 1) 105 16 (List.replicate 16 ByteArray.empty) (lkN b o s 8) HTA.out.2 (by simp) hll rfl rfl sizeA ?_; intro hfin)
      refine ret_rowArr 5 4 (w.heap.size + 1) 105 16 105 9 (lkN b o s 8) _ rfl rfl rfl rfl hfin hll Tryd.underlying105 sizeA ?_
      exact ⟨_, rfl, HO.out.drew.kept (grown_setRow2 _ _ _) (fun k hk => by simp at hk; omega) (os_ne HO.out HTA.out.2 (by decide))⟩

end Go.Proofs.YtaejeemjndmjcaaDoor
/-
  What PoolOf answers, and how a row of texts is folded two by two, the program's and the specification's.
-/
namespace Go.Proofs.YtaejeemjndmjcaaDoor
open Go.RowKit Go.BigFrame
set_option linter.unusedVariables false

/-- what PoolOf is -/
def poolL (s : ByteArray) : List ByteArray := (List.range 16).map fun i => pubA s (i : Nat)
theorem poolL_len (s : ByteArray) : (poolL s).length = 16 := by simp [poolL]
theorem poolL_at (s : ByteArray) (i : Nat) (h : i < (poolL s).length) : (poolL s)[i] = pubA s (i : Nat) := by simp [poolL]

def PlR (s : ByteArray) (w : World) (g : Nat) (i : Value) (wr : World) : Prop := ∃ m : Nat, m ≤ 16 ∧ i = .int .i64 m ∧ TB wr g (srow (poolL s) m) ∧ Below w.heap.size w wr

def PlS (s : ByteArray) (w : World) (v i : Value) (wr : World) : Prop := ∃ m : Nat, m ≤ 16 ∧ i = .int .i64 m ∧ OS w.heap.size w wr v ((poolL s).take m)

set_option maxRecDepth 100000 in
set_option maxHeartbeats 1000000 in
theorem sPoolOf_any (s : ByteArray) (w : World) (hs : s.size ≤ 1100000) :
    Calls Tryd.prog 19 #[.string s] w fun e w' => ∃ v, e = .returned v ∧ OS w.heap.size w w' v (poolL s) := by
  have HST : Hid (PlS s w (.slice (some ⟨w.heap.size, 0, none⟩) 0 0) (.int .i64 0) (w.alloc (.cells #[] 9))) := ⟨0, by omega, rfl, OS.made w⟩
  have HL : Hid ((poolL s).length = 16 ∧ ∀ i (h : i < (poolL s).length), (poolL s)[i] = pubA s (i : Nat)) := ⟨poolL_len s, poolL_at s⟩
  generalize hL : poolL s = L at *
  go_enter Tryd.func19, Tryd.ntmps19
  go_wp2
  go_loopw [3, 4] (fun v i wr => PlS s w v i wr) (fun _ i _ => 16 - (intOf i).toNat)
  case atStart => exact HST.out
  case round =>
    obtain ⟨m, hm, rfl, hos⟩ := hrel
    rw [hL] at hos
    clear HST
    by_cases hlt : m < 16
    · have i1 : (m : Int) < 16 := by omega
      go_wp2_with fail
      refine (sPublicOf_any s _ _ hs).mono ?_
      rintro e w1 ⟨rfl, hb1⟩
      have hos1 := hos.later hb1
      have hlk := HL.out.2 m (by rw [HL.out.1]; exact hlt)
      have hll : (L.take m).length ≤ 16 := by rw [List.length_take, HL.out.1]; omega
      have HN : Hid (∀ v W, OS w.heap.size w W v (L.take m ++ [pubA s (m : Nat)]) → PlS s w v (.int .i64 ((m : Int) + 1)) W) := by
        rw [← hlk, List.take_append_getElem]
        exact fun v W hW => ⟨m + 1, by omega, by simp, by rw [hL]; exact hW⟩
      generalize L.take m = X at *
      generalize pubA s (m : Nat) = K at *
      clear hos hb1 hlk HL
      go_wp2_with (at_builtin; refine wp_appS rfl _ _ rfl w.heap.size w _ X rfl (hos1.alloc _) ⟨w1.heap.size, 0, none⟩ K rfl ?c1 ?c2 ?_)
      case c1 => exact one_text _ _ _
      case c2 => omega
      intro v' w3 hos3
      go_wp2
      go_roundw
      case rel => exact HN.out _ _ hos3
      case measure => simp [intOf]; omega
    · have hme : m = 16 := by omega
      subst hme
      have e : L.take 16 = L := List.take_of_length_le (by rw [HL.out.1]; omega)
      rw [e] at hos
      go_wp2
      go_ret
      exact ⟨_, rfl, hos⟩

/-- a place of the row above -/
def upAt (l : List ByteArray) (i : Nat) : ByteArray := hashB 3 [l.getD (2 * i) ByteArray.empty, l.getD (2 * i + 1) ByteArray.empty] 16
/-- the row above -/
def upL (l : List ByteArray) : List ByteArray := (List.range (l.length / 2)).map (upAt l)
theorem upL_len (l : List ByteArray) : (upL l).length = l.length / 2 := by simp [upL]
theorem upL_at (l : List ByteArray) (i : Nat) (h : i < (upL l).length) : (upL l)[i] = upAt l i := by simp [upL]
theorem upAt_eq (l : List ByteArray) (i : Nat) (h : 2 * i + 1 < l.length) : upAt l i = hashB 3 [l[2 * i], l[2 * i + 1]] 16 := by
  unfold upAt
  rw [List.getD_eq_getElem?_getD, List.getD_eq_getElem?_getD, List.getElem?_eq_getElem (by omega), List.getElem?_eq_getElem h]
  rfl

theorem taggedHash_litd (k : Int) (l : List ByteArray) (n : Nat) (cs : Array Value) (w : World) (g : Nat) (hg : w.heap.size = g) (hn : l.length = n) (hl : n ≤ 60) (hc : cs = (svs l).toArray) (hT : Tb w) :
    Hid (Calls Tryd.prog 81 #[.int .i64 16, .int .i64 k, .slice (some ⟨g, 0, none⟩) n n] (w.alloc (.cells cs 9)).drew fun e w' => e = .returned (.string (hashB k l 16)) ∧ Below w.heap.size w w') := by
  have h := taggedHash_lit k l n cs w.drew g hg hn hl hc hT
  exact h.out.mono fun e w' ⟨he, hb⟩ => ⟨he, (Below.refl _ _).drew.trans hb⟩
theorem sTagHash_litd (k : Int) (l : List ByteArray) (n : Nat) (cs : Array Value) (w : World) (g : Nat) (hg : w.heap.size = g) (hn : l.length = n) (hl : n ≤ 60) (hc : cs = (svs l).toArray) :
    Hid (Calls Tryd.prog 38 #[.int .i64 k, .slice (some ⟨g, 0, none⟩) n n, .int .i64 16] (w.alloc (.cells cs 9)).drew fun e w' => e = .returned (.string (hashB k l 16)) ∧ Below w.heap.size w w') := by
  have h := sTagHash_lit k l n cs w.drew g hg hn hl hc
  exact h.out.mono fun e w' ⟨he, hb⟩ => ⟨he, (Below.refl _ _).drew.trans hb⟩

theorem cell_other_set {w : World} {g m : Nat} {u x : Value} {p : Addr} (h : p.block ≠ g) (hc : w.cell? p = some x) : (w.setCell ⟨g, m, none⟩ u).cell? p = some x :=
  (World.cell?_of_block (w := w) (heap_setCell_other w ⟨g, m, none⟩ p.block u h)).trans hc

def RaR (l : List ByteArray) (w : World) (g : Nat) (i : Value) (wr : World) : Prop := ∃ m : Nat, m ≤ l.length / 2 ∧ i = .int .i64 m ∧ TB wr g (srow (upL l) m) ∧ Below w.heap.size w wr

set_option maxRecDepth 100000 in
set_option maxHeartbeats 2000000 in
theorem rowAbove_any (v : Value) (ga oa : Nat) (l : List ByteArray) (w : World) (hv : SS w v ga oa l) (hl : l.length ≤ 1000) (hT : Tb w) :
    Calls Tryd.prog 103 #[v, .int .i64 16] w fun e w' => ∃ g, e = .returned (.slice (some ⟨g, 0, none⟩) (l.length / 2) (l.length / 2)) ∧ w.heap.size ≤ g ∧ TB w' g (upL l) ∧ Below w.heap.size w w' := by
  have HT : Hid (Tb w) := hT
  have hga := hv.lt
  obtain ⟨a, cap, rfl, _, hA, hc⟩ := hv
  obtain ⟨n, hn⟩ : ∃ n, l.length = n := ⟨_, rfl⟩
  obtain ⟨w2, hmk0, hib, hb2, hs2⟩ := TB.made (n / 2) (by omega) w
  have hmk : (Instr.makeSlice 26 (.int .i64 ((n : Int) / 2)) (.int .i64 ((n : Int) / 2))).run Tryd.prog w = .ok (.slice (some ⟨w.heap.size, 0, none⟩) (n / 2) (n / 2)) w2 := by simpa using hmk0
  have HST : Hid (RaR l w w.heap.size (.int .i64 0) w2) := ⟨0, by omega, rfl, by rw [show srow (upL l) 0 = List.replicate (n / 2) ByteArray.empty by unfold srow; rw [upL_len, hn]; rfl]; exact hib, hb2⟩
  have HA : Hid (0 < n → a = some ⟨ga, oa, none⟩ ∧ ga < w.heap.size) := by rw [← hn]; exact fun h => ⟨hA h, hga h⟩
  have HC : Hid (∀ j (h : j < l.length), w.cell? ⟨ga, oa + j, none⟩ = some (.string l[j])) := hc
  have HN : Hid (l.length = n) := hn
  rw [hn] at hl ⊢
  clear hib hb2 hs2 hA hga hc hT hmk0
  go_enter Tryd.func103, Tryd.ntmps103
  go_wp2
  clear hmk
  go_loopw [13] (fun i wr => RaR l w w.heap.size i wr) (fun i _ => n / 2 - (intOf i).toNat)
  case atStart => exact HST.out
  case round =>
    obtain ⟨m, hm, rfl, hib, hbel⟩ := hrel
    rw [hn] at hm
    clear HST hn
    by_cases hlt : m < n / 2
    · obtain ⟨ea, hgw⟩ := HA.out (by omega)
      subst ea
      have i1 : (m : Int) < (n : Int) / 2 := by omega
      have i2 : (0 : Int) ≤ (m : Int) := by omega
      have i3 : 2 * (m : Int) < (n : Int) := by omega
      have i4 : 2 * (m : Int) + 1 < (n : Int) := by omega
      have hu := upAt_eq l m (by rw [HN.out]; omega)
      have c1 : wr.cell? ⟨ga, oa + 2 * m, none⟩ = some (.string (l[2 * m]'(by rw [HN.out]; omega))) := (hbel.cell (p := ⟨ga, oa + 2 * m, none⟩) hgw).trans (HC.out (2 * m) _)
      have c2 : wr.cell? ⟨ga, oa + (2 * m + 1), none⟩ = some (.string (l[2 * m + 1]'(by rw [HN.out]; omega))) := (hbel.cell (p := ⟨ga, oa + (2 * m + 1), none⟩) hgw).trans (HC.out (2 * m + 1) _)
      have hlk := upL_at l m (by rw [upL_len, HN.out]; exact hlt)
      have hst := srow_step (upL l) m (by rw [upL_len, HN.out]; exact hlt)
      have hll : (srow (upL l) m).length = n / 2 := by rw [srow_len _ _ (by rw [upL_len, HN.out]; omega), upL_len, HN.out]
      rw [hlk, hu] at hst
      generalize l[2 * m]'(by rw [HN.out]; omega) = X at *
      generalize l[2 * m + 1]'(by rw [HN.out]; omega) = Y at *
      have HCT := taggedHash_litd 3 [X, Y] 2 #[.string X, .string Y] wr _ rfl rfl (by omega) rfl (HT.out.later hbel)
      generalize hashB 3 [X, Y] 16 = K at *
      clear hu hlk
      have hgr : ga < wr.heap.size := Nat.lt_of_lt_of_le hgw hbel.size
      have hne : ga ≠ w.heap.size := by omega
      have a1 : IntKind.i64.wrap (2 * (m : Int)) = 2 * (m : Int) := IntWalk.i64_in _ (by omega)
      have a2 : IntKind.i64.wrap (2 * (m : Int) + 1) = 2 * (m : Int) + 1 := IntWalk.i64_in _ (by omega)
      have hlt2 := hib.lt
      go_wp2
      have i5 : (0 : Int) ≤ 2 * (m : Int) := by omega
      have i6 : (0 : Int) ≤ 2 * (m : Int) + 1 := by omega
      have t1 : (2 * (m : Int)).toNat = 2 * m := by omega
      have t2 : (2 * (m : Int) + 1).toNat = 2 * m + 1 := by omega
      go_region_held3 (fun W => W.cell? ⟨ga, oa + 2 * m, none⟩ = some (.string X) ∧ W.cell? ⟨ga, oa + (2 * m + 1), none⟩ = some (.string Y)) (first | go_keep | exact ⟨(hb1.cell (p := ⟨ga, oa + 2 * m, none⟩) hgr).trans c1, (hb1.cell (p := ⟨ga, oa + (2 * m + 1), none⟩) hgr).trans c2⟩ | exact ⟨cell_other_set hne ((hb1.cell (p := ⟨ga, oa + 2 * m, none⟩) hgr).trans c1), cell_other_set hne ((hb1.cell (p := ⟨ga, oa + (2 * m + 1), none⟩) hgr).trans c2)⟩) ((go_at_call 81; refine HCT.out.mono ?_; rintro e w1 ⟨rfl, hb1⟩; have hib1 := hib.below hb1 hlt2; have c0 := hib1.cell m (by omega); have f0 := hib1.frozen m))
      have hs := hib1.set m (by omega) K
      rw [hst] at hs
      have HS : Hid (TB (w1.setCell ⟨w.heap.size, m, none⟩ (.string K)) w.heap.size (srow (upL l) (m + 1)) ∧ Below w.heap.size w (w1.setCell ⟨w.heap.size, m, none⟩ (.string K))) := ⟨hs, (hbel.trans (hb1.mono hbel.size)).setCell (p := ⟨w.heap.size, m, none⟩) (Nat.le_refl _) _⟩
      clear hs hib1 c0 f0 hb1
      go_wp2
      go_roundw
      case rel => exact ⟨m + 1, by rw [HN.out]; omega, by go_num, HS.out.1, HS.out.2⟩
      case measure => simp [intOf]; omega
    · have hme : m = n / 2 := by omega
      have e : srow (upL l) m = upL l := by have := srow_all (upL l); rw [upL_len, HN.out, ← hme] at this; exact this
      rw [e] at hib
      subst hme
      clear e
      go_wp2
      go_ret
      exact ⟨w.heap.size, rfl, Nat.le_refl _, hib, hbel⟩

end Go.Proofs.YtaejeemjndmjcaaDoor
