/-
  Texts laid together: Xn, Xk, Hb.
-/
import Derived.Test.YtaejeemjndmjcaaDoorPkS23
import Derived.Test.YtaejeemjndmjcaaDoorPkS30
import Derived.Test.YtaejeemjndmjcaaDoorPkS36
import Derived.Deep.RegionHeld3
import Derived.Lib.QuietBelow
import Derived.Test.YtaejeemjndmjcaaDoorPkS14
/-
  Heads sealed and stamped: the program's answers.
-/
namespace Go.Proofs.YtaejeemjndmjcaaDoor
open Go.RowKit Go.BigFrame Go.Sort
set_option linter.unusedVariables false
set_option linter.unusedSimpArgs false

/-- is it sealed -/
def shOk (s : ByteArray) (l : List ByteArray) (x : Hd) : Bool := HV.okH x && okG s (HV.hashH x) l (sealP x.e)
def shH (s : ByteArray) (l : List ByteArray) (x : Hd) : Hd := if shOk s l x = true then x else zHd
def shA (s : ByteArray) (l : List ByteArray) (x : Hd) : Int := if shOk s l x = true then sgAt s (HV.hashH x) l (sealP x.e) else 0
def shO (s : ByteArray) (l : List ByteArray) (x : Hd) : List ByteArray := if shOk s l x = true then sgO s (HV.hashH x) l (sealP x.e) else []
def shS (s : ByteArray) (l : List ByteArray) (x : Hd) : List ByteArray := if shOk s l x = true then sgS s (HV.hashH x) l (sealP x.e) else []
def shD (s : ByteArray) (l : List ByteArray) (x : Hd) : List ByteArray := if shOk s l x = true then sgD s (HV.hashH x) l (sealP x.e) else []
/-- what SealHead answers -/
def ShP (s : ByteArray) (l : List ByteArray) (x : Hd) (w : World) (e : Ending) (w' : World) : Prop := ∃ v, e = .returned (.tuple #[v, .bool (shOk s l x)]) ∧ SealIn w' w.heap.size v (shH s l x) (shA s l x) (shO s l x) (shS s l x) (shD s l x) ∧ Below w.heap.size w w'
theorem ShP.no {s : ByteArray} {l : List ByteArray} {x : Hd} {w w' : World} (h : shOk s l x = false) (hb : Below w.heap.size w w') : ShP s l x w (.returned (.tuple #[.agg #[.int .i64 0, .int .i64 0, .string ⟨#[]⟩, .string ⟨#[]⟩, .int .i64 0, .slice none 0 0, .slice none 0 0, .slice none 0 0], .bool false])) w' := by
  unfold ShP shH shA shO shS shD
  rw [h]
  exact ⟨_, rfl, ⟨_, _, _, rfl, SigIn.zero _ _⟩, hb⟩
theorem ShP.yes {s : ByteArray} {l : List ByteArray} {x : Hd} {w w' : World} {v : Value} (h : shOk s l x = true) (hv : SealIn w' w.heap.size v x (sgAt s (HV.hashH x) l (sealP x.e)) (sgO s (HV.hashH x) l (sealP x.e)) (sgS s (HV.hashH x) l (sealP x.e)) (sgD s (HV.hashH x) l (sealP x.e))) (hb : Below w.heap.size w w') : ShP s l x w (.returned (.tuple #[v, .bool true])) w' := by
  unfold ShP shH shA shO shS shD
  rw [h]
  exact ⟨_, rfl, hv, hb⟩
/-- is it stamped -/
def thOk (s : ByteArray) (l : List ByteArray) (x : Hd) : Bool := HV.okH x && okG s (stampT x) l (stampP x.h x.e)
def thA (s : ByteArray) (l : List ByteArray) (x : Hd) : Int := if HV.okH x = true then sgAt s (stampT x) l (stampP x.h x.e) else 0
def thO (s : ByteArray) (l : List ByteArray) (x : Hd) : List ByteArray := if HV.okH x = true then sgO s (stampT x) l (stampP x.h x.e) else []
def thS (s : ByteArray) (l : List ByteArray) (x : Hd) : List ByteArray := if HV.okH x = true then sgS s (stampT x) l (stampP x.h x.e) else []
def thD (s : ByteArray) (l : List ByteArray) (x : Hd) : List ByteArray := if HV.okH x = true then sgD s (stampT x) l (stampP x.h x.e) else []
/-- what StampHead answers -/
def ThP (s : ByteArray) (l : List ByteArray) (x : Hd) (w : World) (e : Ending) (w' : World) : Prop := ∃ v, e = .returned (.tuple #[v, .bool (thOk s l x)]) ∧ SigIn w' w.heap.size v (thA s l x) (thO s l x) (thS s l x) (thD s l x) ∧ Below w.heap.size w w'
theorem ThP.no {s : ByteArray} {l : List ByteArray} {x : Hd} {w w' : World} (h : HV.okH x = false) (hb : Below w.heap.size w w') : ThP s l x w (.returned (.tuple #[.agg #[.int .i64 0, .slice none 0 0, .slice none 0 0, .slice none 0 0], .bool false])) w' := by
  unfold ThP thOk thA thO thS thD
  rw [h]
  exact ⟨_, rfl, SigIn.zero _ _, hb⟩
theorem ThP.yes {s : ByteArray} {l : List ByteArray} {x : Hd} {w w' : World} {v : Value} (h : HV.okH x = true) (hv : SigIn w' w.heap.size v (sgAt s (stampT x) l (stampP x.h x.e)) (sgO s (stampT x) l (stampP x.h x.e)) (sgS s (stampT x) l (stampP x.h x.e)) (sgD s (stampT x) l (stampP x.h x.e))) (hb : Below w.heap.size w w') : ThP s l x w (.returned (.tuple #[v, .bool (okG s (stampT x) l (stampP x.h x.e))])) w' := by
  unfold ThP thOk thA thO thS thD
  rw [h]
  exact ⟨_, rfl, hv, hb⟩
theorem SgAns.slices {s t : ByteArray} {l : List ByteArray} {y : Int} {w w' : World} {e : Ending} (h : SgAns s t l y w e w') : ∃ a1 n1 c1 a2 n2 c2 a3 n3 c3, e = .returned (.tuple #[.agg #[.int .i64 (sgAt s t l y), .slice a1 n1 c1, .slice a2 n2 c2, .slice a3 n3 c3], .bool (okG s t l y)]) ∧ SigIn w' w.heap.size (.agg #[.int .i64 (sgAt s t l y), .slice a1 n1 c1, .slice a2 n2 c2, .slice a3 n3 c3]) (sgAt s t l y) (sgO s t l y) (sgS s t l y) (sgD s t l y) ∧ Below w.heap.size w w' := by
  obtain ⟨v, he, hsi, hb⟩ := h
  obtain ⟨v1, v2, v3, g1, g2, g3, rfl, ⟨t1, t2, t3⟩, hh1, hh2⟩ := id hsi
  obtain ⟨a1, c1, rfl, _⟩ := id t1
  obtain ⟨a2, c2, rfl, _⟩ := id t2
  obtain ⟨a3, c3, rfl, _⟩ := id t3
  exact ⟨a1, _, c1, a2, _, c2, a3, _, c3, he, hsi, hb⟩

/-- a whole seal stored, as one operation -/
theorem oper_storeSl {o : Oper} {a : Act} {w w' : World} {K : Act → World → Prop} {Q : Exit → Act → World → Prop} {P V : Value} (p v : Operand) (ho : o.op = .store 30 p v) (hp : a.eval p = P) (hv : a.eval v = V) (hr : (Instr.storeAt 30 P V).run Tryd.prog w = .ok () w') (h : K (a.put o.dst (.tuple #[])) w') : Oper.wp Tryd.prog o a w K Q := by
  unfold Oper.wp
  simp [execOp, ho, hp, hv, hr, Result.andThen]
  exact h

set_option maxRecDepth 100000 in
set_option maxHeartbeats 2000000 in
theorem StampHead_any (s : ByteArray) (xa : Option Addr) (n c g o : Nat) (l : List ByteArray) (x : Hd) (w : World) (hs : s.size ≤ 100) (hln : l.length = n) (hn : n ≤ 16) (hsz : ∀ j, (gB l j).size ≤ 1048576) (hv : SS w (.slice xa n c) g o l) (hT : Tb w) :
    Calls Tryd.prog 20 #[.string s, .slice xa n c, .agg #[.int .i64 x.h, .int .i64 x.e, .string x.r, .string x.p]] w (ThP s l x w) := by
  have HH : Hid (∀ W, Calls Tryd.prog 40 #[.agg #[.int .i64 x.h, .int .i64 x.e, .string x.r, .string x.p]] W fun e w' => e = .returned (.bool (HV.okH x)) ∧ Below W.heap.size W w') := fun W => HeadOk_any x W
  have HG : Hid (∀ W, Below w.heap.size w W → Calls Tryd.prog 50 #[.agg #[.int .i64 x.h, .int .i64 x.e, .string x.r, .string x.p]] W fun e w' => e = .returned (.tuple #[.int .i64 (stampP x.h x.e), .string (stampT x)]) ∧ Below W.heap.size W w') := fun W hW => stamping_any x W (hT.later hW)
  have hz := stampT_le x
  have HS : Hid (∀ W, Below w.heap.size w W → Calls Tryd.prog 51 #[.string s, .slice xa n c, .int .i64 (stampP x.h x.e), .string (stampT x)] W fun e w' => ∃ a1 n1 c1 a2 n2 c2 a3 n3 c3, e = .returned (.tuple #[.agg #[.int .i64 (sgAt s (stampT x) l (stampP x.h x.e)), .slice a1 n1 c1, .slice a2 n2 c2, .slice a3 n3 c3], .bool (okG s (stampT x) l (stampP x.h x.e))]) ∧ SigIn w' W.heap.size (.agg #[.int .i64 (sgAt s (stampT x) l (stampP x.h x.e)), .slice a1 n1 c1, .slice a2 n2 c2, .slice a3 n3 c3]) (sgAt s (stampT x) l (stampP x.h x.e)) (sgO s (stampT x) l (stampP x.h x.e)) (sgS s (stampT x) l (stampP x.h x.e)) (sgD s (stampT x) l (stampP x.h x.e)) ∧ Below W.heap.size W w') := fun W hW => (SignText_any s _ xa n c g o l _ W hs (by omega) hln hn hsz (hv.below hW hv.lt) (hT.later hW)).mono fun e w' h => h.slices
  have HFN : Hid (∀ W, HV.okH x = false → Below w.heap.size w W → ThP s l x w (.returned (.tuple #[.agg #[.int .i64 0, .slice none 0 0, .slice none 0 0, .slice none 0 0], .bool false])) W) := fun W h hb => ThP.no h hb
  have HFY : Hid (∀ W v, HV.okH x = true → SigIn W w.heap.size v (sgAt s (stampT x) l (stampP x.h x.e)) (sgO s (stampT x) l (stampP x.h x.e)) (sgS s (stampT x) l (stampP x.h x.e)) (sgD s (stampT x) l (stampP x.h x.e)) → Below w.heap.size w W → ThP s l x w (.returned (.tuple #[v, .bool (okG s (stampT x) l (stampP x.h x.e))])) W) := fun W v h hv hb => ThP.yes h hv hb
  generalize ThP s l x w = Post at *
  generalize sgAt s (stampT x) l (stampP x.h x.e) = A at *
  generalize sgO s (stampT x) l (stampP x.h x.e) = O at *
  generalize sgS s (stampT x) l (stampP x.h x.e) = S at *
  generalize sgD s (stampT x) l (stampP x.h x.e) = D at *
  generalize okG s (stampT x) l (stampP x.h x.e) = b2 at *
  generalize stampT x = K at *
  generalize stampP x.h x.e = P at *
  generalize HV.okH x = b1 at *
  obtain ⟨h, e, r, p⟩ := x
  simp only at HH HG ⊢
  clear hT hv hsz hz
  have HX : Hid (Below w.heap.size w ((w.alloc (.cells #[.int .i64 h, .int .i64 e, .string r, .string p] 25)).alloc (.cells zSig 28)) ∧ BH ((w.alloc (.cells #[.int .i64 h, .int .i64 e, .string r, .string p] 25)).alloc (.cells zSig 28)) w.heap.size ⟨h, e, r, p⟩ ∧ SgM ((w.alloc (.cells #[.int .i64 h, .int .i64 e, .string r, .string p] 25)).alloc (.cells zSig 28)) (w.heap.size + 1) 0 (.slice none 0 0) (.slice none 0 0) (.slice none 0 0)) :=
    ⟨((Below.refl _ _).alloc (Nat.le_refl _) _).alloc (by simp) _, (BH.new w ⟨h, e, r, p⟩).later ((Below.refl _ _).alloc (Nat.le_refl _) _), alloc_fst _ _ (by simp)⟩
  go_enter Tryd.func20, Tryd.ntmps20
  go_wp2_with fail
  refine (HH.out _).mono ?_
  rintro e1 w1 ⟨rfl, hb1⟩
  have HX1 : Hid (Below w.heap.size w w1 ∧ BH w1 w.heap.size ⟨h, e, r, p⟩ ∧ SgM w1 (w.heap.size + 1) 0 (.slice none 0 0) (.slice none 0 0) (.slice none 0 0)) := ⟨HX.out.1.trans (hb1.mono HX.out.1.size), HX.out.2.1.later hb1, HX.out.2.2.later hb1⟩
  clear hb1 HX HH
  cases b1
  · go_wp2_with (first | (refine wp_storeSig rfl _ _ rfl (w.heap.size + 1) 0 0 _ _ _ _ _ _ HX1.out.2.2 rfl rfl rfl rfl rfl ?_; intro hst) | fail)
    exact ret_sig2 6 7 (w.heap.size + 1) 0 _ _ _ _ rfl rfl rfl rfl hst (HFN.out _ (by simp) (below_setRL HX1.out.1 (by omega) HX1.out.1.size _))
  have z0 := HX1.out.2.1.c0
  have z1 := HX1.out.2.1.c1
  have z2 := HX1.out.2.1.c2
  have z3 := HX1.out.2.1.c3
  simp only at z0 z1 z2 z3
  go_wp2_with fail
  refine (HG.out _ HX1.out.1).mono ?_
  rintro e2 w2 ⟨rfl, hb2⟩
  have HX2 : Hid (Below w.heap.size w w2 ∧ SgM w2 (w.heap.size + 1) 0 (.slice none 0 0) (.slice none 0 0) (.slice none 0 0)) := ⟨HX1.out.1.trans (hb2.mono HX1.out.1.size), HX1.out.2.2.later hb2⟩
  clear hb2 HX1 HG z0 z1 z2 z3
  go_wp2_with fail
  refine (HS.out _ HX2.out.1).mono ?_
  rintro e3 w3 ⟨a1, n1, c1, a2, n2, c2, a3, n3, c3, rfl, hsi, hb3⟩
  have HX3 : Hid (Below w.heap.size w w3 ∧ SgM w3 (w.heap.size + 1) 0 (.slice none 0 0) (.slice none 0 0) (.slice none 0 0)) := ⟨HX2.out.1.trans (hb3.mono HX2.out.1.size), HX2.out.2.later hb3⟩
  have HSI : Hid (SigIn (w3.setRow (w.heap.size + 1) #[.int .i64 A, .slice a1 n1 c1, .slice a2 n2 c2, .slice a3 n3 c3]) w.heap.size (.agg #[.int .i64 A, .slice a1 n1 c1, .slice a2 n2 c2, .slice a3 n3 c3]) A O S D) := by
    have hlt : w.heap.size + 1 < w2.heap.size := HX2.out.2.lt
    obtain ⟨v1, v2, v3, g1, g2, g3, hv, ⟨t1, t2, t3⟩, ⟨l1, l2, l3⟩, hne⟩ := hsi
    simp at hv
    obtain ⟨rfl, rfl, rfl⟩ := hv
    have hg := grown_setRow w3 (w.heap.size + 1) #[.int .i64 A, .slice a1 n1 c1, .slice a2 n2 c2, .slice a3 n3 c3]
    exact ⟨_, _, _, g1, g2, g3, rfl, ⟨t1.keptG hg (fun _ => by simp; omega), t2.keptG hg (fun _ => by simp; omega), t3.keptG hg (fun _ => by simp; omega)⟩, ⟨by omega, by omega, by omega⟩, hne⟩
  clear hsi hb3 HX2 HS
  go_wp2_with (first | (refine wp_storeSig rfl _ _ rfl (w.heap.size + 1) 0 A _ _ _ _ _ _ HX3.out.2 rfl rfl rfl rfl rfl ?_; intro hst) | fail)
  exact ret_sig2 6 7 (w.heap.size + 1) A _ _ _ _ rfl rfl rfl rfl hst (HFY.out _ _ (by simp) HSI.out (below_setRL HX3.out.1 (by omega) HX3.out.1.size _))

end Go.Proofs.YtaejeemjndmjcaaDoor
/-
  When a seal and a stamp are right: the specification's answers.
-/
namespace Go.Proofs.YtaejeemjndmjcaaDoor
open Go.RowKit Go.BigFrame Go.Sort
set_option linter.unusedVariables false
set_option linter.unusedSimpArgs false

set_option maxRecDepth 100000 in
set_option maxHeartbeats 1000000 in
theorem l14Stamp_any (x : Hd) (w : World) : Calls Tryd.prog 63 #[.agg #[.int .i64 x.h, .int .i64 x.e, .string x.r, .string x.p]] w fun e w' => e = .returned (.string (stampT x)) ∧ Below w.heap.size w w' := by
  have HB : Hid (Below w.heap.size w (w.alloc (.cells #[.int .i64 x.h, .int .i64 x.e, .string x.r, .string x.p] 25))) := (Below.refl _ _).alloc (Nat.le_refl _) _
  have HH : Hid (∀ W, Calls Tryd.prog 11 #[.agg #[.int .i64 x.h, .int .i64 x.e, .string x.r, .string x.p]] W fun e w' => e = .returned (.string (HV.hashH x)) ∧ Below W.heap.size W w') := fun W => sHeadHash_any x W
  unfold stampT
  generalize HV.hashH x = K at *
  obtain ⟨h, e, r, p⟩ := x
  simp only at HB HH ⊢
  go_enter Tryd.func63, Tryd.ntmps63
  go_wp2_with fail
  refine (HH.out _).mono ?_
  rintro e1 w1 ⟨rfl, hb1⟩
  have HB1 : Hid (Below w.heap.size w w1) := HB.out.trans (hb1.mono HB.out.size)
  have CT := sTagHash_w 16 8 [K] 1 #[.string K] w1 w1.heap.size rfl rfl (by omega) rfl
  clear HB hb1 HH
  go_wp2_with fail
  refine CT.out.mono ?_
  rintro e2 w2 ⟨rfl, hb2⟩
  go_wp2
  go_ret
  exact ⟨rfl, HB1.out.trans (hb2.mono HB1.out.size)⟩

set_option maxRecDepth 100000 in
set_option maxHeartbeats 1000000 in
theorem sStampOk_any (R : ByteArray) (x : Hd) (a : Int) (vo vs vd : Value) (g1 o1 g2 o2 g3 o3 : Nat) (o s d : List ByteArray) (w : World) (ho : SS w vo g1 o1 o) (hs : SS w vs g2 o2 s) (hd : SS w vd g3 o3 d) :
    Calls Tryd.prog 26 #[.string R, .agg #[.int .i64 x.h, .int .i64 x.e, .string x.r, .string x.p], .agg #[.int .i64 a, vo, vs, vd]] w fun e w' => e = .returned (.bool (stR R x a o s d)) ∧ Below w.heap.size w w' := by
  have HG : Hid (∀ W, Calls Tryd.prog 63 #[.agg #[.int .i64 x.h, .int .i64 x.e, .string x.r, .string x.p]] W fun e w' => e = .returned (.string (stampT x)) ∧ Below W.heap.size W w') := fun W => l14Stamp_any x W
  have HA : Hid (∀ W, Calls Tryd.prog 61 #[.int .i64 x.h, .int .i64 x.e] W fun e w' => e = .returned (.int .i64 (stampP x.h x.e)) ∧ w' = W) := fun W => sStampAt_any x.h x.e W
  have HH : Hid (∀ W, Calls Tryd.prog 60 #[.agg #[.int .i64 x.h, .int .i64 x.e, .string x.r, .string x.p]] W fun e w' => e = .returned (.bool (HV.okH x)) ∧ Below W.heap.size W w') := fun W => sHeadOk_any x W
  have hz := stampT_le x
  have HS : Hid (∀ W, Below w.heap.size w W → Calls Tryd.prog 62 #[.string R, .string (stampT x), .agg #[.int .i64 a, vo, vs, vd]] W fun e w' => e = .returned (.bool (okS R (stampT x) a o s d)) ∧ Below W.heap.size W w') := fun W hW => sSigOk_any R _ a vo vs vd g1 o1 g2 o2 g3 o3 o s d W (ho.below hW ho.lt) (hs.below hW hs.lt) (hd.below hW hd.lt) (by omega)
  unfold stR
  obtain ⟨ao, co, rfl, lo, x1⟩ := ho
  obtain ⟨as2, cs2, rfl, ls, x2⟩ := hs
  obtain ⟨ad, cd, rfl, ld, x3⟩ := hd
  clear x1 x2 x3 hz
  generalize okS R (stampT x) a o s d = B at *
  generalize stampT x = K at *
  generalize stampP x.h x.e = P at *
  generalize HV.okH x = b at *
  generalize o.length = n1 at *
  generalize s.length = n2 at *
  generalize d.length = n3 at *
  obtain ⟨h, e, r, p⟩ := x
  simp only at HG HH HA ⊢
  have HX : Hid (Below w.heap.size w ((w.alloc (.cells #[.int .i64 h, .int .i64 e, .string r, .string p] 25)).alloc (.cells #[.int .i64 a, .slice ao n1 co, .slice as2 n2 cs2, .slice ad n3 cd] 28)) ∧ BH ((w.alloc (.cells #[.int .i64 h, .int .i64 e, .string r, .string p] 25)).alloc (.cells #[.int .i64 a, .slice ao n1 co, .slice as2 n2 cs2, .slice ad n3 cd] 28)) w.heap.size ⟨h, e, r, p⟩ ∧ SgM ((w.alloc (.cells #[.int .i64 h, .int .i64 e, .string r, .string p] 25)).alloc (.cells #[.int .i64 a, .slice ao n1 co, .slice as2 n2 cs2, .slice ad n3 cd] 28)) (w.heap.size + 1) a (.slice ao n1 co) (.slice as2 n2 cs2) (.slice ad n3 cd)) :=
    ⟨((Below.refl _ _).alloc (Nat.le_refl _) _).alloc (by simp) _, (BH.new w ⟨h, e, r, p⟩).later ((Below.refl _ _).alloc (Nat.le_refl _) _), alloc_fst _ _ (by simp)⟩
  have HBB : Hid (∀ d os, Below w.heap.size w (grow (redrawn ((w.alloc (.cells #[.int .i64 h, .int .i64 e, .string r, .string p] 25)).alloc (.cells #[.int .i64 a, .slice ao n1 co, .slice as2 n2 cs2, .slice ad n3 cd] 28)) d) os)) := fun d os => HX.out.1.trans ((below_regrown ((w.alloc (.cells #[.int .i64 h, .int .i64 e, .string r, .string p] 25)).alloc (.cells #[.int .i64 a, .slice ao n1 co, .slice as2 n2 cs2, .slice ad n3 cd] 28)) d os).mono HX.out.1.size)
  have cq0 := fun d os => Calls.regrown_of (w := ((w.alloc (.cells #[.int .i64 h, .int .i64 e, .string r, .string p] 25)).alloc (.cells #[.int .i64 a, .slice ao n1 co, .slice as2 n2 cs2, .slice ad n3 cd] 28))) (d := d) (os := os) (HH.out _)
  have cq1 := fun d os => Calls.regrown_of (w := ((w.alloc (.cells #[.int .i64 h, .int .i64 e, .string r, .string p] 25)).alloc (.cells #[.int .i64 a, .slice ao n1 co, .slice as2 n2 cs2, .slice ad n3 cd] 28))) (d := d) (os := os) ((HA.out _).mono fun e w' ⟨h1, h2⟩ => ⟨h1, h2 ▸ Below.refl _ _⟩)
  have cq2 := fun d os => Calls.regrown_of (w := ((w.alloc (.cells #[.int .i64 h, .int .i64 e, .string r, .string p] 25)).alloc (.cells #[.int .i64 a, .slice ao n1 co, .slice as2 n2 cs2, .slice ad n3 cd] 28))) (d := d) (os := os) (HG.out _)
  have cq3 := fun d os => Calls.regrown_of (w := ((w.alloc (.cells #[.int .i64 h, .int .i64 e, .string r, .string p] 25)).alloc (.cells #[.int .i64 a, .slice ao n1 co, .slice as2 n2 cs2, .slice ad n3 cd] 28))) (d := d) (os := os) (HS.out _ (HBB.out d os))
  have kq0 := cell_regrown (w := ((w.alloc (.cells #[.int .i64 h, .int .i64 e, .string r, .string p] 25)).alloc (.cells #[.int .i64 a, .slice ao n1 co, .slice as2 n2 cs2, .slice ad n3 cd] 28))) HX.out.2.1.c0
  have kq1 := cell_regrown (w := ((w.alloc (.cells #[.int .i64 h, .int .i64 e, .string r, .string p] 25)).alloc (.cells #[.int .i64 a, .slice ao n1 co, .slice as2 n2 cs2, .slice ad n3 cd] 28))) HX.out.2.1.c1
  have kq2 := cell_regrown (w := ((w.alloc (.cells #[.int .i64 h, .int .i64 e, .string r, .string p] 25)).alloc (.cells #[.int .i64 a, .slice ao n1 co, .slice as2 n2 cs2, .slice ad n3 cd] 28))) HX.out.2.1.c2
  have kq3 := cell_regrown (w := ((w.alloc (.cells #[.int .i64 h, .int .i64 e, .string r, .string p] 25)).alloc (.cells #[.int .i64 a, .slice ao n1 co, .slice as2 n2 cs2, .slice ad n3 cd] 28))) HX.out.2.1.c3
  have kq4 := cell_regrown (w := ((w.alloc (.cells #[.int .i64 h, .int .i64 e, .string r, .string p] 25)).alloc (.cells #[.int .i64 a, .slice ao n1 co, .slice as2 n2 cs2, .slice ad n3 cd] 28))) HX.out.2.2.c0
  have kq5 := cell_regrown (w := ((w.alloc (.cells #[.int .i64 h, .int .i64 e, .string r, .string p] 25)).alloc (.cells #[.int .i64 a, .slice ao n1 co, .slice as2 n2 cs2, .slice ad n3 cd] 28))) HX.out.2.2.c1
  have kq6 := cell_regrown (w := ((w.alloc (.cells #[.int .i64 h, .int .i64 e, .string r, .string p] 25)).alloc (.cells #[.int .i64 a, .slice ao n1 co, .slice as2 n2 cs2, .slice ad n3 cd] 28))) HX.out.2.2.c2
  have kq7 := cell_regrown (w := ((w.alloc (.cells #[.int .i64 h, .int .i64 e, .string r, .string p] 25)).alloc (.cells #[.int .i64 a, .slice ao n1 co, .slice as2 n2 cs2, .slice ad n3 cd] 28))) HX.out.2.2.c3
  cases b
  · rw [Bool.false_and]
    go_enter Tryd.func26, Tryd.ntmps26
    go_wp2
    refine wp_region_quiet_below (by kernel_rfl) (by kernel_rfl) ?_
    repeat (go_big_quiet_step (first | exact cq0 _ _ | exact cq1 _ _ | exact cq2 _ _ | exact cq3 _ _))
    refine wpQuiet_nil ?_
    rintro _ ⟨⟨dq, osq⟩, rfl⟩
    have hb6 := HBB.out dq osq
    go_wp2
    go_ret
    exact ⟨rfl, hb6⟩
  · rw [Bool.true_and]
    by_cases hP : a = P
    · have q : (a == P) = true := by simpa using hP
      rw [decide_eq_true hP, Bool.true_and]
      clear hP
      go_enter Tryd.func26, Tryd.ntmps26
      go_wp2
      refine wp_region_quiet_below (by kernel_rfl) (by kernel_rfl) ?_
      repeat (go_big_quiet_step (first | exact cq0 _ _ | exact cq1 _ _ | exact cq2 _ _ | exact cq3 _ _))
      refine wpQuiet_nil ?_
      rintro _ ⟨⟨dq, osq⟩, rfl⟩
      have hb6 := HBB.out dq osq
      go_wp2
      go_ret
      exact ⟨rfl, hb6⟩
    · have q : (a == P) = false := by simpa using hP
      rw [decide_eq_false hP, Bool.false_and]
      clear hP
      go_enter Tryd.func26, Tryd.ntmps26
      go_wp2
      refine wp_region_quiet_below (by kernel_rfl) (by kernel_rfl) ?_
      repeat (go_big_quiet_step (first | exact cq0 _ _ | exact cq1 _ _ | exact cq2 _ _ | exact cq3 _ _))
      refine wpQuiet_nil ?_
      rintro _ ⟨⟨dq, osq⟩, rfl⟩
      have hb6 := HBB.out dq osq
      go_wp2
      go_ret
      exact ⟨rfl, hb6⟩

end Go.Proofs.YtaejeemjndmjcaaDoor
/-
  A head, and rows of heads, that a law is handed: counted, copied, compared.
-/
namespace Go.Proofs.YtaejeemjndmjcaaDoor
open Go.RowKit Go.BigFrame Go.Sort
set_option linter.unusedVariables false
set_option linter.unusedSimpArgs false


/-- a head in cells of any box -/
def RB (W : World) (g : Nat) (x : Hd) : Prop := W.rangeAt g 0 (hcs x) ∧ g < W.heap.size
theorem RB.new (w : World) (x : Hd) (T : Nat) : RB (w.alloc (.cells #[.int .i64 x.h, .int .i64 x.e, .string x.r, .string x.p] T)) w.heap.size x := ⟨range_new w (hcs x) T, by simp⟩
theorem RB.later {W W' : World} {g : Nat} {x : Hd} (h : RB W g x) (hb : Below W.heap.size W W') : RB W' g x := ⟨range_kept h.1 (hb.block g h.2), Nat.lt_of_lt_of_le h.2 hb.size⟩
theorem RB.grown {W W' : World} {g : Nat} {x : Hd} {row : Option Nat} (h : RB W g x) (hg : W.grownBy W' row) (hne : some g ≠ row) : RB W' g x := ⟨range_kept h.1 (hg.block g h.2 hne), Nat.lt_of_lt_of_le h.2 hg.size⟩
theorem RB.c0 {W : World} {g : Nat} {x : Hd} (h : RB W g x) : W.cell? ⟨g, 0, none⟩ = some (.int .i64 x.h) := h.1 0 _ rfl
theorem RB.c1 {W : World} {g : Nat} {x : Hd} (h : RB W g x) : W.cell? ⟨g, 1, none⟩ = some (.int .i64 x.e) := h.1 1 _ rfl
theorem RB.c2 {W : World} {g : Nat} {x : Hd} (h : RB W g x) : W.cell? ⟨g, 2, none⟩ = some (.string x.r) := h.1 2 _ rfl
theorem RB.c3 {W : World} {g : Nat} {x : Hd} (h : RB W g x) : W.cell? ⟨g, 3, none⟩ = some (.string x.p) := h.1 3 _ rfl

theorem Tryd.infoHead : (Tryd.prog.info? 25).map (fun i => (i.zero, i.size, i.bytes)) = some (some (.agg #[.int .i64 0, .int .i64 0, .string ByteArray.empty, .string ByteArray.empty]), 4, 48) := by kernel_rfl
theorem there_new4h {W : World} {cs : Array Value} {T n : Nat} (h : cs.size = n * 4) (j : Nat) (hj : j < n) : (W.alloc (.cells cs T)).there W.heap.size (j * 4) 4 := by
  intro i hi
  have hg := Go.heap_alloc_new W (.cells cs T)
  refine ⟨?_, by unfold World.frozen?; simp only [hg]; simp⟩
  rw [cell_of_row _ W.heap.size (j * 4 + i) cs T (0, 0) hg, Array.getElem?_eq_getElem (by omega)]
  rfl
theorem made_heads (n : Nat) (h : n ≤ 1100000) (W : World) : ∃ w', (Instr.makeSlice 112 (.int .i64 (n : Int)) (.int .i64 (n : Int))).run Tryd.prog W = .ok (.slice (some ⟨W.heap.size, 0, none⟩) n n) w' ∧ (∀ j, j < n → w'.there W.heap.size (j * 4) 4) ∧ Below W.heap.size W w' ∧ w'.heap.size = W.heap.size + 1 := by
  obtain ⟨i0, hi, hz0, hz1, hz2⟩ := info_parts Tryd.infoHead
  have h1 := run_make (P := Tryd.prog) W 112 25 i0 _ Tryd.underlying112 hi hz0 .i64 .i64 (n : Int) (n : Int) (by omega) (by omega) (by rw [hz2]; omega) (by omega)
  refine ⟨_, by simpa using h1, fun j hj => there_new4h ?_ j hj, (Below.refl _ _).alloc (Nat.le_refl _) _, by simp⟩
  rw [size_madeCells, hz1]

/-- the first m records of a new row are written -/
def ToH (w : World) (l : List Hd) (B g : Nat) (i : Value) (wr : World) : Prop := ∃ m : Nat, m ≤ l.length ∧ i = .int .i64 m ∧ (∀ j (h : j < l.length), j < m → wr.rangeAt g (j * 4) (hcs l[j])) ∧ (∀ j, j < l.length → wr.there g (j * 4) 4) ∧ Below B w wr
theorem ToH.set {w wr : World} {l : List Hd} {g m B : Nat} (hm : m < l.length) (hB : B ≤ g) (h1 : ∀ j (h : j < l.length), j < m → wr.rangeAt g (j * 4) (hcs l[j])) (h2 : ∀ j, j < l.length → wr.there g (j * 4) 4) (h3 : Below B w wr) :
    (∀ j (h : j < l.length), j < m + 1 → (wr.setCells g (m * 4) (hcs l[m])).rangeAt g (j * 4) (hcs l[j])) ∧ (∀ j, j < l.length → (wr.setCells g (m * 4) (hcs l[m])).there g (j * 4) 4) ∧ Below B w (wr.setCells g (m * 4) (hcs l[m])) := by
  refine ⟨fun j hj hlt => ?_, fun j hj => World.there_setCells (h2 j hj) _ _ _, ?_⟩
  · rcases Nat.lt_or_ge j m with h4 | h4
    · exact World.rangeAt_setCells_apart (h1 j hj h4) _ _ _ (.inr (.inl (by rw [hcs_len]; omega)))
    · have : j = m := by omega
      subst this
      exact World.rangeAt_setCells_same _ _ _ _ (h2 j hj)
  · exact below_setCells hB _ _ _ h3

def EhR (n : Nat) (w : World) (i : Value) (wr : World) : Prop := ∃ m : Nat, m ≤ n ∧ i = .int .i64 m ∧ Below w.heap.size w wr

/-- a row of heads that was handed in, great or small: if it is small, it is l -/
def IsRowH (w : World) (v : Value) (g o : Nat) (l : List Hd) : Prop := ∃ a n cap, v = .slice a n cap ∧ n ≤ 9223372036854775807 ∧ (n ≤ 1100000 → l.length = n ∧ RS 4 hcs w v g o l ∧ ∀ f ∈ l, f.r.size ≤ 9223372036854775807 ∧ f.p.size ≤ 9223372036854775807)
theorem IsRowH.later {w w' : World} {v : Value} {g o : Nat} {l : List Hd} (h : IsRowH w v g o l) (hb : Below w.heap.size w w') : IsRowH w' v g o l := by
  obtain ⟨a, n, cap, hv, hn, hr⟩ := h
  exact ⟨a, n, cap, hv, hn, fun hl => ⟨(hr hl).1, (hr hl).2.1.later hb, (hr hl).2.2⟩⟩
def SmallH1 (a : Hd) : Prop := a.r.size ≤ 1048576 ∧ a.p.size ≤ 1048576
/-- no text of it is great -/
def SmallHs (l : List Hd) : Prop := ∀ f ∈ l, SmallH1 f

def SzH (l : List Hd) (x0 : Int) (w : World) (x i : Value) (wr : World) : Prop := ∃ (m : Nat) (y : Int), m ≤ l.length ∧ i = .int .i64 m ∧ x = .int .i64 y ∧ 0 ≤ y ∧ y ≤ x0 ∧ Hid (∀ j (h : j < l.length), j < m → SmallH1 l[j]) ∧ Below w.heap.size w wr

end Go.Proofs.YtaejeemjndmjcaaDoor
