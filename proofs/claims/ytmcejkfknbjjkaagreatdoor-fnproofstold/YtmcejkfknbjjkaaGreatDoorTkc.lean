/-
  A proof drawn, a text of one, two of them.
-/
import Derived.Test.YtmcejkfknbjjkaaGreatDoorTkb
import Derived.Test.YtmcejkfknbjjkaaGreatDoorSpl
import Derived.Test.YtmcejkfknbjjkaaGreatDoorFfg
import Derived.Test.YtmcejkfknbjjkaaGreatDoorPkO
namespace Go.Proofs.YtmcejkfknbjjkaaGreatDoor
open Go.RowKit Go.BigFrame Go.Sort
set_option linter.unusedVariables false
set_option linter.unusedSimpArgs false

theorem ret_tpn {fn : Func} {Rp : Ending → World → Prop} {a : Act} {w : World} (s c d g : Nat) (b v1 v2 x : Value) (hres : fn.results = #[.tmp s, .cell c 43, .tmp d]) (hd : a.defers = []) (hb : a.tmps.getD s undef = b) (hp : a.tmps.getD c undef = .pointer (some ⟨g, 0, none⟩)) (hx : a.tmps.getD d undef = x)
    (hA : PfM w g v1 v2) (h : Rp (.returned (.tuple #[b, .agg #[v1, v2], x])) w) : bodyPost Tryz.prog fn Rp .ret a w := by
  have hr := load_pf hA
  refine bodyPost_ret (v := .tuple #[b, .agg #[v1, v2], x]) ?_ hd h
  have hp' : a.tmps[c]?.getD undef = .pointer (some ⟨g, 0, none⟩) := by simpa using hp
  have hb' : a.tmps[s]?.getD undef = b := by simpa using hb
  have hx' : a.tmps[d]?.getD undef = x := by simpa using hx
  simp [results, hres, asAddr, hr, hp', hb', hx']

def pkL : List Int := [16, 16, 1, 32, 3]
def pkC : Array Value := #[.int .i64 16, .int .i64 16, .int .i64 1, .int .i64 32, .int .i64 3]
theorem pk_at (w : World) : Hid (∀ j, (h : j < pkL.length) → (w.alloc (.cells pkC 3)).cell? ⟨w.heap.size, j, none⟩ = some (.int .i64 pkL[j])) := by
  intro j hj
  rw [World.cell?_alloc_at _ _ _ _ rfl]
  have : j = 0 ∨ j = 1 ∨ j = 2 ∨ j = 3 ∨ j = 4 := by simp [pkL] at hj; omega
  rcases this with rfl | rfl | rfl | rfl | rfl <;> rfl
def pmL : List Int := [0, 33, 5]
def pmC : Array Value := #[.int .i64 0, .int .i64 33, .int .i64 5]
theorem pm_at (w : World) : Hid (∀ j, (h : j < pmL.length) → (w.alloc (.cells pmC 3)).cell? ⟨w.heap.size, j, none⟩ = some (.int .i64 pmL[j])) := by
  intro j hj
  rw [World.cell?_alloc_at _ _ _ _ rfl]
  have : j = 0 ∨ j = 1 ∨ j = 2 := by simp [pmL] at hj; omega
  rcases this with rfl | rfl | rfl <;> rfl

/-- the drawing under way: the cursor, the answer's box, the proof in its own -/
def DoS (b0 : Nat) (w0 w : World) (g : Nat) (v : Value) (r gp : Nat) (vb vs : Value) (gb gs : Nat) (B : List Le) (S : List ByteArray) (W : World) : Prop :=
  Cur b0 w0 W g v ∧ PfM W r (.slice none 0 0) (.slice none 0 0) ∧ PfM W gp vb vs ∧ RS 2 lcs W vb gb 0 B ∧ SS W vs gs 0 S ∧ (w.heap.size ≤ r ∧ r < b0 ∧ g < gp ∧ g < gb ∧ g < gs) ∧ Below w.heap.size w w0
def DoP (w : World) (e : Ending) (w' : World) : Prop := ∃ (nm : ByteArray) (vb vs : Value) (gb gs : Nat) (B : List Le) (S : List ByteArray) (x : Int), e = .returned (.tuple #[.string nm, .agg #[vb, vs], .int .i64 x]) ∧ DpF 40 nm B S ∧ RS 2 lcs w' vb gb 0 B ∧ SS w' vs gs 0 S ∧ Below w.heap.size w w'
theorem DoP.drew {w : World} {e : Ending} {w' : World} (h : DoP w e w') : DoP w e w'.drew := by
  obtain ⟨nm, vb, vs, gb, gs, B, S, x, h1, h2, h3, h4, h5⟩ := h
  exact ⟨nm, vb, vs, gb, gs, B, S, x, h1, h2, h3, h4, h5.drew⟩
section
variable {b0 : Nat} {w0 w : World} {g : Nat} {v : Value} {r gp gb gs : Nat} {vb vs : Value} {B : List Le} {S : List ByteArray} {W W' : World}
theorem DoS.drawn (h : DoS b0 w0 w g v r gp vb vs gb gs B S W) (hc : Cur b0 w0 W' g v) (hg : W.grownBy W' (some g)) : DoS b0 w0 w g v r gp vb vs gb gs B S W' := by
  obtain ⟨h1, h2, h3, h4, h5, ⟨h6, h7, h8, h9, h10⟩, h11⟩ := h
  have hB := h1.1
  exact ⟨hc, h2.gr hg (by simp; omega), h3.gr hg (by simp; omega), h4.grown hg (fun _ => by simp; omega), h5.grown hg (fun _ => by simp; omega), ⟨h6, h7, h8, h9, h10⟩, h11⟩
theorem do_end (h : DoS b0 w0 w g v r gp vb vs gb gs B S W) {nm : ByteArray} (hp : DpF 40 nm B S) (x : Int) : PfM ((W.setCell ⟨r, 0, none⟩ vb).setCell ⟨r, 1, none⟩ vs) r vb vs ∧ DoP w (.returned (.tuple #[.string nm, .agg #[vb, vs], .int .i64 x])) ((W.setCell ⟨r, 0, none⟩ vb).setCell ⟨r, 1, none⟩ vs) := by
  obtain ⟨h1, h2, h3, h4, h5, ⟨h6, h7, h8, h9, h10⟩, h11⟩ := h
  have hB := h1.1
  have s1 := grown_set W r 0 vb
  have s2 := grown_set (W.setCell ⟨r, 0, none⟩ vb) r 1 vs
  have hlt := h2.lt
  have b1 : Below w.heap.size w W := h11.trans (h1.2.1.mono (by omega))
  have b2 := b1.grown s1 b1.size (fun k hk => by simp at hk; omega)
  have b3 := b2.grown s2 b2.size (fun k hk => by simp at hk; omega)
  exact ⟨(h2.set0 vb).set1 vs, nm, vb, vs, gb, gs, B, S, x, rfl, hp, (h4.grown s1 (fun _ => by simp; omega)).grown s2 (fun _ => by simp; omega), (h5.grown s1 (fun _ => by simp; omega)).grown s2 (fun _ => by simp; omega), b3⟩
end

set_option maxRecDepth 100000 in
set_option maxHeartbeats 4000000 in
theorem DrawProofOk_any (w : World) (v : Value) (hc : Code w.heap.size w v) :
    Calls Tryz.prog 15 #[v] w (DoP w) := by
  have hba : Below w.heap.size w (w.alloc (.cells #[.slice none 0 0, .slice none 0 0] 43)) := (Below.refl _ _).alloc (Nat.le_refl _) _
  have HC : Hid (Code (w.alloc (.cells #[.slice none 0 0, .slice none 0 0] 43)).heap.size (w.alloc (.cells #[.slice none 0 0, .slice none 0 0] 43)) v) := code_laterR hc hba
  have hpR := PfM.new w (.slice none 0 0) (.slice none 0 0)
  have hsz : (w.alloc (.cells #[.slice none 0 0, .slice none 0 0] 43)).heap.size = w.heap.size + 1 := by simp
  clear hc
  go_enter Tryz.func15, Tryz.ntmps15
  go_wp2_with fail
  generalize w.alloc (.cells #[.slice none 0 0, .slice none 0 0] 43) = wS at *
  refine (l01New_in wS v HC.out).mono ?_
  rintro e w1 ⟨g, rfl, hc1, hb1⟩
  have CP := pickI_lit wS.heap.size wS w1 g v 5 pkL pkC hc1 rfl (by omega) (by omega) (pk_at w1)
  go_wp2_with fail
  refine CP.out.mono ?_
  rintro e w2 ⟨x, hx, rfl, hc2, hg2⟩
  have hx' : 1 ≤ x ∧ x ≤ 32 := by simp [pkL] at hx; omega
  clear CP hb1 hc1 hg2
  go_wp2_with fail
  refine (l11Any_in wS.heap.size wS w2 g v x hx' hc2).mono ?_
  rintro e w3 ⟨nm, vb, vs, gb, gs, B, S, rfl, hpf, hrb, hss, ⟨hgb, hgs⟩, hc3, hg3⟩
  obtain ⟨ab, nb, cb, rfl⟩ : ∃ a n c, vb = .slice a n c := by obtain ⟨a, c, e⟩ := hrb.shape; exact ⟨a, _, c, e⟩
  obtain ⟨aS, nS, cS, rfl⟩ : ∃ a n c, vs = .slice a n c := by obtain ⟨a, c, e, _⟩ := hss; exact ⟨a, _, c, e⟩
  have hpn := PfM.new w3 (.slice none 0 0) (.slice none 0 0)
  have hbx : Below w3.heap.size w3 ((w3.alloc (.cells #[.slice none 0 0, .slice none 0 0] 43)).setRow w3.heap.size #[.slice ab nb cb, .slice aS nS cS]) := below_setRow ((Below.refl _ _).alloc (Nat.le_refl _) _) (Nat.le_refl _)
  have HD : Hid (∀ (hf : PfM ((w3.alloc (.cells #[.slice none 0 0, .slice none 0 0] 43)).setRow w3.heap.size #[.slice ab nb cb, .slice aS nS cS]) w3.heap.size (.slice ab nb cb) (.slice aS nS cS)), DoS wS.heap.size wS w g v w.heap.size w3.heap.size (.slice ab nb cb) (.slice aS nS cS) gb gs B S ((w3.alloc (.cells #[.slice none 0 0, .slice none 0 0] 43)).setRow w3.heap.size #[.slice ab nb cb, .slice aS nS cS])) := fun hf =>
    ⟨hc3.kept (grown_below (row := none) hbx) (by simp) hc3.size (fun k hk => by cases hk), (hpR.later hc3.2.1).later hbx, hf, hrb.later hbx, hss.below hbx hss.lt, ⟨Nat.le_refl _, by omega, hc3.lt, hgb, hgs⟩, hba⟩
  clear hpR hba HC hc2 hc3 hg3 hrb hss hbx hgb hgs
  go_wp2_with (refine wp_storePf rfl _ _ rfl w3.heap.size _ _ (.slice ab nb cb) (.slice aS nS cS) hpn rfl rfl rfl rfl ?_; intro hfin)
  obtain ⟨gp, hgp⟩ : ∃ gp, w3.heap.size = gp := ⟨_, rfl⟩
  have HI : Hid (DoS wS.heap.size wS w g v w.heap.size w3.heap.size (.slice ab nb cb) (.slice aS nS cS) gb gs B S ((w3.alloc (.cells #[.slice none 0 0, .slice none 0 0] 43)).setRow w3.heap.size #[.slice ab nb cb, .slice aS nS cS])) := HD.out hfin
  rw [hgp] at HI ⊢
  clear HD hpn hfin
  generalize (w3.alloc (.cells #[.slice none 0 0, .slice none 0 0] 43)).setRow gp #[.slice ab nb cb, .slice aS nS cS] = w4 at HI ⊢
  obtain ⟨r, hr⟩ : ∃ r, w.heap.size = r := ⟨_, rfl⟩
  rw [hr] at HI ⊢
  refine (l01Once_in wS.heap.size wS _ g v 12 12 rfl HI.out.1 (by omega) (by omega)).mono ?_
  rintro e w5 ⟨b, rfl, hc5, hg5⟩
  have H5 : Hid (DoS wS.heap.size wS w g v r gp (.slice ab nb cb) (.slice aS nS cS) gb gs B S w5) := HI.out.drawn hc5 hg5
  have hne : gp ≠ r := by have := HI.out.2.2.2.2.2.1; have := HI.out.1.1; omega
  clear HI hc5 hg5
  cases b with
  | true =>
    have CP := pickI_lit wS.heap.size wS w5 g v 3 pmL pmC H5.out.1 rfl (by omega) (by omega) (pm_at w5)
    go_wp2_with fail
    refine CP.out.mono ?_
    rintro e w6 ⟨y, hy, rfl, hc6, hg6⟩
    have H6 : Hid (DoS wS.heap.size wS w g v r gp (.slice ab nb cb) (.slice aS nS cS) gb gs B S w6) := H5.out.drawn hc6 hg6
    have HE : Hid _ := do_end H6.out hpf y
    have t0 := H6.out.2.1.c0
    have t1 := H6.out.2.1.c1
    have f0 := H6.out.2.1.fr 0
    have f1 := H6.out.2.1.fr 1
    have d0 := H6.out.2.2.1.c0
    have d1 := H6.out.2.2.1.c1
    clear H6 H5 hc6 hg6 CP
    go_wp2_with fail
    go_region
    generalize (w6.setCell ⟨r, 0, none⟩ (.slice ab nb cb)).setCell ⟨r, 1, none⟩ (.slice aS nS cS) = wF at HE ⊢
    clear t0 t1 f0 f1 d0 d1
    go_wp2
    exact ret_tpn 2 3 4 r (.string nm) _ _ (.int .i64 y) rfl rfl rfl rfl rfl HE.out.1 HE.out.2.drew
  | false =>
    have HE : Hid _ := do_end H5.out hpf x
    have t0 := H5.out.2.1.c0
    have t1 := H5.out.2.1.c1
    have f0 := H5.out.2.1.fr 0
    have f1 := H5.out.2.1.fr 1
    have d0 := H5.out.2.2.1.c0
    have d1 := H5.out.2.2.1.c1
    clear H5
    go_wp2_with fail
    go_region
    generalize (w5.setCell ⟨r, 0, none⟩ (.slice ab nb cb)).setCell ⟨r, 1, none⟩ (.slice aS nS cS) = wF at HE ⊢
    clear t0 t1 f0 f1 d0 d1
    go_wp2
    exact ret_tpn 2 3 4 r (.string nm) _ _ (.int .i64 x) rfl rfl rfl rfl rfl HE.out.1 HE.out.2.drew

theorem flat_le64 {S : List ByteArray} (hs : ∀ t ∈ S, t.size ≤ 64) : (S.map (·.data.toList)).flatten.length ≤ S.length * 64 := by
  induction S with
  | nil => simp
  | cons a r ih =>
    have htl := LV.toList_len a
    have ha := hs a (by simp)
    have := ih (fun t ht => hs t (by simp [ht]))
    simp only [List.map_cons, List.flatten_cons, List.length_append, List.length_cons]
    omega
theorem pxT_size64 {B : List Le} {S : List ByteArray} {x : Int} (hs : ∀ t ∈ S, t.size ≤ 64) (h8 : S.length ≤ 40) : (pxT B S x).size ≤ 1000000 := by
  unfold pxT
  split
  · have h1 := lvT_le B
    have h2 := flat_le64 hs
    have h3 := M.varL_len S.length
    unfold joinT
    rw [ByteArray.size_append, ByteArray.size_append]
    show (lvT B).size + (M.varL S.length).length + (S.map (·.data.toList)).flatten.length ≤ _
    omega
  · show (0 : Nat) ≤ _
    omega

def DrP (w : World) (e : Ending) (w' : World) : Prop := ∃ (t : ByteArray) (x : Int), e = .returned (.tuple #[.string t, .int .i64 x]) ∧ t.size ≤ 1048576 ∧ Below w.heap.size w w'
set_option maxRecDepth 100000 in
set_option maxHeartbeats 4000000 in
theorem DrawReadProof_any (w : World) (v : Value) (hc : Code w.heap.size w v) :
    Calls Tryz.prog 16 #[v] w (DrP w) := by
  have HC : Hid (∀ W, Below w.heap.size w W → Code W.heap.size W v) := fun W hW => code_laterR hc hW
  go_enter Tryz.func16, Tryz.ntmps16
  go_wp2_with fail
  refine (l01New_in w v hc).mono ?_
  rintro e w1 ⟨g, rfl, hc1, hb1⟩
  go_wp2_with fail
  refine (l01Below_in w.heap.size w _ g v 4 4 rfl hc1 (by omega) (by omega)).mono ?_
  rintro e w2 ⟨k, hk, rfl, hc2, hg2⟩
  clear hc hc1 hb1 hg2
  go_wp2_with fail
  refine (DrawProofOk_any w2 v (HC.out _ hc2.2.1)).mono ?_
  rintro e w3 ⟨nm, vb, vs, gb, gs, B, S, x, rfl, hpf, hrb, hss, hb3⟩
  obtain ⟨ab, nb, cb, rfl⟩ : ∃ a n c, vb = .slice a n c := by obtain ⟨a, c, e⟩ := hrb.shape; exact ⟨a, _, c, e⟩
  obtain ⟨aS, nS, cS, rfl⟩ : ∃ a n c, vs = .slice a n c := by obtain ⟨a, c, e, _⟩ := hss; exact ⟨a, _, c, e⟩
  have hpn := PfM.new w3 (.slice none 0 0) (.slice none 0 0)
  have hbx : Below w3.heap.size w3 ((w3.alloc (.cells #[.slice none 0 0, .slice none 0 0] 43)).setRow w3.heap.size #[.slice ab nb cb, .slice aS nS cS]) := below_setRow ((Below.refl _ _).alloc (Nat.le_refl _) _) (Nat.le_refl _)
  have HS : Hid (Cur w.heap.size w ((w3.alloc (.cells #[.slice none 0 0, .slice none 0 0] 43)).setRow w3.heap.size #[.slice ab nb cb, .slice aS nS cS]) g v ∧ RS 2 lcs ((w3.alloc (.cells #[.slice none 0 0, .slice none 0 0] 43)).setRow w3.heap.size #[.slice ab nb cb, .slice aS nS cS]) (.slice ab nb cb) gb 0 B ∧ SS ((w3.alloc (.cells #[.slice none 0 0, .slice none 0 0] 43)).setRow w3.heap.size #[.slice ab nb cb, .slice aS nS cS]) (.slice aS nS cS) gs 0 S) := by
    have hc3 := hc2.kept (grown_below (row := none) hb3) (by simp) hc2.size (fun k hk => by cases hk)
    exact ⟨hc3.kept (grown_below (row := none) hbx) (by simp) hc3.size (fun k hk => by cases hk), hrb.later hbx, hss.below hbx hss.lt⟩
  have hTs : (pxT B S x).size ≤ 1000000 := pxT_size64 hpf.2.2.2 hpf.2.2.1
  have hsm := hpf.2.1.1
  clear hb3 hc2 hrb hss hbx HC hpf
  go_wp2_with (first | (refine wp_loadPf rfl _ rfl w3.heap.size _ _ rfl hfin ?_) | (refine wp_storePf rfl _ _ rfl w3.heap.size _ _ (.slice ab nb cb) (.slice aS nS cS) hpn rfl rfl rfl rfl ?_; intro hfin))
  clear hpn hfin
  generalize (w3.alloc (.cells #[.slice none 0 0, .slice none 0 0] 43)).setRow w3.heap.size #[.slice ab nb cb, .slice aS nS cS] = w4 at HS ⊢
  refine (sProofText_any _ _ gb 0 gs 0 B S x _ HS.out.2.1 hsm HS.out.2.2).mono ?_
  rintro e w5 ⟨rfl, hb5⟩
  have H5 : Hid (Cur w.heap.size w w5 g v) := HS.out.1.kept (grown_below (row := none) hb5) (by simp) HS.out.1.size (fun k hk => by cases hk)
  generalize pxT B S x = T at *
  generalize pxB B S x = F at *
  clear HS hb5 hsm
  by_cases hk0 : k = 0
  · subst hk0
    go_wp2_with fail
    refine (l02Spoilt_in w.heap.size w _ g v T H5.out (by omega)).mono ?_
    rintro e w6 ⟨y, rfl, hy, hc6, hg6⟩
    go_wp2
    go_ret2
    exact ⟨_, _, rfl, by omega, hc6.2.1⟩
  · have hk1 : ¬ (k : Int) = 0 := by omega
    go_wp2
    go_ret2
    exact ⟨_, _, rfl, by omega, H5.out.2.1⟩

theorem ret_tppn {fn : Func} {Rp : Ending → World → Prop} {a : Act} {w : World} (s c d q g g' : Nat) (b v1 v2 u1 u2 x : Value) (hres : fn.results = #[.tmp s, .cell c 43, .cell d 43, .tmp q]) (hd : a.defers = []) (hb : a.tmps.getD s undef = b) (hp : a.tmps.getD c undef = .pointer (some ⟨g, 0, none⟩)) (hq : a.tmps.getD d undef = .pointer (some ⟨g', 0, none⟩)) (hx : a.tmps.getD q undef = x)
    (hA : PfM w g v1 v2) (hB : PfM w g' u1 u2) (h : Rp (.returned (.tuple #[b, .agg #[v1, v2], .agg #[u1, u2], x])) w) : bodyPost Tryz.prog fn Rp .ret a w := by
  have hr := load_pf hA
  have hr' := load_pf hB
  refine bodyPost_ret (v := .tuple #[b, .agg #[v1, v2], .agg #[u1, u2], x]) ?_ hd h
  have hp' : a.tmps[c]?.getD undef = .pointer (some ⟨g, 0, none⟩) := by simpa using hp
  have hq' : a.tmps[d]?.getD undef = .pointer (some ⟨g', 0, none⟩) := by simpa using hq
  have hb' : a.tmps[s]?.getD undef = b := by simpa using hb
  have hx' : a.tmps[q]?.getD undef = x := by simpa using hx
  simp [results, hres, asAddr, hr, hr', hp', hq', hb', hx']

/-- two proofs in their boxes, and the answer's two boxes -/
def X2S (w : World) (r gp gq : Nat) (vb vs ub us : Value) (gb gs hb hs : Nat) (B : List Le) (S : List ByteArray) (C : List Le) (T : List ByteArray) (W : World) : Prop :=
  (PfM W r (.slice none 0 0) (.slice none 0 0) ∧ PfM W (r + 1) (.slice none 0 0) (.slice none 0 0) ∧ PfM W gp vb vs ∧ PfM W gq ub us) ∧ (RS 2 lcs W vb gb 0 B ∧ SS W vs gs 0 S ∧ RS 2 lcs W ub hb 0 C ∧ SS W us hs 0 T) ∧ (w.heap.size ≤ r ∧ r + 1 < gp ∧ r + 1 < gq ∧ r + 1 < gb ∧ r + 1 < gs ∧ r + 1 < hb ∧ r + 1 < hs) ∧ Below w.heap.size w W
def X2P (w : World) (e : Ending) (w' : World) : Prop := ∃ (nm : ByteArray) (vb vs ub us : Value) (gb gs hb hs : Nat) (B : List Le) (S : List ByteArray) (C : List Le) (T : List ByteArray) (x : Int), e = .returned (.tuple #[.string nm, .agg #[vb, vs], .agg #[ub, us], .int .i64 x]) ∧ (nm.size ≤ 12 ∧ SmallL B ∧ SmallL C) ∧ RS 2 lcs w' vb gb 0 B ∧ SS w' vs gs 0 S ∧ RS 2 lcs w' ub hb 0 C ∧ SS w' us hs 0 T ∧ Below w.heap.size w w'
theorem X2P.drew {w : World} {e : Ending} {w' : World} (h : X2P w e w') : X2P w e w'.drew := by
  obtain ⟨nm, vb, vs, ub, us, gb, gs, hb, hs, B, S, C, T, x, h1, h2, h3, h4, h5, h6, h7⟩ := h
  exact ⟨nm, vb, vs, ub, us, gb, gs, hb, hs, B, S, C, T, x, h1, h2, h3, h4, h5, h6, h7.drew⟩
theorem x2_end {w W : World} {r gp gq gb gs hb hs : Nat} {vb vs ub us : Value} {B : List Le} {S : List ByteArray} {C : List Le} {T : List ByteArray} (h : X2S w r gp gq vb vs ub us gb gs hb hs B S C T W) {nm : ByteArray} (hn : nm.size ≤ 12 ∧ SmallL B ∧ SmallL C) (x : Int) : PfM ((((W.setCell ⟨r, 0, none⟩ vb).setCell ⟨r, 1, none⟩ vs).setCell ⟨r + 1, 0, none⟩ ub).setCell ⟨r + 1, 1, none⟩ us) r vb vs ∧ PfM ((((W.setCell ⟨r, 0, none⟩ vb).setCell ⟨r, 1, none⟩ vs).setCell ⟨r + 1, 0, none⟩ ub).setCell ⟨r + 1, 1, none⟩ us) (r + 1) ub us ∧ X2P w (.returned (.tuple #[.string nm, .agg #[vb, vs], .agg #[ub, us], .int .i64 x])) ((((W.setCell ⟨r, 0, none⟩ vb).setCell ⟨r, 1, none⟩ vs).setCell ⟨r + 1, 0, none⟩ ub).setCell ⟨r + 1, 1, none⟩ us) := by
  obtain ⟨⟨p1, p2, p3, p4⟩, ⟨h1, h2, h3, h4⟩, ⟨n0, n1, n2, n3, n4, n5, n6⟩, hb0⟩ := h
  have s1 := grown_set W r 0 vb
  have s2 := grown_set (W.setCell ⟨r, 0, none⟩ vb) r 1 vs
  have s3 := grown_set ((W.setCell ⟨r, 0, none⟩ vb).setCell ⟨r, 1, none⟩ vs) (r + 1) 0 ub
  have s4 := grown_set (((W.setCell ⟨r, 0, none⟩ vb).setCell ⟨r, 1, none⟩ vs).setCell ⟨r + 1, 0, none⟩ ub) (r + 1) 1 us
  have b1 := hb0.grown s1 hb0.size (fun k hk => by simp at hk; omega)
  have b2 := b1.grown s2 b1.size (fun k hk => by simp at hk; omega)
  have b3 := b2.grown s3 b2.size (fun k hk => by simp at hk; omega)
  have b4 := b3.grown s4 b3.size (fun k hk => by simp at hk; omega)
  have q1 := (p1.set0 vb).set1 vs
  have q2 := (((p2.gr s1 (by simp)).gr s2 (by simp)).set0 ub).set1 us
  have f1 := (((h1.grown s1 (fun _ => by simp; omega)).grown s2 (fun _ => by simp; omega)).grown s3 (fun _ => by simp; omega)).grown s4 (fun _ => by simp; omega)
  have f2 := (((h2.grown s1 (fun _ => by simp; omega)).grown s2 (fun _ => by simp; omega)).grown s3 (fun _ => by simp; omega)).grown s4 (fun _ => by simp; omega)
  have f3 := (((h3.grown s1 (fun _ => by simp; omega)).grown s2 (fun _ => by simp; omega)).grown s3 (fun _ => by simp; omega)).grown s4 (fun _ => by simp; omega)
  have f4 := (((h4.grown s1 (fun _ => by simp; omega)).grown s2 (fun _ => by simp; omega)).grown s3 (fun _ => by simp; omega)).grown s4 (fun _ => by simp; omega)
  exact ⟨(q1.gr s3 (by simp)).gr s4 (by simp), q2, nm, vb, vs, ub, us, gb, gs, hb, hs, B, S, C, T, x, rfl, hn, f1, f2, f3, f4, b4⟩

theorem X2S.drawn {w W W' : World} {r gp gq gb gs hb hs g : Nat} {vb vs ub us : Value} {B : List Le} {S : List ByteArray} {C : List Le} {T : List ByteArray} (h : X2S w r gp gq vb vs ub us gb gs hb hs B S C T W) (hg : W.grownBy W' (some g)) (n1 : r + 1 < g) (n2 : g < gp ∧ g < gq ∧ g < gb ∧ g < gs ∧ g < hb ∧ g < hs) : X2S w r gp gq vb vs ub us gb gs hb hs B S C T W' := by
  obtain ⟨⟨p1, p2, p3, p4⟩, ⟨h1, h2, h3, h4⟩, hn, hb0⟩ := h
  have hn' := hn
  obtain ⟨m0, m1, m2, m3, m4, m5, m6⟩ := hn'
  obtain ⟨k1, k2, k3, k4, k5, k6⟩ := n2
  exact ⟨⟨p1.gr hg (by simp; omega), p2.gr hg (by simp; omega), p3.gr hg (by simp; omega), p4.gr hg (by simp; omega)⟩, ⟨h1.grown hg (fun _ => by simp; omega), h2.grown hg (fun _ => by simp; omega), h3.grown hg (fun _ => by simp; omega), h4.grown hg (fun _ => by simp; omega)⟩, hn, hb0.grown hg hb0.size (fun k hk => by simp at hk; omega)⟩
theorem X2S.same {w W : World} {r gp gq gb gs hb hs : Nat} {vb vs ub us : Value} {B : List Le} {S : List ByteArray} {C : List Le} {T : List ByteArray} (h : X2S w r gp gq vb vs ub us gb gs hb hs B S C T W) (hf : PfM (W.setRow gq #[vb, vs]) gq vb vs) (n1 : gp ≠ gq) (n2 : 0 < B.length → gb < gq) (n3 : 0 < S.length → gs < gq) : X2S w r gp gq vb vs vb vs gb gs gb gs B S B S (W.setRow gq #[vb, vs]) := by
  obtain ⟨⟨p1, p2, p3, p4⟩, ⟨h1, h2, h3, h4⟩, ⟨m0, m1, m2, m3, m4, m5, m6⟩, hb0⟩ := h
  have hg := grown_setRowP W gq #[vb, vs]
  have f1 := h1.grown hg (fun h0 => by have := n2 h0; simp; omega)
  have f2 := h2.grown hg (fun h0 => by have := n3 h0; simp; omega)
  exact ⟨⟨p1.gr hg (by simp; omega), p2.gr hg (by simp; omega), p3.gr hg (by simp; omega), hf⟩, ⟨f1, f2, f1, f2⟩, ⟨m0, m1, m2, m3, m4, m3, m4⟩, hb0.grown hg hb0.size (fun k hk => by simp at hk; omega)⟩
theorem RS.ltL {W : World} {v : Value} {g : Nat} {l : List Le} (h : RS 2 lcs W v g 0 l) : 0 < l.length → g < W.heap.size := by
  obtain ⟨_, _, _, _, hx, _⟩ := h
  exact fun h0 => (hx h0).2

set_option maxRecDepth 100000 in
set_option maxHeartbeats 4000000 in
theorem DrawExtractTwo_any (w : World) (v : Value) (hc : Code w.heap.size w v) :
    Calls Tryz.prog 19 #[v] w (X2P w) := by
  have hba : Below w.heap.size w ((w.alloc (.cells #[.slice none 0 0, .slice none 0 0] 43)).alloc (.cells #[.slice none 0 0, .slice none 0 0] 43)) := ((Below.refl _ _).alloc (Nat.le_refl _) _).alloc (by simp) _
  have HC : Hid (Code ((w.alloc (.cells #[.slice none 0 0, .slice none 0 0] 43)).alloc (.cells #[.slice none 0 0, .slice none 0 0] 43)).heap.size ((w.alloc (.cells #[.slice none 0 0, .slice none 0 0] 43)).alloc (.cells #[.slice none 0 0, .slice none 0 0] 43)) v) := code_laterR hc hba
  have hp1 : PfM ((w.alloc (.cells #[.slice none 0 0, .slice none 0 0] 43)).alloc (.cells #[.slice none 0 0, .slice none 0 0] 43)) w.heap.size (.slice none 0 0) (.slice none 0 0) := (PfM.new w _ _).later ((Below.refl _ _).alloc (Nat.le_refl _) _)
  have hp2 : PfM ((w.alloc (.cells #[.slice none 0 0, .slice none 0 0] 43)).alloc (.cells #[.slice none 0 0, .slice none 0 0] 43)) (w.heap.size + 1) (.slice none 0 0) (.slice none 0 0) := by
    have h := PfM.new (w.alloc (.cells #[.slice none 0 0, .slice none 0 0] 43)) (.slice none 0 0) (.slice none 0 0)
    rw [World.size_alloc] at h
    exact h
  have hsz : ((w.alloc (.cells #[.slice none 0 0, .slice none 0 0] 43)).alloc (.cells #[.slice none 0 0, .slice none 0 0] 43)).heap.size = w.heap.size + 2 := by simp
  clear hc
  go_enter Tryz.func19, Tryz.ntmps19
  go_wp2_with fail
  generalize (w.alloc (.cells #[.slice none 0 0, .slice none 0 0] 43)).alloc (.cells #[.slice none 0 0, .slice none 0 0] 43) = wS at *
  obtain ⟨r, hr⟩ : ∃ r, w.heap.size = r := ⟨_, rfl⟩
  rw [hr] at hp1 hp2 ⊢
  refine (l01New_in wS v HC.out).mono ?_
  rintro e w1 ⟨g, rfl, hc1, hb1⟩
  go_wp2_with fail
  refine (l01Once_in wS.heap.size wS _ g v 2 2 rfl hc1 (by omega) (by omega)).mono ?_
  rintro e w2 ⟨b, rfl, hc2, hg2⟩
  clear hc1 hb1 hg2 HC
  cases b with
  | true =>
    go_wp2_with fail
    refine (l11Forged_in wS.heap.size wS w2 g v hc2).mono ?_
    rintro e w3 ⟨nm, vb, vs, ub, us, gb, gs, hb, hs, B, C, S, rfl, h2, h3, h4, h5, h6, h7, h8, h9, ⟨z1, z2, z3, z4⟩, h10⟩
    obtain ⟨ab, nb, cb, rfl⟩ : ∃ a n c, vb = .slice a n c := by obtain ⟨a, c, e⟩ := h6.shape; exact ⟨a, _, c, e⟩
    obtain ⟨aS, nS, cS, rfl⟩ : ∃ a n c, vs = .slice a n c := by obtain ⟨a, c, e, _⟩ := h7; exact ⟨a, _, c, e⟩
    obtain ⟨xb, mb, yb, rfl⟩ : ∃ a n c, ub = .slice a n c := by obtain ⟨a, c, e⟩ := h8.shape; exact ⟨a, _, c, e⟩
    obtain ⟨xS, mS, yS, rfl⟩ : ∃ a n c, us = .slice a n c := by obtain ⟨a, c, e, _⟩ := h9; exact ⟨a, _, c, e⟩
    have hsm : nm.size ≤ 12 ∧ SmallL B ∧ SmallL C := ⟨h2.2, fun f hf => by have := leB_size (h3.1.2.1 f hf); omega, fun f hf => by have := leB_size (h4.1.2.1 f hf); omega⟩
    have q1 : PfM ((w3.alloc (.cells #[.slice none 0 0, .slice none 0 0] 43)).alloc (.cells #[.slice none 0 0, .slice none 0 0] 43)) w3.heap.size (.slice none 0 0) (.slice none 0 0) := (PfM.new w3 _ _).later ((Below.refl _ _).alloc (Nat.le_refl _) _)
    have q2 : PfM ((w3.alloc (.cells #[.slice none 0 0, .slice none 0 0] 43)).alloc (.cells #[.slice none 0 0, .slice none 0 0] 43)) (w3.heap.size + 1) (.slice none 0 0) (.slice none 0 0) := by
      have h := PfM.new (w3.alloc (.cells #[.slice none 0 0, .slice none 0 0] 43)) (.slice none 0 0) (.slice none 0 0)
      rw [World.size_alloc] at h
      exact h
    have q3 : PfM (((w3.alloc (.cells #[.slice none 0 0, .slice none 0 0] 43)).alloc (.cells #[.slice none 0 0, .slice none 0 0] 43)).setRow w3.heap.size #[.slice ab nb cb, .slice aS nS cS]) (w3.heap.size + 1) (.slice none 0 0) (.slice none 0 0) := q2.gr (grown_setRowP _ w3.heap.size _) (by simp)
    have hbx : Below w3.heap.size w3 ((((w3.alloc (.cells #[.slice none 0 0, .slice none 0 0] 43)).alloc (.cells #[.slice none 0 0, .slice none 0 0] 43)).setRow w3.heap.size #[.slice ab nb cb, .slice aS nS cS]).setRow (w3.heap.size + 1) #[.slice xb mb yb, .slice xS mS yS]) := below_setRow (below_setRow (((Below.refl _ _).alloc (Nat.le_refl _) _).alloc (by simp) _) (Nat.le_refl _)) (by omega)
    have HM : Hid (∀ (hf1 : PfM ((((w3.alloc (.cells #[.slice none 0 0, .slice none 0 0] 43)).alloc (.cells #[.slice none 0 0, .slice none 0 0] 43)).setRow w3.heap.size #[.slice ab nb cb, .slice aS nS cS]).setRow (w3.heap.size + 1) #[.slice xb mb yb, .slice xS mS yS]) w3.heap.size (.slice ab nb cb) (.slice aS nS cS)) (hf2 : PfM ((((w3.alloc (.cells #[.slice none 0 0, .slice none 0 0] 43)).alloc (.cells #[.slice none 0 0, .slice none 0 0] 43)).setRow w3.heap.size #[.slice ab nb cb, .slice aS nS cS]).setRow (w3.heap.size + 1) #[.slice xb mb yb, .slice xS mS yS]) (w3.heap.size + 1) (.slice xb mb yb) (.slice xS mS yS)), X2S w r w3.heap.size (w3.heap.size + 1) (.slice ab nb cb) (.slice aS nS cS) (.slice xb mb yb) (.slice xS mS yS) gb gs hb hs B S C S ((((w3.alloc (.cells #[.slice none 0 0, .slice none 0 0] 43)).alloc (.cells #[.slice none 0 0, .slice none 0 0] 43)).setRow w3.heap.size #[.slice ab nb cb, .slice aS nS cS]).setRow (w3.heap.size + 1) #[.slice xb mb yb, .slice xS mS yS])) := fun hf1 hf2 => by
      have hz := h10.size
      exact ⟨⟨(hp1.later h10).later hbx, (hp2.later h10).later hbx, hf1, hf2⟩, ⟨h6.later hbx, h7.below hbx h7.lt, h8.later hbx, h9.below hbx h9.lt⟩, ⟨by omega, by omega, by omega, by omega, by omega, by omega, by omega⟩, (hba.trans (h10.mono (by omega))).trans (hbx.mono (by omega))⟩
    clear h3 h4 h5 h6 h7 h8 h9 z1 z2 z3 z4 h10 q2 hp1 hp2 hbx hc2
    go_wp2_with (first | (refine wp_storePf rfl _ _ rfl w3.heap.size _ _ (.slice ab nb cb) (.slice aS nS cS) q1 rfl rfl rfl rfl ?_; intro hf1) | (refine wp_storePf rfl _ _ rfl (w3.heap.size + 1) _ _ (.slice xb mb yb) (.slice xS mS yS) q3 rfl rfl rfl rfl ?_; intro hf2))
    have HI : Hid (X2S w r w3.heap.size (w3.heap.size + 1) (.slice ab nb cb) (.slice aS nS cS) (.slice xb mb yb) (.slice xS mS yS) gb gs hb hs B S C S ((((w3.alloc (.cells #[.slice none 0 0, .slice none 0 0] 43)).alloc (.cells #[.slice none 0 0, .slice none 0 0] 43)).setRow w3.heap.size #[.slice ab nb cb, .slice aS nS cS]).setRow (w3.heap.size + 1) #[.slice xb mb yb, .slice xS mS yS])) := HM.out (hf1.gr (grown_setRowP _ _ _) (by simp)) hf2
    obtain ⟨gp, hgp⟩ : ∃ gp, w3.heap.size = gp := ⟨_, rfl⟩
    rw [hgp] at HI ⊢
    clear HM q1 q3 hf1 hf2
    generalize (((w3.alloc (.cells #[.slice none 0 0, .slice none 0 0] 43)).alloc (.cells #[.slice none 0 0, .slice none 0 0] 43)).setRow gp #[.slice ab nb cb, .slice aS nS cS]).setRow (gp + 1) #[.slice xb mb yb, .slice xS mS yS] = w4 at HI ⊢
    obtain ⟨gq, hgq⟩ : ∃ gq, gp + 1 = gq := ⟨_, rfl⟩
    rw [hgq] at HI ⊢
    clear hgp hgq
    have HE : Hid _ := x2_end HI.out hsm 1
    have t0 := HI.out.1.1.c0
    have t1 := HI.out.1.1.c1
    have t2 := HI.out.1.2.1.c0
    have t3 := HI.out.1.2.1.c1
    have f0 := HI.out.1.1.fr 0
    have f1 := HI.out.1.1.fr 1
    have f2 := HI.out.1.2.1.fr 0
    have f3 := HI.out.1.2.1.fr 1
    have d0 := HI.out.1.2.2.1.c0
    have d1 := HI.out.1.2.2.1.c1
    have d2 := HI.out.1.2.2.2.c0
    have d3 := HI.out.1.2.2.2.c1
    have e1 : gp ≠ r := by have := HI.out.2.2.1; omega
    have e2 : gp ≠ r + 1 := by have := HI.out.2.2.1; omega
    have e3 : gq ≠ r := by have := HI.out.2.2.1; omega
    have e4 : gq ≠ r + 1 := by have := HI.out.2.2.1; omega
    clear HI
    go_wp2_with fail
    go_region
    all_goals generalize (((w4.setCell ⟨r, 0, none⟩ (.slice ab nb cb)).setCell ⟨r, 1, none⟩ (.slice aS nS cS)).setCell ⟨r + 1, 0, none⟩ (.slice xb mb yb)).setCell ⟨r + 1, 1, none⟩ (.slice xS mS yS) = wF at HE ⊢
    all_goals clear t0 t1 t2 t3 f0 f1 f2 f3 d0 d1 d2 d3
    all_goals (try go_wp2)
    all_goals exact ret_tppn 2 3 4 5 r (r + 1) (.string nm) _ _ _ _ (.int .i64 1) rfl rfl rfl rfl rfl rfl HE.out.1 HE.out.2.1 HE.out.2.2.drew
  | false =>
    go_wp2_with fail
    refine (l11Any_in wS.heap.size wS w2 g v 2 (by omega) hc2).mono ?_
    rintro e w3 ⟨nm, vb, vs, gb, gs, B, S, rfl, hpf, hrb, hss, ⟨hgb, hgs⟩, hc3, hg3⟩
    obtain ⟨ab, nb, cb, rfl⟩ : ∃ a n c, vb = .slice a n c := by obtain ⟨a, c, e⟩ := hrb.shape; exact ⟨a, _, c, e⟩
    obtain ⟨aS, nS, cS, rfl⟩ : ∃ a n c, vs = .slice a n c := by obtain ⟨a, c, e, _⟩ := hss; exact ⟨a, _, c, e⟩
    have hpn := PfM.new w3 (.slice none 0 0) (.slice none 0 0)
    have hbx : Below w3.heap.size w3 ((w3.alloc (.cells #[.slice none 0 0, .slice none 0 0] 43)).setRow w3.heap.size #[.slice ab nb cb, .slice aS nS cS]) := below_setRow ((Below.refl _ _).alloc (Nat.le_refl _) _) (Nat.le_refl _)
    have HQ : Hid (Cur wS.heap.size wS ((w3.alloc (.cells #[.slice none 0 0, .slice none 0 0] 43)).setRow w3.heap.size #[.slice ab nb cb, .slice aS nS cS]) g v ∧ RS 2 lcs ((w3.alloc (.cells #[.slice none 0 0, .slice none 0 0] 43)).setRow w3.heap.size #[.slice ab nb cb, .slice aS nS cS]) (.slice ab nb cb) gb 0 B ∧ SS ((w3.alloc (.cells #[.slice none 0 0, .slice none 0 0] 43)).setRow w3.heap.size #[.slice ab nb cb, .slice aS nS cS]) (.slice aS nS cS) gs 0 S) := ⟨hc3.kept (grown_below (row := none) hbx) (by simp) hc3.size (fun k hk => by cases hk), hrb.later hbx, hss.below hbx hss.lt⟩
    have hgp3 := hc3.lt
    clear hc2 hc3 hg3 hrb hss hbx
    go_wp2_with (refine wp_storePf rfl _ _ rfl w3.heap.size _ _ (.slice ab nb cb) (.slice aS nS cS) hpn rfl rfl rfl rfl ?_; intro hfin)
    obtain ⟨gp, hgp⟩ : ∃ gp, w3.heap.size = gp := ⟨_, rfl⟩
    rw [hgp] at HQ hfin hgp3 ⊢
    clear hpn hgp
    generalize (w3.alloc (.cells #[.slice none 0 0, .slice none 0 0] 43)).setRow gp #[.slice ab nb cb, .slice aS nS cS] = w4 at HQ hfin ⊢
    refine (l11Any_in wS.heap.size wS w4 g v 2 (by omega) HQ.out.1).mono ?_
    rintro e w5 ⟨nn, ub, us, hb, hs, C, T, rfl, hpg, hrc, hsu, ⟨hhb, hhs⟩, hc5, hg5⟩
    obtain ⟨xb, mb, yb, rfl⟩ : ∃ a n c, ub = .slice a n c := by obtain ⟨a, c, e⟩ := hrc.shape; exact ⟨a, _, c, e⟩
    obtain ⟨xS, mS, yS, rfl⟩ : ∃ a n c, us = .slice a n c := by obtain ⟨a, c, e, _⟩ := hsu; exact ⟨a, _, c, e⟩
    have p5 := hfin.gr hg5 (by simp; omega)
    have r5 := HQ.out.2.1.grown hg5 (fun _ => by simp; omega)
    have s5 := HQ.out.2.2.grown hg5 (fun _ => by simp; omega)
    have hgB := hc5.1
    have hpm := PfM.new w5 (.slice none 0 0) (.slice none 0 0)
    have hby : Below w5.heap.size w5 ((w5.alloc (.cells #[.slice none 0 0, .slice none 0 0] 43)).setRow w5.heap.size #[.slice xb mb yb, .slice xS mS yS]) := below_setRow ((Below.refl _ _).alloc (Nat.le_refl _) _) (Nat.le_refl _)
    have HM : Hid (∀ (hf : PfM ((w5.alloc (.cells #[.slice none 0 0, .slice none 0 0] 43)).setRow w5.heap.size #[.slice xb mb yb, .slice xS mS yS]) w5.heap.size (.slice xb mb yb) (.slice xS mS yS)), Cur wS.heap.size wS ((w5.alloc (.cells #[.slice none 0 0, .slice none 0 0] 43)).setRow w5.heap.size #[.slice xb mb yb, .slice xS mS yS]) g v ∧ X2S w r gp w5.heap.size (.slice ab nb cb) (.slice aS nS cS) (.slice xb mb yb) (.slice xS mS yS) gb gs hb hs B S C T ((w5.alloc (.cells #[.slice none 0 0, .slice none 0 0] 43)).setRow w5.heap.size #[.slice xb mb yb, .slice xS mS yS]) ∧ (0 < B.length → gb < w5.heap.size) ∧ (0 < S.length → gs < w5.heap.size) ∧ gp < w5.heap.size) := fun hf => by
      have h10 := hc5.2.1
      have hz := h10.size
      have hlt5 := hc5.lt
      exact ⟨hc5.kept (grown_below (row := none) hby) (by simp) hc5.size (fun k hk => by cases hk), ⟨⟨(hp1.later h10).later hby, (hp2.later h10).later hby, p5.later hby, hf⟩, ⟨r5.later hby, s5.below hby s5.lt, hrc.later hby, hsu.below hby hsu.lt⟩, ⟨by omega, by omega, by omega, by omega, by omega, by omega, by omega⟩, (hba.trans (h10.mono (by omega))).trans (hby.mono (by omega))⟩, r5.ltL, s5.lt, p5.lt⟩
    have hg7 : r + 1 < g ∧ g < gp := by omega
    have hlt5 := hc5.lt
    clear HQ hfin hp1 hp2 hrc hsu hc5 hg5 p5 r5 s5 hby
    go_wp2_with (refine wp_storePf rfl _ _ rfl w5.heap.size _ _ (.slice xb mb yb) (.slice xS mS yS) hpm rfl rfl rfl rfl ?_; intro hf2)
    have HI : Hid (Cur wS.heap.size wS ((w5.alloc (.cells #[.slice none 0 0, .slice none 0 0] 43)).setRow w5.heap.size #[.slice xb mb yb, .slice xS mS yS]) g v ∧ X2S w r gp w5.heap.size (.slice ab nb cb) (.slice aS nS cS) (.slice xb mb yb) (.slice xS mS yS) gb gs hb hs B S C T ((w5.alloc (.cells #[.slice none 0 0, .slice none 0 0] 43)).setRow w5.heap.size #[.slice xb mb yb, .slice xS mS yS]) ∧ (0 < B.length → gb < w5.heap.size) ∧ (0 < S.length → gs < w5.heap.size) ∧ gp < w5.heap.size) := HM.out hf2
    obtain ⟨gq, hgq⟩ : ∃ gq, w5.heap.size = gq := ⟨_, rfl⟩
    rw [hgq] at HI hlt5 ⊢
    clear HM hpm hf2 hgq
    generalize (w5.alloc (.cells #[.slice none 0 0, .slice none 0 0] 43)).setRow gq #[.slice xb mb yb, .slice xS mS yS] = w6 at HI ⊢
    refine (l01Once_in wS.heap.size wS _ g v 2 2 rfl HI.out.1 (by omega) (by omega)).mono ?_
    rintro e w7 ⟨b, rfl, hc7, hgw7⟩
    have H7 : Hid (X2S w r gp gq (.slice ab nb cb) (.slice aS nS cS) (.slice xb mb yb) (.slice xS mS yS) gb gs hb hs B S C T w7) := HI.out.2.1.drawn hgw7 hg7.1 ⟨hg7.2, hlt5, hgb, hgs, hhb, hhs⟩
    have HN : Hid ((0 < B.length → gb < gq) ∧ (0 < S.length → gs < gq) ∧ gp < gq) := HI.out.2.2
    clear HI hc7 hgw7
    have hsm1 := hpf.1
    have hsm2 := hpf.2.1.1
    have hsm3 := hpg.2.1.1
    cases b with
    | true =>
      have p7 := H7.out.1.2.2.1
      have q7 := H7.out.1.2.2.2
      go_wp2_with (first | (refine wp_loadPf rfl _ rfl gp _ _ rfl p7 ?_) | (refine wp_storePf rfl _ _ rfl gq _ _ (.slice ab nb cb) (.slice aS nS cS) q7 rfl rfl rfl rfl ?_; intro hf7; have H8 : Hid (X2S w r gp gq (.slice ab nb cb) (.slice aS nS cS) (.slice ab nb cb) (.slice aS nS cS) gb gs gb gs B S B S (w7.setRow gq #[.slice ab nb cb, .slice aS nS cS])) := H7.out.same hf7 (by have := HN.out.2.2; omega) HN.out.1 HN.out.2.1; generalize w7.setRow gq #[.slice ab nb cb, .slice aS nS cS] = w8 at H8 hf7 ⊢))
      clear p7 q7 hf7 H7 HN
      have HE : Hid _ := x2_end H8.out ⟨hsm1, hsm2, hsm2⟩ 2
      have t0 := H8.out.1.1.c0
      have t1 := H8.out.1.1.c1
      have t2 := H8.out.1.2.1.c0
      have t3 := H8.out.1.2.1.c1
      have f0 := H8.out.1.1.fr 0
      have f1 := H8.out.1.1.fr 1
      have f2 := H8.out.1.2.1.fr 0
      have f3 := H8.out.1.2.1.fr 1
      have d0 := H8.out.1.2.2.1.c0
      have d1 := H8.out.1.2.2.1.c1
      have d2 := H8.out.1.2.2.2.c0
      have d3 := H8.out.1.2.2.2.c1
      have e1 : gp ≠ r := by have := H8.out.2.2.1; omega
      have e2 : gp ≠ r + 1 := by have := H8.out.2.2.1; omega
      have e3 : gq ≠ r := by have := H8.out.2.2.1; omega
      have e4 : gq ≠ r + 1 := by have := H8.out.2.2.1; omega
      clear H8
      try go_wp2_with fail
      go_region
      all_goals generalize (((w8.setCell ⟨r, 0, none⟩ (.slice ab nb cb)).setCell ⟨r, 1, none⟩ (.slice aS nS cS)).setCell ⟨r + 1, 0, none⟩ (.slice ab nb cb)).setCell ⟨r + 1, 1, none⟩ (.slice aS nS cS) = wF at HE ⊢
      all_goals clear t0 t1 t2 t3 f0 f1 f2 f3 d0 d1 d2 d3
      all_goals (try go_wp2)
      all_goals exact ret_tppn 2 3 4 5 r (r + 1) (.string nm) _ _ _ _ (.int .i64 2) rfl rfl rfl rfl rfl rfl HE.out.1 HE.out.2.1 HE.out.2.2.drew
    | false =>
      clear HN
      have HE : Hid _ := x2_end H7.out ⟨hsm1, hsm2, hsm3⟩ 2
      have t0 := H7.out.1.1.c0
      have t1 := H7.out.1.1.c1
      have t2 := H7.out.1.2.1.c0
      have t3 := H7.out.1.2.1.c1
      have f0 := H7.out.1.1.fr 0
      have f1 := H7.out.1.1.fr 1
      have f2 := H7.out.1.2.1.fr 0
      have f3 := H7.out.1.2.1.fr 1
      have d0 := H7.out.1.2.2.1.c0
      have d1 := H7.out.1.2.2.1.c1
      have d2 := H7.out.1.2.2.2.c0
      have d3 := H7.out.1.2.2.2.c1
      have e1 : gp ≠ r := by have := H7.out.2.2.1; omega
      have e2 : gp ≠ r + 1 := by have := H7.out.2.2.1; omega
      have e3 : gq ≠ r := by have := H7.out.2.2.1; omega
      have e4 : gq ≠ r + 1 := by have := H7.out.2.2.1; omega
      clear H7
      go_wp2_with fail
      go_region
      all_goals generalize (((w7.setCell ⟨r, 0, none⟩ (.slice ab nb cb)).setCell ⟨r, 1, none⟩ (.slice aS nS cS)).setCell ⟨r + 1, 0, none⟩ (.slice xb mb yb)).setCell ⟨r + 1, 1, none⟩ (.slice xS mS yS) = wF at HE ⊢
      all_goals clear t0 t1 t2 t3 f0 f1 f2 f3 d0 d1 d2 d3
      all_goals (try go_wp2)
      all_goals exact ret_tppn 2 3 4 5 r (r + 1) (.string nm) _ _ _ _ (.int .i64 2) rfl rfl rfl rfl rfl rfl HE.out.1 HE.out.2.1 HE.out.2.2.drew

end Go.Proofs.YtmcejkfknbjjkaaGreatDoor
