/-
  What DrawCutActs draws; what acts leave; the walk of the law FnActs.
-/
import Derived.Test.YtbmlphlknolieaaCw
import Derived.Test.YtbmlphlknolieaaKn
namespace Go.Proofs.Ytbmlphlknolieaa
open Go.RowKit Go.BigFrame Go.Sort
set_option linter.unusedVariables false
set_option linter.unusedSimpArgs false

section
variable {fn : Func} {a : Act} {w : World} {Rp : Ending → World → Prop}
theorem ret_rec4 (c s1 s2 s3 g T : Nat) (cs : List Value) (b1 b2 b3 : Value) (d : TypeDesc) (hres : fn.results = #[.cell c T, .tmp s1, .tmp s2, .tmp s3]) (hd : a.defers = []) (hp : a.tmps.getD c undef = .pointer (some ⟨g, 0, none⟩)) (hb1 : a.tmps.getD s1 undef = b1) (hb2 : a.tmps.getD s2 undef = b2) (hb3 : a.tmps.getD s3 undef = b3)
    (hu : Try.prog.underlying T = some d) (hrow : d.isRow = true) (hi : (Try.prog.info? T).map (·.size) = some cs.length) (hA : w.rangeAt g 0 cs) (h : Rp (.returned (.tuple #[.agg cs.toArray, b1, b2, b3])) w) : bodyPost Try.prog fn Rp .ret a w := by
  have hr := run_loadVar_mid (P := Try.prog) w g 0 T cs d hA hu hrow hi
  refine bodyPost_ret (v := .tuple #[.agg cs.toArray, b1, b2, b3]) ?_ hd h
  have hp' : a.tmps[c]?.getD undef = .pointer (some ⟨g, 0, none⟩) := by simpa using hp
  have hb1' : a.tmps[s1]?.getD undef = b1 := by simpa using hb1
  have hb2' : a.tmps[s2]?.getD undef = b2 := by simpa using hb2
  have hb3' : a.tmps[s3]?.getD undef = b3 := by simpa using hb3
  simp [results, hres, asAddr, hr, hp', hb1', hb2', hb3']
end

/-- what is drawn, in a world: the disk's row, the acts, the numbers -/
def Cad (W : World) (a : Option Addr) (c q : Nat) (L : List Fl) (ga ca : Nat) (A : List Ac) (un : Value) (qn : Nat) (N : List Int) : Prop :=
  RS 3 fcs W (.slice a L.length c) q 0 L ∧ SzD L ∧ (a = none ∧ c = 0 ∨ a = some ⟨q, 0, none⟩) ∧ RS 4 acs W (.slice (some ⟨ga, 0, none⟩) A.length ca) ga 0 A ∧ (A.length ≤ 9 ∧ A.length ≤ ca ∧ ShA A) ∧ RS 1 ics W un qn 0 N
def CaA (w : World) (e : Ending) (w' : World) : Prop :=
  ∃ (a : Option Addr) (c q : Nat) (L : List Fl) (ga ca : Nat) (A : List Ac) (x : Int) (un : Value) (qn : Nat) (N : List Int), e = .returned (.tuple #[.agg #[.slice a L.length c], .slice (some ⟨ga, 0, none⟩) A.length ca, .int .i64 x, un]) ∧ Cad w' a c q L ga ca A un qn N ∧ Below w.heap.size w w'
theorem own_acts {W : World} {B ga ca : Nat} {A : List Ac} (h : W.ownsRow B 45 4 (.slice (some ⟨ga, 0, none⟩) A.length ca) A.length (A.flatMap acs)) (hB : B ≤ W.heap.size) (hl : A.length ≤ 9) : RS 4 acs W (.slice (some ⟨ga, 0, none⟩) A.length ca) ga 0 A ∧ A.length ≤ ca ∧ B ≤ ga ∧ ga < W.heap.size := by
  have ho : OR 45 4 acs B W W (.slice (some ⟨ga, 0, none⟩) A.length ca) A := ⟨h, Below.refl _ _, hB⟩
  obtain ⟨q, h1, _, h3⟩ := OR.rw (k := 4) (enc := acs) (fun x => acs_len x) (by omega) ho (by omega)
  have := h3 ga rfl
  subst this
  refine ⟨h1.1, ?_, h.lt ga rfl⟩
  rcases h.2 with ⟨hv, _⟩ | ⟨g', cap, cur, hv, _, _, hc, _⟩
  · simp at hv
  · simp at hv
    omega

set_option maxRecDepth 100000 in
set_option maxHeartbeats 4000000 in
theorem DrawCutActs_any (w : World) (v : Value) (hc : Code w.heap.size w v) :
    Calls Try.prog 21 #[v] w (CaA w) := by
  have hb0 : Below w.heap.size w (w.alloc (.cells #[.slice none 0 0] 26)) := (Below.refl _ _).alloc (Nat.le_refl _) _
  have HC : Hid (Code (w.alloc (.cells #[.slice none 0 0] 26)).heap.size (w.alloc (.cells #[.slice none 0 0] 26)) v) := code_later hc hb0
  have HB : Hid (BD (w.alloc (.cells #[.slice none 0 0] 26)) w.heap.size 26 (.slice none 0 0) ∧ Below w.heap.size w (w.alloc (.cells #[.slice none 0 0] 26))) := ⟨BD.new w _ _, hb0⟩
  clear hc hb0
  go_enter Try.func21, Try.ntmps21
  go_wp2_with fail
  have hs0 : (w.alloc (.cells #[.slice none 0 0] 26)).heap.size = w.heap.size + 1 := by simp
  obtain ⟨V, hV⟩ : ∃ V, w.alloc (.cells #[.slice none 0 0] 26) = V := ⟨_, rfl⟩
  rw [hV] at HC HB hs0 ⊢
  clear hV
  refine (l01New_in V v HC.out).mono ?_
  rintro e w1 ⟨g, rfl, hc1, hb1⟩
  have HC1 : Hid (Cur V.heap.size V w1 g v) := hc1
  clear HC hb1 hc1
  go_wp2_with fail
  refine (l06Disk_in V.heap.size V w1 g v HC1.out).mono ?_
  rintro e w2 ⟨a, c, q, L, rfl, hr2, hq2, hz2, hx2, hc2, hg2⟩
  have hgl := HC1.out.lt
  have hB1 := HC1.out.size
  have hA2 : Below w2.heap.size w2 (w2.alloc (.cells #[.slice a L.length c] 26)) := (Below.refl _ _).alloc (Nat.le_refl _) _
  have hs2 := hg2.size
  have HS2 : Hid (Cur V.heap.size V (w2.alloc (.cells #[.slice a L.length c] 26)) g v ∧ RS 3 fcs (w2.alloc (.cells #[.slice a L.length c] 26)) (.slice a L.length c) q 0 L ∧ BD (w2.alloc (.cells #[.slice a L.length c] 26)) w2.heap.size 26 (.slice a L.length c)) := ⟨hc2.kept (row := none) (grown_below hA2) (by simp) hc2.size (fun k hk => by cases hk), hr2.1.later hA2, BD.new w2 _ _⟩
  have HZ : Hid (SzD L ∧ (a = none ∧ c = 0 ∨ a = some ⟨q, 0, none⟩)) := ⟨hz2, hx2⟩
  have hqg : q ≠ g := by omega
  have hpg : w2.heap.size ≠ g := by omega
  have hpq : V.heap.size ≤ w2.heap.size := by omega
  have hqV : V.heap.size ≤ q := by omega
  clear HC1 hr2 hc2 hg2 hA2 hz2 hx2 hgl hB1 hs2 hq2
  have d2 := HS2.out.2.2.cell
  go_wp2_with fail
  refine (l06Acts_in V.heap.size V _ g v _ q L HS2.out.1 HS2.out.2.1 (fun _ => hqg)).mono ?_
  rintro e w3 ⟨u, A, rfl, ⟨ga, ca, hu⟩, ho3, hl3, hsh3, hc3, hg3⟩
  subst hu
  obtain ⟨hr3, hca3, hga3, hgl3⟩ := own_acts ho3 hg3.size hl3
  have hgg : ga ≠ g := by
    have := HS2.out.1.lt
    omega
  have HS3 : Hid (Cur V.heap.size V w3 g v ∧ RS 3 fcs w3 (.slice a L.length c) q 0 L ∧ BD w3 w2.heap.size 26 (.slice a L.length c) ∧ RS 4 acs w3 (.slice (some ⟨ga, 0, none⟩) A.length ca) ga 0 A) := ⟨hc3, HS2.out.2.1.grown hg3 (fun _ => by simpa using hqg), HS2.out.2.2.grown hg3 (by simpa using hpg), hr3⟩
  have hga9 : w.heap.size < ga := by simp at hga3; omega
  have HW3 : Hid (A.length ≤ 9 ∧ A.length ≤ ca ∧ ShA A) := ⟨hl3, hca3, hsh3⟩
  clear HS2 ho3 hr3 hc3 hg3 d2 hsh3 hga3 hgl3
  have k0 := HS3.out.2.2.1.cell
  obtain ⟨p, hp⟩ : ∃ p, w2.heap.size = p := ⟨_, rfl⟩
  rw [hp] at HS3 k0 hpg hpq
  go_wp2
  clear hp
  have c0 : Cur V.heap.size V w3.drew g v := HS3.out.1.drn 1
  have k1 : w3.drew.cell? ⟨p, 0, none⟩ = some (.slice a L.length c) := k0
  have HR0 : Hid (∀ W, Cur V.heap.size V W g v → BD W w.heap.size 26 (.slice none 0 0)) := fun W hW => HB.out.1.below hW.2.1 (by omega)
  have b0 : BD w3.drew p 26 (.slice a L.length c) := HS3.out.2.2.1
  have t3 := (HR0.out _ c0).cell
  have f3 := (HR0.out _ c0).fr
  have hsz3 := HS3.out.1.size
  have hAl := HW3.out.1
  go_region_with (first
    | (go_at_call 58; refine (l01Place_i _ _ _ g v _ (A.length + 1) (by first | omega | exact wrap_next rfl (by omega)) (by omega) (by omega) c0).mono ?_; rintro e w4 ⟨x4, hx4, rfl, hc4, hg4⟩; have b4 := b0.grown hg4 (by simpa using hpg); have k2 := b4.cell; have t4 := (HR0.out _ hc4).cell; have f4 := (HR0.out _ hc4).fr)
    | (go_at_call 59; refine (l06Left_in _ _ _ g v hc4).mono ?_; rintro e w5 ⟨un, qn, N, rfl, hrn, hqn, hc5, hg5⟩; obtain ⟨xn, cn, hn⟩ := hrn.shape; subst hn; have k3 := (b4.grown hg5 (by simpa using hpg)).cell; have t5 := (HR0.out _ hc5).cell; have f5 := (HR0.out _ hc5).fr))
  all_goals
    have hgg5 : w3.grownBy w5 (some g) := (show w3.grownBy w4 (some g) from ⟨hg4.os, hg4.tape, hg4.output, hg4.size, hg4.block⟩).trans hg5
    have hset := grown_set w5 w.heap.size 0 (.slice a L.length c)
    have hs4 := hg4.size
    have hs4' : w3.heap.size ≤ w4.heap.size := hs4
    have HF : Hid (Cad (w5.setCell ⟨w.heap.size, 0, none⟩ (.slice a L.length c)) a c q L ga ca A (.slice xn N.length cn) qn N ∧ (w5.setCell ⟨w.heap.size, 0, none⟩ (.slice a L.length c)).rangeAt w.heap.size 0 [.slice a L.length c] ∧ Below w.heap.size w (w5.setCell ⟨w.heap.size, 0, none⟩ (.slice a L.length c))) :=
      ⟨⟨(HS3.out.2.1.grown hgg5 (fun _ => by simpa using hqg)).grown hset (fun _ => by simp; omega), HZ.out.1, HZ.out.2, (HS3.out.2.2.2.grown hgg5 (fun _ => by simpa using hgg)).grown hset (fun _ => by simp; omega), HW3.out, hrn.grown hset (fun _ => by simp; omega)⟩, range1 (set_here t5 f5 _), (HB.out.2.trans (hc5.2.1.mono (by omega))).setCell (p := ⟨w.heap.size, 0, none⟩) (by simp) _⟩
    clear k0 k1 k2 k3 t3 t4 t5 f3 f4 f5 b0 b4 c0 hc4 hc5 hg4 hg5 hrn hgg5 hset HS3 HB HR0 HZ HW3
    go_wp2
    refine ret_rec4 2 3 4 5 w.heap.size 26 [.slice a L.length c] _ _ _ _ rfl rfl rfl rfl rfl rfl Try.underlying26 rfl sizeDisk HF.out.2.1 ?_
    exact ⟨a, c, q, L, ga, ca, A, _, _, qn, N, rfl, HF.out.1, HF.out.2.2⟩

end Go.Proofs.Ytbmlphlknolieaa

namespace Go.Proofs.Ytbmlphlknolieaa
open Go.RowKit Go.BigFrame Go.Sort
set_option linter.unusedVariables false

namespace F
theorem find_put (L : List Fl) (f : Fl) : find (put L f) f.n = some f := by
  unfold find put
  rw [List.find?_append, List.find?_eq_none.2 ?_]
  · simp
  · intro g hg
    have h1 := (List.mem_filter.1 hg).2
    have := ltN_ne h1
    simpa using this
theorem find_wout (L : List Fl) (x : ByteArray) : find (wout L x) x = none := by
  unfold find
  rw [List.find?_eq_none]
  intro g hg
  have := (mem_wout.1 hg).2
  simpa using this
theorem act_do {M N : List Fl} {a : Ac} (h : actR M a = some N) : DOk M ∧ doL M a = some N := by
  unfold actR at h
  split at h
  · rename_i hd
    exact ⟨diskB_iff.1 hd, h⟩
  · cases h
theorem act_ok {M N : List Fl} {a : Ac} (h : actR M a = some N) : DOk N := doL_ok (act_do h).1 (act_do h).2
theorem act_add {M N : List Fl} {a : Ac} (h : actR M a = some N) (hk : a.k = 1) : fileO N a.n = true ∧ fileT N a.n = fileT M a.n ++ a.t := by
  have h2 := (act_do h).2
  unfold doL at h2
  split at h2
  · cases h2
  unfold addL at h2
  unfold fileO fileT
  cases hf : find M a.n with
  | none =>
    rw [hf] at h2
    simp only at h2
    split at h2
    · cases h2
    · cases h2
      rw [find_put M ⟨a.n, a.t, 0⟩]
      refine ⟨rfl, ?_⟩
      show a.t = ⟨#[]⟩ ++ a.t
      exact (ByteArray.empty_append).symm
  | some f =>
    rw [hf] at h2
    simp only at h2
    split at h2
    · cases h2
    · cases h2
      rw [find_put M ⟨a.n, f.t ++ a.t, f.k⟩]
      exact ⟨rfl, rfl⟩
theorem act_drop {M N : List Fl} {a : Ac} (h : actR M a = some N) (hk : a.k = 4) : fileO N a.n = false := by
  have h2 := (act_do h).2
  unfold doL at h2
  split at h2
  · cases h2
  rw [if_neg (by omega), if_neg (by omega), if_neg (by omega)] at h2
  unfold dropL at h2
  split at h2
  · cases h2
  · cases h2
    unfold fileO
    rw [find_wout]
    rfl
theorem acts_zero (M : List Fl) (A : List Ac) (h : (actsR M A).2 = 0) : (actsR M A).1 = M := by
  cases A with
  | nil => rfl
  | cons a r =>
    cases hs : actR M a with
    | none => rw [acts_stop hs]
    | some N => rw [acts_step hs] at h; simp at h
theorem acts_pos (M : List Fl) (A : List Ac) (h : 0 < (actsR M A).2) : ∃ (h0 : 0 < A.length) (N : List Fl), actR M A[0] = some N := by
  cases A with
  | nil => simp [actsR] at h
  | cons a r =>
    cases hs : actR M a with
    | none => rw [acts_stop hs] at h; simp at h
    | some N => exact ⟨by simp, N, hs⟩
theorem Acts.more {L M : List Fl} {A : List Ac} {m : Nat} (h : Acts L A m M) (hm : m < (actsR L A).2) : ∃ (h0 : m < A.length) (N : List Fl), actR M A[m] = some N := by
  unfold Acts at h
  rw [h] at hm
  obtain ⟨h0, N, hN⟩ := acts_pos M (A.drop m) (by simp at hm; omega)
  rw [List.length_drop] at h0
  refine ⟨by omega, N, ?_⟩
  rw [List.getElem_drop] at hN
  exact hN
theorem Acts.over {L M : List Fl} {A : List Ac} {m : Nat} (h : Acts L A m M) (hm : m = (actsR L A).2) : (actsR L A).1 = M := by
  unfold Acts at h
  rw [h] at hm ⊢
  exact acts_zero M _ (by simp at hm; omega)
theorem small_ok {M : List Fl} (h : DOk M) : SmallF M := fun f hf => by
  obtain ⟨q1, q2, _, _⟩ := flB_iff.1 (h.2.1 f hf)
  have : 1 ≤ f.n.size ∧ f.n.size ≤ 8 := by simpa [nmB] using q1
  exact ⟨by omega, by omega⟩
end F
theorem small_sz {L : List Fl} (h : SzD L) : SmallF L := fun f hf => ⟨by have := (h.2 f hf).1; omega, by have := (h.2 f hf).2; omega⟩
theorem small_sh {A : List Ac} (h : ShA A) : SmallL A := fun a ha => ⟨by have := (h a ha).1; omega, by have := (h a ha).2.1; omega, by have := (h a ha).2.2; omega⟩

section
variable {W W' : World} {a : Option Addr} {c q : Nat} {L : List Fl} {ga ca : Nat} {A : List Ac} {un : Value} {qn : Nat} {N : List Int}
theorem Cad.later (h : Cad W a c q L ga ca A un qn N) (hb : Below W.heap.size W W') : Cad W' a c q L ga ca A un qn N :=
  ⟨h.1.later hb, h.2.1, h.2.2.1, h.2.2.2.1.later hb, h.2.2.2.2.1, h.2.2.2.2.2.later hb⟩
/-- .. with the box of the disk, and what the acts left in its own -/
def KaB (W : World) (a : Option Addr) (c q : Nat) (L : List Fl) (ga ca : Nat) (A : List Ac) (un : Value) (qn : Nat) (N : List Int) (pd pw : Nat) (sw : Value) (gw : Nat) (R : List Fl) : Prop :=
  Cad W a c q L ga ca A un qn N ∧ BD W pd 26 (.slice a L.length c) ∧ BD W pw 26 sw ∧ RS 3 fcs W sw gw 0 R
theorem KaB.later {pd pw : Nat} {sw : Value} {gw : Nat} {R : List Fl} (h : KaB W a c q L ga ca A un qn N pd pw sw gw R) (hb : Below W.heap.size W W') : KaB W' a c q L ga ca A un qn N pd pw sw gw R := ⟨h.1.later hb, h.2.1.later hb, h.2.2.1.later hb, h.2.2.2.later hb⟩
/-- none of it lies in block p -/
def NeB (L : List Fl) (q : Nat) (A : List Ac) (ga : Nat) (N : List Int) (qn : Nat) (R : List Fl) (gw pd pw p : Nat) : Prop := (0 < L.length → q ≠ p) ∧ (0 < A.length → ga ≠ p) ∧ (0 < N.length → qn ≠ p) ∧ (0 < R.length → gw ≠ p) ∧ pd ≠ p ∧ pw ≠ p
theorem KaB.ne {pd pw : Nat} {sw : Value} {gw : Nat} {R : List Fl} (h : KaB W a c q L ga ca A un qn N pd pw sw gw R) : NeB L q A ga N qn R gw pd pw W.heap.size := by
  have hrs : ∀ {α : Type} {k : Nat} {enc : α → List Value} {v : Value} {g o : Nat} {l : List α}, RS k enc W v g o l → 0 < l.length → g ≠ W.heap.size := fun h h0 => by
    obtain ⟨_, _, _, _, h1, _⟩ := h
    have := (h1 h0).2
    omega
  exact ⟨hrs h.1.1, hrs h.1.2.2.2.1, hrs h.1.2.2.2.2.2, hrs h.2.2.2, by have := h.2.1.lt; omega, by have := h.2.2.1.lt; omega⟩
theorem KaB.set {pd pw p : Nat} {sw : Value} {gw : Nat} {R : List Fl} (h : KaB W a c q L ga ca A un qn N pd pw sw gw R) (hn : NeB L q A ga N qn R gw pd pw p) (u : Value) : KaB (W.setCell ⟨p, 0, none⟩ u) a c q L ga ca A un qn N pd pw sw gw R := by
  have hg := grown_set W p 0 u
  exact ⟨⟨h.1.1.grown hg (fun h0 => by have := hn.1 h0; simpa using this), h.1.2.1, h.1.2.2.1, h.1.2.2.2.1.grown hg (fun h0 => by have := hn.2.1 h0; simpa using this), h.1.2.2.2.2.1, h.1.2.2.2.2.2.grown hg (fun h0 => by have := hn.2.2.1 h0; simpa using this)⟩, h.2.1.grown hg (by have := hn.2.2.2.2.1; simpa using this), h.2.2.1.grown hg (by have := hn.2.2.2.2.2; simpa using this), h.2.2.2.grown hg (fun h0 => by have := hn.2.2.2.1 h0; simpa using this)⟩
end

end Go.Proofs.Ytbmlphlknolieaa

namespace Go.Proofs.Ytbmlphlknolieaa
open Go.RowKit Go.BigFrame Go.Sort Go.Maps
set_option linter.unusedVariables false
set_option linter.unusedSimpArgs false

/-- so many acts are done one by one -/
def KaI (w wr : World) (a : Option Addr) (c q : Nat) (L : List Fl) (ga ca : Nat) (A : List Ac) (un : Value) (qn : Nat) (N : List Int) (pd pw : Nat) (sw : Value) (gw : Nat) (R : List Fl) (po : Nat) (so : Value) (go : Nat) (M : List Fl) : Prop :=
  Below w.heap.size w wr ∧ KaB wr a c q L ga ca A un qn N pd pw sw gw R ∧ BD wr po 26 so ∧ RS 3 fcs wr so go 0 M
theorem KaI.later {w wr W' : World} {a : Option Addr} {c q : Nat} {L : List Fl} {ga ca : Nat} {A : List Ac} {un : Value} {qn : Nat} {N : List Int} {pd pw : Nat} {sw : Value} {gw : Nat} {R : List Fl} {po : Nat} {so : Value} {go : Nat} {M : List Fl} (h : KaI w wr a c q L ga ca A un qn N pd pw sw gw R po so go M) (hb : Below wr.heap.size wr W') : KaI w W' a c q L ga ca A un qn N pd pw sw gw R po so go M :=
  ⟨h.1.trans (hb.mono h.1.size), h.2.1.later hb, h.2.2.1.later hb, h.2.2.2.later hb⟩
def KaR (w : World) (a : Option Addr) (c q : Nat) (L : List Fl) (ga ca : Nat) (A : List Ac) (un : Value) (qn : Nat) (N : List Int) (pd pw : Nat) (sw : Value) (gw : Nat) (R : List Fl) (po n : Nat) (i : Value) (wr : World) : Prop :=
  ∃ (m : Nat) (M : List Fl) (so : Value) (go : Nat), m ≤ n ∧ i = .int .i64 (m : Int) ∧ Hid (F.Acts L A m M ∧ SmallF M) ∧ Hid (KaI w wr a c q L ga ca A un qn N pd pw sw gw R po so go M)

set_option maxRecDepth 100000 in
set_option maxHeartbeats 8000000 in
theorem actsLaw_any (ao : Option Addr) (len cap : Nat) (w : World) (hlen : len ≤ 1048576) (hc : Code w.heap.size w (.slice ao len cap)) :
    Calls Try.prog 4 #[.slice ao len cap] w fun e w' => e = .returned (.bool true) ∧ Below w.heap.size w w' := by
  have HC : Hid (Code w.heap.size w (.slice ao len cap)) := hc
  clear hc
  go_enter Try.func4, Try.ntmps4
  go_wp2_with fail
  refine (big_no ao len cap _ hlen).mono ?_
  rintro e w0 ⟨rfl, hw⟩
  rw [hw]
  clear hw
  go_wp2_with fail
  refine (DrawCutActs_any _ _ HC.out).mono ?_
  rintro e w1 ⟨a, c, q, L, ga, ca, A, x, un, qn, N, rfl, had, hb1⟩
  obtain ⟨xn, cn, hun⟩ := had.2.2.2.2.2.shape
  subst hun
  have hA1 : Below w1.heap.size w1 (w1.alloc (.cells #[.slice a L.length c] 26)) := (Below.refl _ _).alloc (Nat.le_refl _) _
  have HX1 : Hid (Below w.heap.size w (w1.alloc (.cells #[.slice a L.length c] 26)) ∧ Cad (w1.alloc (.cells #[.slice a L.length c] 26)) a c q L ga ca A (.slice xn N.length cn) qn N ∧ BD (w1.alloc (.cells #[.slice a L.length c] 26)) w1.heap.size 26 (.slice a L.length c)) := ⟨hb1.trans (hA1.mono hb1.size), had.later hA1, BD.new w1 _ _⟩
  have HSM : Hid (SmallF L ∧ SmallL A ∧ (a = none ∧ c = 0 ∨ a = some ⟨q, 0, none⟩) ∧ A.length ≤ ca) := ⟨small_sz had.2.1, small_sh had.2.2.2.2.1.2.2, had.2.2.1, had.2.2.2.2.1.2.1⟩
  have hA9 : A.length ≤ 9 := had.2.2.2.2.1.1
  have hn9 := F.acts_le A L
  have HD1 : Hid (∀ W, Cad W a c q L ga ca A (.slice xn N.length cn) qn N → Calls Try.prog 22 #[.agg #[.slice a L.length c], .slice (some ⟨ga, 0, none⟩) A.length ca] W (DaP W L A)) := fun W h => DoActs_any _ q 0 L _ ga 0 A W h.1 HSM.out.1 h.2.2.2.1 HSM.out.2.1
  have HD2 : Hid (∀ W, Cad W a c q L ga ca A (.slice xn N.length cn) qn N → Calls Try.prog 23 #[.agg #[.slice a L.length c], .slice (some ⟨ga, 0, none⟩) A.length ca] W (DaP W L A)) := fun W h => sDoActs_wide a c q 0 L HSM.out.2.2.1 _ ga 0 A W h.1 h.2.2.2.1 HSM.out.2.1
  have HMO : Hid (∀ m M, F.Acts L A m M → m < (F.actsR L A).2 → ∃ (h0 : m < A.length) (N : List Fl), F.actR M A[m] = some N) := fun m M h hm => h.more hm
  have HDN : Hid (∀ m M, F.Acts L A m M → m = (F.actsR L A).2 → (F.actsR L A).1 = M) := fun m M h hm => h.over hm
  unfold DaP at HD1 HD2
  generalize (F.actsR L A).1 = R at *
  generalize (F.actsR L A).2 = n at *
  clear had hb1 hA1 HC
  obtain ⟨pd, hpd⟩ : ∃ pd, w1.heap.size = pd := ⟨_, rfl⟩
  obtain ⟨W1, hW1⟩ : ∃ W1, w1.alloc (.cells #[.slice a L.length c] 26) = W1 := ⟨_, rfl⟩
  rw [hpd, hW1] at HX1
  have d1 := HX1.out.2.2.cell
  go_wp2_with fail
  refine (HD1.out _ HX1.out.2.1).mono ?_
  rintro e w2 ⟨u, rfl, hu, hb2⟩
  obtain ⟨aw, cw, gw, rfl, hr2, hg2, _⟩ := hu.open'
  have hA2 : Below w2.heap.size w2 (w2.alloc (.cells #[.slice aw R.length cw] 26)) := (Below.refl _ _).alloc (Nat.le_refl _) _
  have b2 := HX1.out.1.trans (hb2.mono HX1.out.1.size)
  have HX2 : Hid (Below w.heap.size w (w2.alloc (.cells #[.slice aw R.length cw] 26)) ∧ KaB (w2.alloc (.cells #[.slice aw R.length cw] 26)) a c q L ga ca A (.slice xn N.length cn) qn N pd w2.heap.size (.slice aw R.length cw) gw R) := ⟨b2.trans (hA2.mono b2.size), (HX1.out.2.1.later hb2).later hA2, (HX1.out.2.2.later hb2).later hA2, BD.new w2 _ _, hr2.1.later hA2⟩
  clear HX1 hu hb2 hr2 hA2 b2 hg2 d1 HD1 hpd hW1
  obtain ⟨pw, hpw⟩ : ∃ pw, w2.heap.size = pw := ⟨_, rfl⟩
  obtain ⟨W2, hW2⟩ : ∃ W2, w2.alloc (.cells #[.slice aw R.length cw] 26) = W2 := ⟨_, rfl⟩
  rw [hpw, hW2] at HX2
  have d1 := HX2.out.2.2.1.cell
  go_wp2_with fail
  refine (HD2.out _ HX2.out.2.1).mono ?_
  rintro e w3 ⟨u, rfl, hu, hb3⟩
  obtain ⟨a3, c3, g3, rfl, hr3, hg3, _⟩ := hu.open'
  have hA3 : Below w3.heap.size w3 (w3.alloc (.cells #[.slice a3 R.length c3] 26)) := (Below.refl _ _).alloc (Nat.le_refl _) _
  have b3 := HX2.out.1.trans (hb3.mono HX2.out.1.size)
  have HX3 : Hid (Below w.heap.size w (w3.alloc (.cells #[.slice a3 R.length c3] 26)) ∧ KaB (w3.alloc (.cells #[.slice a3 R.length c3] 26)) a c q L ga ca A (.slice xn N.length cn) qn N pd pw (.slice aw R.length cw) gw R ∧ BD (w3.alloc (.cells #[.slice a3 R.length c3] 26)) w3.heap.size 26 (.slice a3 R.length c3) ∧ RS 3 fcs (w3.alloc (.cells #[.slice a3 R.length c3] 26)) (.slice a3 R.length c3) g3 0 R) := ⟨b3.trans (hA3.mono b3.size), (HX2.out.2.later hb3).later hA3, BD.new w3 _ _, hr3.1.later hA3⟩
  clear HX2 hu hb3 hr3 hA3 b3 hg3 d1 HD2 hpw hW2
  obtain ⟨p3, hp3⟩ : ∃ p3, w3.heap.size = p3 := ⟨_, rfl⟩
  obtain ⟨W3, hW3⟩ : ∃ W3, w3.alloc (.cells #[.slice a3 R.length c3] 26) = W3 := ⟨_, rfl⟩
  rw [hp3, hW3] at HX3
  have d2 := HX3.out.2.1.2.2.1.cell
  have d3 := HX3.out.2.2.1.cell
  go_wp2_with fail
  refine (sameDisk_yes _ _ gw 0 g3 0 R _ HX3.out.2.1.2.2.2 HX3.out.2.2.2).mono ?_
  rintro e w4 ⟨rfl, hb4⟩
  have HX4 : Hid (Below w.heap.size w w4 ∧ KaB w4 a c q L ga ca A (.slice xn N.length cn) qn N pd pw (.slice aw R.length cw) gw R) := ⟨HX3.out.1.trans (hb4.mono HX3.out.1.size), HX3.out.2.1.later hb4⟩
  clear HX3 hb4 d2 d3 hp3 hW3
  have d1 := HX4.out.2.2.1.cell
  have hA4 : Below w4.heap.size w4 (w4.alloc (.cells #[.slice a L.length c] 26)) := (Below.refl _ _).alloc (Nat.le_refl _) _
  have HNE : Hid (NeB L q A ga N qn R gw pd pw w4.heap.size) := HX4.out.2.ne
  have hw4 := HX4.out.1.size
  have HST : Hid (KaR w a c q L ga ca A (.slice xn N.length cn) qn N pd pw (.slice aw R.length cw) gw R w4.heap.size n (.int .i64 0) (w4.alloc (.cells #[.slice a L.length c] 26))) := ⟨0, L, _, q, by omega, rfl, ⟨F.Acts.start L A, HSM.out.1⟩, HX4.out.1.trans (hA4.mono HX4.out.1.size), HX4.out.2.later hA4, BD.new w4 _ _, HX4.out.2.1.1.later hA4⟩
  clear HX4 hA4
  go_wp2
  obtain ⟨po, hpo⟩ : ∃ po, w4.heap.size = po := ⟨_, rfl⟩
  rw [hpo] at HNE HST hw4 ⊢
  clear d1
  generalize w4.alloc (.cells #[.slice a L.length c] 26) = WL at *
  clear hpo
  go_loopw [12, 13, 14, 15, 16, 17, 18] (fun i nx ok x b y h wr => KaR w a c q L ga ca A (.slice xn N.length cn) qn N pd pw (.slice aw R.length cw) gw R po n i wr) (fun i _ _ _ _ _ _ _ => n - (intOf i).toNat)
  case atStart => exact HST.out
  case round =>
    clear HST
    obtain ⟨m, M, so, go, hm, rfl, HM, HI⟩ := hrel
    obtain ⟨aM, cM, hsM⟩ := HI.out.2.2.2.shape
    subst hsM
    by_cases hlt : m < n
    · obtain ⟨hmA, NN, hdo⟩ := HMO.out m M HM.out.1 hlt
      obtain ⟨X, hX⟩ : ∃ X, A[m] = X := ⟨_, rfl⟩
      have hXs := HSM.out.2.1 A[m] (List.getElem_mem hmA)
      have HAC : Hid (F.Acts L A (m + 1) NN ∧ SmallF NN) := ⟨HM.out.1.step hmA hdo, F.small_ok (F.act_ok hdo)⟩
      rw [hX] at hdo hXs
      have HGV : Hid (∀ W, Up wr W → W.cell? ⟨po, 0, none⟩ = some (.slice aM M.length cM) ∧ W.cell? ⟨ga, m * 4, none⟩ = some (.int .i64 X.k) ∧ W.cell? ⟨ga, m * 4 + 1, none⟩ = some (.string X.n) ∧ W.cell? ⟨ga, m * 4 + 2, none⟩ = some (.string X.t) ∧ W.cell? ⟨ga, m * 4 + 3, none⟩ = some (.string X.o)) := fun W hW => by
        have h1 := (HI.out.2.1.1.2.2.2.1.later hW).act m hmA
        rw [hX] at h1
        simp only [Nat.zero_add] at h1
        exact ⟨(HI.out.2.2.1.later hW).cell, h1⟩
      have HSV : Hid (∀ W, Up wr W → Calls Try.prog 24 #[.agg #[.slice aM M.length cM], .agg #[.int .i64 X.k, .string X.n, .string X.t, .string X.o]] W fun e w' => ∃ a4 c4 p4, e = .returned (.tuple #[.agg #[.slice a4 NN.length c4], .bool true]) ∧ RW 3 fcs w' (.slice a4 NN.length c4) p4 NN ∧ W.heap.size ≤ p4 ∧ Up W w') := fun W hW => by
        have hd := DoAct_any _ go 0 M X W (RS.up HI.out.2.2.2 hW) hXs
        rw [hdo] at hd
        refine hd.mono fun e w' ⟨u, he, hu, hb⟩ => ?_
        obtain ⟨a2, c2, p2, rfl, hr2, hp2, _⟩ := hu.open'
        exact ⟨a2, c2, p2, he, hr2, hp2, hb⟩
      have HFA : Hid (∀ W, Up wr W → Calls Try.prog 25 #[.agg #[.slice aM M.length cM], .string X.n] W fun e w' => e = .returned (.tuple #[.string (F.fileT M X.n), .bool (F.fileO M X.n)]) ∧ Below W.heap.size W w') := fun W hW => FileAt_any _ go 0 M X.n W (RS.up HI.out.2.2.2 hW) HM.out.2
      have HFB : Hid (∀ W s p, RS 3 fcs W s p 0 NN → Calls Try.prog 25 #[.agg #[s], .string X.n] W fun e w' => e = .returned (.tuple #[.string (F.fileT NN X.n), .bool (F.fileO NN X.n)]) ∧ Below W.heap.size W w') := fun W s p hW => FileAt_any _ p 0 NN X.n W hW HAC.out.2
      have HADD : Hid (X.k = 1 → F.fileO NN X.n = true ∧ F.fileT NN X.n = F.fileT M X.n ++ X.t) := fun h => F.act_add hdo h
      have HDRP : Hid (X.k = 4 → F.fileO NN X.n = false) := fun h => F.act_drop hdo h
      have hxt : X.t.size ≤ 1048576 := hXs.2.1
      have hft : (F.fileT M X.n).size ≤ 1048576 := by
        unfold F.fileT
        split
        · rename_i f hf
          exact (HM.out.2 f (F.find_some hf).1).2
        · show 0 ≤ 1048576; omega
      obtain ⟨co, c0, c1, c2, c3⟩ := HGV.out wr (Up.refl wr)
      have i1 : (m : Int) < (n : Int) := by omega
      have i3 : (m : Int) < (A.length : Int) := by omega
      have i2 : (0 : Int) ≤ (m : Int) := by omega
      have U0 : Up wr wr.drew := (Up.refl wr).drew
      have U0a : Up wr (wr.alloc (.cells #[.slice none 0 0] 26)).drew := ((Up.refl wr).alloc _).drew
      have B0a : Bx wr (wr.alloc (.cells #[.slice none 0 0] 26)).drew wr.heap.size := Bx.new (Up.refl wr)
      generalize F.fileT M X.n = T0 at *
      generalize F.fileO M X.n = O0 at *
      generalize F.fileT NN X.n = T1 at *
      generalize F.fileO NN X.n = O1 at *
      clear hdo hX hXs hmA
      go_wp2
      apply cut_rg1 (V := wr) (N := NN)
      case r =>
        intro key
        go_region_held3 (fun W => W.cell? ⟨po, 0, none⟩ = some (.slice aM M.length cM) ∧ W.cell? ⟨ga, m * 4, none⟩ = some (.int .i64 X.k) ∧ W.cell? ⟨ga, m * 4 + 1, none⟩ = some (.string X.n) ∧ W.cell? ⟨ga, m * 4 + 2, none⟩ = some (.string X.t) ∧ W.cell? ⟨ga, m * 4 + 3, none⟩ = some (.string X.o)) (first | (with_reducible exact HGV.out _ U4) | (with_reducible exact HGV.out _ (U4.alloc _)) | (with_reducible exact HGV.out _ U0) | (with_reducible exact HGV.out _ U0a) | (with_reducible exact HGV.out _ (U4.set hq.le _))) ((first | (go_at_call 24; (first | (with_reducible refine (HSV.out _ U0).mono ?_) | (with_reducible refine (HSV.out _ U0a).mono ?_)); rintro e v4 ⟨a4, c4, p4, rfl, hr4, hp4, hb4⟩; have U4 : Up wr v4 := (by first | with_reducible exact U0.step hb4 | with_reducible exact U0a.step hb4); have hp4' : wr.heap.size ≤ p4 := (by first | (have h9 := hp4; omega) | (have h9 := hp4; simp at h9; omega)); (first | (have hq : Bx wr v4 wr.heap.size := (by with_reducible exact B0a.up hb4); have hqp : wr.heap.size < p4 := (by have h9 := hp4; simp at h9; omega); have o0 := hq.cell; have o1 := hq.fr) | skip))))
        · have HF := Rg.last U4 hr4 hp4'
          clear hr4 hp4 hb4 U4 hp4'
          generalize v4.alloc (.cells #[.slice a4 NN.length c4] 26) = W4 at HF ⊢
          generalize v4.heap.size = q4 at HF ⊢
          exact key.out a4 c4 p4 W4 q4 HF
        all_goals
          have HF := Rg.early hq U4 hr4 hqp
          exact key.out a4 c4 p4 _ _ HF
      case k =>
        intro a4 c4 p4 W4 q4 HF4
        have hu4 : Below wr.heap.size wr W4 := HF4.1
        have HI4 : Hid (KaI w W4 a c q L ga ca A (.slice xn N.length cn) qn N pd pw (.slice aw R.length cw) gw R po (.slice aM M.length cM) go M ∧ BD W4 q4 26 (.slice a4 NN.length c4) ∧ RS 3 fcs W4 (.slice a4 NN.length c4) p4 0 NN ∧ po ≠ q4 ∧ (0 < NN.length → p4 ≠ po)) := by
          have hpl := HI.out.2.2.1.lt
          exact ⟨HI.out.later hu4, HF4.2.1.1, HF4.2.1.2.1, by have := HF4.2.2.1; omega, fun _ => by have := HF4.2.2.2.2.1; omega⟩
        have HUP : Hid (∀ W, Below W4.heap.size W4 W → Up wr W) := fun W hW => hu4.trans (hW.mono hu4.size)
        obtain ⟨eo, e0, e1, e2, e3⟩ := HGV.out W4 (HUP.out _ (Below.refl _ _))
        have eq4 := HI4.out.2.1.cell
        clear HSV U0 U0a B0a hu4 HF4 HI c0 c1 c2 c3 co
        go_wp2
        have kq0 := cell_regrown (w := W4) eo
        have kq1 := cell_regrown (w := W4) e1
        have cq0 := fun d os => Calls.regrown_of (w := W4) (d := d) (os := os) (HFA.out _ (HUP.out _ (below_regrown W4 d os)))
        refine wp_region_quiet_below (by kernel_rfl) (by kernel_rfl) ?_
        repeat (go_big_quiet_step (first | exact cq0 _ _))
        refine wpQuiet_nil ?_
        rintro _ ⟨⟨dq, osq⟩, rfl⟩
        have hb6 := below_regrown (W4) dq osq
        generalize grow (redrawn (W4) dq) osq = w6 at *
        clear kq0 kq1 cq0
        have HI6 : Hid (KaI w w6 a c q L ga ca A (.slice xn N.length cn) qn N pd pw (.slice aw R.length cw) gw R po (.slice aM M.length cM) go M ∧ BD w6 q4 26 (.slice a4 NN.length c4) ∧ RS 3 fcs w6 (.slice a4 NN.length c4) p4 0 NN ∧ po ≠ q4 ∧ (0 < NN.length → p4 ≠ po)) := ⟨HI4.out.1.later hb6, HI4.out.2.1.later hb6, HI4.out.2.2.1.later hb6, HI4.out.2.2.2⟩
        have HU6 : Hid (∀ W, Below w6.heap.size w6 W → Up wr W) := fun W hW => HUP.out W (hb6.trans (hW.mono hb6.size))
        clear eo e0 e1 e2 e3 eq4 hb6 HI4 HUP
        obtain ⟨eo, e0, e1, e2, e3⟩ := HGV.out w6 (HU6.out _ (Below.refl _ _))
        have eq4 := HI6.out.2.1.cell
        go_wp2
        have kq0 := cell_regrown (w := w6) eq4
        have kq1 := cell_regrown (w := w6) e1
        have cq0 := fun d os => Calls.regrown_of (w := w6) (d := d) (os := os) (HFB.out _ _ p4 (HI6.out.2.2.1.later (below_regrown w6 d os)))
        refine wp_region_quiet_below (by kernel_rfl) (by kernel_rfl) ?_
        repeat (go_big_quiet_step (first | exact cq0 _ _))
        refine wpQuiet_nil ?_
        rintro _ ⟨⟨dq, osq⟩, rfl⟩
        have hb7 := below_regrown (w6) dq osq
        generalize grow (redrawn (w6) dq) osq = w7 at *
        clear kq0 kq1 cq0
        have HI7 : Hid (KaI w w7 a c q L ga ca A (.slice xn N.length cn) qn N pd pw (.slice aw R.length cw) gw R po (.slice aM M.length cM) go M ∧ BD w7 q4 26 (.slice a4 NN.length c4) ∧ RS 3 fcs w7 (.slice a4 NN.length c4) p4 0 NN ∧ po ≠ q4 ∧ (0 < NN.length → p4 ≠ po)) := ⟨HI6.out.1.later hb7, HI6.out.2.1.later hb7, HI6.out.2.2.1.later hb7, HI6.out.2.2.2⟩
        have hup7 := HU6.out w7 hb7
        clear eo e0 e1 e2 e3 eq4 hb7 HI6 HU6
        obtain ⟨eo, e0, e1, e2, e3⟩ := HGV.out w7 hup7
        have eq4 := HI7.out.2.1.cell
        have fo := HI7.out.1.2.2.1.fr
        have hset := grown_set w7 po 0 (.slice a4 NN.length c4)
        have hbp := HI7.out.1.2.2.1
        have hbn : BD (w7.setCell ⟨po, 0, none⟩ (.slice a4 NN.length c4)) po 26 (.slice a4 NN.length c4) := by
          have e9 := heap_setCell_same w7 po 0 _ 26 (.slice a4 NN.length c4) hbp
          simpa [BD] using e9
        have HF : Hid (KaI w (w7.setCell ⟨po, 0, none⟩ (.slice a4 NN.length c4)) a c q L ga ca A (.slice xn N.length cn) qn N pd pw (.slice aw R.length cw) gw R po (.slice a4 NN.length c4) p4 NN) := ⟨HI7.out.1.1.setCell (p := ⟨po, 0, none⟩) hw4 _, HI7.out.1.2.1.set HNE.out _, hbn, HI7.out.2.2.1.grown hset (fun h0 => by have := HI7.out.2.2.2.2 h0; simpa using this)⟩
        clear HI7 hset hbp hbn HGV hup7 HFA HFB
        have hkk : X.k = 1 ∨ X.k = 4 ∨ (X.k ≠ 1 ∧ X.k ≠ 4) := by omega
        rcases hkk with h1 | h1 | h1
        · obtain ⟨r1, r2⟩ := HADD.out h1
          have q1 : (X.k == 1) = true := by simpa using h1
          have q4' : (X.k == 4) = false := by simp; omega
          subst r1
          subst r2
          have hcat : ¬ 9223372036854775807 < T0.size + X.t.size := by omega
          clear HADD HDRP h1
          go_wp2
          go_roundw
          case rel => exact ⟨m + 1, NN, _, p4, by omega, by go_num, HAC, HF⟩
          case measure => simp [intOf]; omega
        · have r1 := HDRP.out h1
          have q1 : (X.k == 1) = false := by simp; omega
          have q4' : (X.k == 4) = true := by simpa using h1
          subst r1
          clear HADD HDRP h1
          go_wp2
          go_roundw
          case rel => exact ⟨m + 1, NN, _, p4, by omega, by go_num, HAC, HF⟩
          case measure => simp [intOf]; omega
        · have q1 : (X.k == 1) = false := by simp; omega
          have q4' : (X.k == 4) = false := by simp; omega
          clear HADD HDRP h1
          go_wp2
          go_roundw
          case rel => exact ⟨m + 1, NN, _, p4, by omega, by go_num, HAC, HF⟩
          case measure => simp [intOf]; omega
    · have hme : m = n := by omega
      have HRM := HDN.out m M HM.out.1 hme
      subst hme
      subst HRM
      have i1 : ¬ (m : Int) < (m : Int) := by omega
      have HK1 : Hid (∀ W, Cad W a c q L ga ca A (.slice xn N.length cn) qn N → Calls Try.prog 26 #[.agg #[.slice a L.length c], .slice (some ⟨ga, 0, none⟩) A.length ca, .int .i64 x, .slice xn N.length cn] W (CtP W L A x N)) := fun W h => CutActs_wide a c q 0 L HSM.out.2.2.1 ga 0 ca A HSM.out.2.2.2 x _ qn 0 N W h.1 HSM.out.1 h.2.2.2.1 HSM.out.2.1 h.2.2.2.2.2
      have HK2 : Hid (∀ W, Cad W a c q L ga ca A (.slice xn N.length cn) qn N → Calls Try.prog 27 #[.agg #[.slice a L.length c], .slice (some ⟨ga, 0, none⟩) A.length ca, .int .i64 x, .slice xn N.length cn] W (CtP W L A x N)) := fun W h => sCutActs_wide a c q 0 L HSM.out.2.2.1 ga 0 ca A HSM.out.2.2.2 x _ qn 0 N W h.1 HSM.out.1 h.2.2.2.1 HSM.out.2.1 h.2.2.2.2.2
      unfold CtP at HK1 HK2
      generalize (F.cutR L A x N).1 = K at *
      generalize (F.cutR L A x N).2 = bK at *
      clear HMO HDN HNE HM HSM
      have d1 := HI.out.2.1.2.1.cell
      go_wp2_with fail
      refine (HK1.out _ HI.out.2.1.1).mono ?_
      rintro e w5 ⟨u, rfl, hu, hb5⟩
      obtain ⟨a5, c5, g5, rfl, hr5, hg5, _⟩ := hu.open'
      have hA5 : Below w5.heap.size w5 (w5.alloc (.cells #[.slice a5 K.length c5] 26)) := (Below.refl _ _).alloc (Nat.le_refl _) _
      have HI5 : Hid (KaI w (w5.alloc (.cells #[.slice a5 K.length c5] 26)) a c q L ga ca A (.slice xn N.length cn) qn N pd pw (.slice aw R.length cw) gw R po (.slice aM R.length cM) go R ∧ XD (w5.alloc (.cells #[.slice a5 K.length c5] 26)) w5.heap.size (.slice a5 K.length c5) g5 K) := ⟨(HI.out.later hb5).later hA5, XD.new hr5⟩
      clear HI hu hb5 hr5 hA5 hg5 d1 HK1
      obtain ⟨p5, hp5⟩ : ∃ p5, w5.heap.size = p5 := ⟨_, rfl⟩
      obtain ⟨W5, hW5⟩ : ∃ W5, w5.alloc (.cells #[.slice a5 K.length c5] 26) = W5 := ⟨_, rfl⟩
      rw [hp5, hW5] at HI5
      have d1 := HI5.out.1.2.1.2.1.cell
      go_wp2_with fail
      refine (HK2.out _ HI5.out.1.2.1.1).mono ?_
      rintro e w6 ⟨u, rfl, hu, hb6⟩
      obtain ⟨a6, c6, g6, rfl, hr6, hg6, _⟩ := hu.open'
      have hA6 : Below w6.heap.size w6 (w6.alloc (.cells #[.slice a6 K.length c6] 26)) := (Below.refl _ _).alloc (Nat.le_refl _) _
      have HI6 : Hid (KaI w (w6.alloc (.cells #[.slice a6 K.length c6] 26)) a c q L ga ca A (.slice xn N.length cn) qn N pd pw (.slice aw R.length cw) gw R po (.slice aM R.length cM) go R ∧ XD (w6.alloc (.cells #[.slice a6 K.length c6] 26)) p5 (.slice a5 K.length c5) g5 K ∧ XD (w6.alloc (.cells #[.slice a6 K.length c6] 26)) w6.heap.size (.slice a6 K.length c6) g6 K) := ⟨(HI5.out.1.later hb6).later hA6, (HI5.out.2.later hb6).later hA6, XD.new hr6⟩
      clear HI5 hu hb6 hr6 hA6 hg6 d1 HK2 hp5 hW5
      obtain ⟨p6, hp6⟩ : ∃ p6, w6.heap.size = p6 := ⟨_, rfl⟩
      obtain ⟨W6, hW6⟩ : ∃ W6, w6.alloc (.cells #[.slice a6 K.length c6] 26) = W6 := ⟨_, rfl⟩
      rw [hp6, hW6] at HI6
      have d5 := HI6.out.2.1.1.cell
      have d6 := HI6.out.2.2.1.cell
      go_wp2_with fail
      refine (sameDisk_yes _ _ g5 0 g6 0 K _ HI6.out.2.1.2.1 HI6.out.2.2.2.1).mono ?_
      rintro e w7 ⟨rfl, hb7⟩
      have HI7 : Hid (KaI w w7 a c q L ga ca A (.slice xn N.length cn) qn N pd pw (.slice aw R.length cw) gw R po (.slice aM R.length cM) go R) := HI6.out.1.later hb7
      clear HI6 hb7 d5 d6 hp6 hW6
      by_cases h0 : m = 0
      · have q0 : ((m : Int) == 0) = true := beq_iff_eq.2 (by omega)
        have hb9 := HI7.out.1
        clear HI7 h0
        go_wp2
        go_ret
        exact ⟨rfl, hb9⟩
      · have q0 : ((m : Int) == 0) = false := beq_eq_false_iff_ne.2 (by omega)
        have d7 := HI7.out.2.2.1.cell
        have d8 := HI7.out.2.1.2.2.1.cell
        clear h0
        go_wp2_with fail
        refine (sameDisk_yes _ _ go 0 gw 0 R _ HI7.out.2.2.2 HI7.out.2.1.2.2.2).mono ?_
        rintro e w8 ⟨rfl, hb8⟩
        have hb9 := HI7.out.1.trans (hb8.mono HI7.out.1.size)
        clear HI7 hb8 d7 d8
        go_wp2
        go_ret
        exact ⟨rfl, hb9⟩

end Go.Proofs.Ytbmlphlknolieaa

