/-
  Texts laid together: Lr, Cpl, Bk, Pb.
-/
import Derived.Test.YtgkfelhjbeegaaaGreatDoorV16
import Derived.Test.YtgkfelhjbeegaaaGreatDoorV07
import Derived.Test.YtgkfelhjbeegaaaGreatDoorV06
import Derived.Deep.RegionHeld3
import Derived.Test.YtgkfelhjbeegaaaGreatDoorV25
import Derived.Test.YtgkfelhjbeegaaaGreatDoorV09
import Derived.Test.YtgkfelhjbeegaaaGreatDoorV28
import Derived.Test.YtgkfelhjbeegaaaGreatDoorV26
import Derived.Lib.QuietBelow
/-
  Leaves read of a text: the program's answers.
-/
namespace Go.Proofs.YtgkfelhjbeegaaaGreatDoor
open Go.RowKit Go.BigFrame Go.Sort
set_option linter.unusedVariables false
set_option linter.unusedSimpArgs false

namespace LV
theorem leafAt_size {s : ByteArray} {p q : Nat} {f : Le} (h : leafAt s p = some (f, q)) : f.n.size ≤ s.size ∧ f.v.size ≤ s.size := by
  unfold leafAt at h
  cases h1 : shortAt s p with
  | none => rw [h1] at h; simp at h
  | some x =>
    obtain ⟨n, b⟩ := x
    rw [h1] at h
    simp only at h
    cases h2 : shortAt s b with
    | none => rw [h2] at h; simp at h
    | some y =>
      obtain ⟨v, r⟩ := y
      rw [h2] at h
      simp only [Option.some.injEq, Prod.mk.injEq] at h
      rw [← h.1]
      exact ⟨shortAt_size h1, shortAt_size h2⟩
theorem leavesF_size {s : ByteArray} : ∀ {k p q : Nat} {l : List Le}, leavesF s k p = some (l, q) → ∀ f ∈ l, f.n.size ≤ s.size ∧ f.v.size ≤ s.size
  | 0, p, q, l, h, f, hf => by
    simp only [leavesF, Option.some.injEq, Prod.mk.injEq] at h
    rw [← h.1] at hf
    cases hf
  | k + 1, p, q, l, h, f, hf => by
    rw [leavesF] at h
    cases h1 : leafAt s p with
    | none => rw [h1] at h; simp at h
    | some x =>
      obtain ⟨g, b⟩ := x
      rw [h1] at h
      simp only at h
      cases h2 : leavesF s k b with
      | none => rw [h2] at h; simp at h
      | some y =>
        obtain ⟨m, r⟩ := y
        rw [h2] at h
        simp only [Option.some.injEq, Prod.mk.injEq] at h
        rw [← h.1] at hf
        rcases List.mem_cons.1 hf with rfl | hf
        · exact leafAt_size h1
        · exact leavesF_size h2 f hf
/-- what stands at a place as leaves, whether right or not -/
def rawL (s : ByteArray) (p : Nat) : Option (List Le × Nat) :=
  match M.readVar s.data.toList p with
  | none => none
  | some (n, q) => if 24 < n then none else leavesF s n q
theorem rawL_none {s : ByteArray} {p : Nat} (h : M.readVar s.data.toList p = none) : rawL s p = none := by unfold rawL; rw [h]
theorem rawL_great {s : ByteArray} {p n q : Nat} (h : M.readVar s.data.toList p = some (n, q)) (hn : 24 < n) : rawL s p = none := by
  unfold rawL
  rw [h]
  exact if_pos hn
theorem rawL_at {s : ByteArray} {p n q : Nat} (h : M.readVar s.data.toList p = some (n, q)) (hn : ¬ 24 < n) : rawL s p = leavesF s n q := by
  unfold rawL
  rw [h]
  exact if_neg hn
/-- the right leaves that a text tells -/
noncomputable def rdB (s : ByteArray) : Bool :=
  match rawL s 0 with
  | none => false
  | some (l, e) => decide (e = s.size) && leavesB l
noncomputable def rdL (s : ByteArray) : List Le :=
  match rawL s 0 with
  | none => []
  | some (l, e) => if decide (e = s.size) && leavesB l then l else []
end LV

/-- what readLeaf answers -/
def RlP (s : ByteArray) (p : Nat) (e : Ending) : Prop := match LV.leafAt s p with
  | none => ∃ a b, e = .returned (.tuple #[.agg #[.string a, .string b], .int .i64 0, .bool false])
  | some (f, q) => e = .returned (.tuple #[.agg #[.string f.n, .string f.v], .int .i64 (q : Int), .bool true])

section
variable {fn : Func} {Rp : Ending → World → Prop} {a : Act} {w : World}
/-- a record answered out of its block, and two things beside it -/
theorem ret_rec3 (c s t g T : Nat) (cs : List Value) (b d : Value) (td : TypeDesc) (hres : fn.results = #[.cell c T, .tmp s, .tmp t]) (hd : a.defers = []) (hp : a.tmps.getD c undef = .pointer (some ⟨g, 0, none⟩)) (hb : a.tmps.getD s undef = b) (hdd : a.tmps.getD t undef = d)
    (hu : Tryz.prog.underlying T = some td) (hrow : td.isRow = true) (hi : (Tryz.prog.info? T).map (·.size) = some cs.length) (hA : w.rangeAt g 0 cs) (h : Rp (.returned (.tuple #[.agg cs.toArray, b, d])) w) : bodyPost Tryz.prog fn Rp .ret a w := by
  have hr := run_loadVar_mid (P := Tryz.prog) w g 0 T cs td hA hu hrow hi
  refine bodyPost_ret (v := .tuple #[.agg cs.toArray, b, d]) ?_ hd h
  have hp' : a.tmps[c]?.getD undef = .pointer (some ⟨g, 0, none⟩) := by simpa using hp
  have hb' : a.tmps[s]?.getD undef = b := by simpa using hb
  have hd' : a.tmps[t]?.getD undef = d := by simpa using hdd
  simp [results, hres, asAddr, hr, hp', hb', hd']
end

/-- the box of a leaf -/
def BL (W : World) (p : Nat) (a b : ByteArray) : Prop := W.heap[p]? = some (.cells #[.string a, .string b] 119 (0, 0))
theorem BL.new (w : World) (a b : ByteArray) : BL (w.alloc (.cells #[.string a, .string b] 119)) w.heap.size a b := Go.heap_alloc_new w _
theorem BL.later {W W' : World} {p : Nat} {a b : ByteArray} (h : BL W p a b) (hb : Below W.heap.size W W') : BL W' p a b := (hb.block p (Array.getElem?_eq_some_iff.1 h).1).trans h
theorem BL.c0 {W : World} {p : Nat} {a b : ByteArray} (h : BL W p a b) : W.cell? ⟨p, 0, none⟩ = some (.string a) := by rw [cell_of_row W p 0 _ _ _ h]; rfl
theorem BL.c1 {W : World} {p : Nat} {a b : ByteArray} (h : BL W p a b) : W.cell? ⟨p, 1, none⟩ = some (.string b) := by rw [cell_of_row W p 1 _ _ _ h]; rfl
theorem BL.f0 {W : World} {p : Nat} {a b : ByteArray} (h : BL W p a b) : W.frozen? ⟨p, 0, none⟩ = false := by simp [World.frozen?, show W.heap[p]? = _ from h]
theorem BL.f1 {W : World} {p : Nat} {a b : ByteArray} (h : BL W p a b) : W.frozen? ⟨p, 1, none⟩ = false := by simp [World.frozen?, show W.heap[p]? = _ from h]
theorem BL.range {W : World} {p : Nat} {a b : ByteArray} (h : BL W p a b) : W.rangeAt p 0 [.string a, .string b] := range2 h.c0 h.c1
theorem BL.there {W : World} {p : Nat} {a b : ByteArray} (h : BL W p a b) : W.there p 0 2 := fun j hj => by
  match j, hj with
  | 0, _ => exact ⟨by rw [h.c0]; rfl, h.f0⟩
  | 1, _ => exact ⟨by rw [h.c1]; rfl, h.f1⟩
/-- .. and what is written into it whole -/
theorem BL.put {W : World} {p : Nat} {a b : ByteArray} (h : BL W p a b) (x y : ByteArray) : (W.setCells p 0 [.string x, .string y]).rangeAt p 0 [.string x, .string y] := World.rangeAt_setCells_same _ _ _ _ h.there
theorem BL.set0 {W : World} {p : Nat} {a b : ByteArray} (h : BL W p a b) (x : ByteArray) : BL (W.setCell ⟨p, 0, none⟩ (.string x)) p x b := heap_setCell_same W p 0 _ _ _ h
theorem BL.set1 {W : World} {p : Nat} {a b : ByteArray} (h : BL W p a b) (x : ByteArray) : BL (W.setCell ⟨p, 1, none⟩ (.string x)) p a x := heap_setCell_same W p 1 _ _ _ h

/-- what readLeaves answers -/
def RvP (s : ByteArray) (p : Nat) (w : World) (e : Ending) (w' : World) : Prop := match LV.rawL s p with
  | none => e = .returned (.tuple #[.slice none 0 0, .int .i64 0, .bool false])
  | some (l, q) => ∃ g, e = .returned (.tuple #[.slice (some ⟨g, 0, none⟩) l.length l.length, .int .i64 (q : Int), .bool (LV.leavesB l)]) ∧ w.heap.size ≤ g ∧ RW 2 lcs w' (.slice (some ⟨g, 0, none⟩) l.length l.length) g l

/-- the first m leaves of the row that is made are read, and the place is behind them -/
def RvR (s : ByteArray) (n p : Nat) (w : World) (x i : Value) (wr : World) : Prop := ∃ (m q : Nat) (l : List Le), m ≤ n ∧ i = .int .i64 m ∧ x = .int .i64 (q : Int) ∧ q ≤ s.size ∧
  Hid (LV.leavesF s m p = some (l, q) ∧ (∀ j (h : j < l.length), wr.rangeAt w.heap.size (j * 2) (lcs l[j])) ∧ (∀ j, j < n → wr.there w.heap.size (j * 2) 2) ∧ Below w.heap.size w wr ∧ w.heap.size < wr.heap.size)

theorem leavesF_more {s : ByteArray} {m p q r : Nat} {l : List Le} {f : Le} (h : LV.leavesF s m p = some (l, q)) (hf : LV.leafAt s q = some (f, r)) : LV.leavesF s (m + 1) p = some (l ++ [f], r) := by
  rw [LV.leavesF_snoc, h]
  simp only
  rw [hf]
theorem leavesF_ends {s : ByteArray} {m p q : Nat} {l : List Le} (h : LV.leavesF s m p = some (l, q)) (hf : LV.leafAt s q = none) : LV.leavesF s (m + 1) p = none := by
  rw [LV.leavesF_snoc, h]
  simp only
  rw [hf]

end Go.Proofs.YtgkfelhjbeegaaaGreatDoor
/-
  A leaf copied: the program's answer.
-/
namespace Go.Proofs.YtgkfelhjbeegaaaGreatDoor
open Go.RowKit Go.BigFrame Go.Sort
set_option linter.unusedVariables false
set_option linter.unusedSimpArgs false

set_option maxRecDepth 100000 in
set_option maxHeartbeats 1000000 in
theorem copiedL_any (f : Le) (w : World) (hn : f.n.size ≤ 1048576) (hv : f.v.size ≤ 1048576) : Calls Tryz.prog 136 #[.agg #[.string f.n, .string f.v]] w fun e w' => e = .returned (.agg #[.string f.n, .string f.v]) ∧ Below w.heap.size w w' := by
  obtain ⟨x, t⟩ := f
  simp only at hn hv ⊢
  have hb0 : Below w.heap.size w ((w.alloc (.cells #[.string x, .string t] 119)).alloc (.cells #[.string ⟨#[]⟩, .string ⟨#[]⟩] 119)) := ((Below.refl _ _).alloc (Nat.le_refl _) _).alloc (by simp) _
  have hG1 : BL ((w.alloc (.cells #[.string x, .string t] 119)).alloc (.cells #[.string ⟨#[]⟩, .string ⟨#[]⟩] 119)) w.heap.size x t := alloc_snd _ _ _ rfl
  have hG2 : BL ((w.alloc (.cells #[.string x, .string t] 119)).alloc (.cells #[.string ⟨#[]⟩, .string ⟨#[]⟩] 119)) (w.heap.size + 1) ⟨#[]⟩ ⟨#[]⟩ := alloc_fst _ _ (by simp)
  have hs0 : ((w.alloc (.cells #[.string x, .string t] 119)).alloc (.cells #[.string ⟨#[]⟩, .string ⟨#[]⟩] 119)).heap.size = w.heap.size + 2 := by simp
  have HK : Hid (∀ W, Below ((w.alloc (.cells #[.string x, .string t] 119)).alloc (.cells #[.string ⟨#[]⟩, .string ⟨#[]⟩] 119)).heap.size ((w.alloc (.cells #[.string x, .string t] 119)).alloc (.cells #[.string ⟨#[]⟩, .string ⟨#[]⟩] 119)) W → W.cell? ⟨w.heap.size, 0, none⟩ = some (.string x) ∧ W.cell? ⟨w.heap.size, 1, none⟩ = some (.string t)) := fun W hW => ⟨(hG1.later hW).c0, (hG1.later hW).c1⟩
  have HK2 : Hid (∀ W, Below ((w.alloc (.cells #[.string x, .string t] 119)).alloc (.cells #[.string ⟨#[]⟩, .string ⟨#[]⟩] 119)).heap.size ((w.alloc (.cells #[.string x, .string t] 119)).alloc (.cells #[.string ⟨#[]⟩, .string ⟨#[]⟩] 119)) W → BL W (w.heap.size + 1) ⟨#[]⟩ ⟨#[]⟩) := fun W hW => hG2.later hW
  have HB0 : Hid (Below w.heap.size w ((w.alloc (.cells #[.string x, .string t] 119)).alloc (.cells #[.string ⟨#[]⟩, .string ⟨#[]⟩] 119)) ∧ w.heap.size ≤ ((w.alloc (.cells #[.string x, .string t] 119)).alloc (.cells #[.string ⟨#[]⟩, .string ⟨#[]⟩] 119)).heap.size) := ⟨hb0, by rw [hs0]; omega⟩
  have hb : Below ((w.alloc (.cells #[.string x, .string t] 119)).alloc (.cells #[.string ⟨#[]⟩, .string ⟨#[]⟩] 119)).heap.size ((w.alloc (.cells #[.string x, .string t] 119)).alloc (.cells #[.string ⟨#[]⟩, .string ⟨#[]⟩] 119)) ((w.alloc (.cells #[.string x, .string t] 119)).alloc (.cells #[.string ⟨#[]⟩, .string ⟨#[]⟩] 119)).drew := (Below.refl _ _).drew
  clear hb0 hG1 hG2 hs0
  go_enter Tryz.func136, Tryz.ntmps136
  go_wp2
  go_region_held3 (fun W => W.cell? ⟨w.heap.size, 0, none⟩ = some (.string x) ∧ W.cell? ⟨w.heap.size, 1, none⟩ = some (.string t)) (first | go_keep | exact HK.out _ hb) ((go_at_call 91; refine (Clone_any _ _ (by first | exact hn | exact hv)).mono ?_; rintro e w1 ⟨rfl, hb1'⟩; have hb := hb.trans (hb1'.mono hb.size); have t0 := (HK2.out _ hb).c0; have t1 := (HK2.out _ hb).c1; have g0 := (HK2.out _ hb).f0; have g1 := (HK2.out _ hb).f1))
  have HF : Hid ((w1.setCells (w.heap.size + 1) 0 [.string x, .string t]).rangeAt (w.heap.size + 1) 0 [.string x, .string t] ∧ Below w.heap.size w (w1.setCells (w.heap.size + 1) 0 [.string x, .string t])) :=
    ⟨(HK2.out _ hb).put x t, below_setCells (by omega) _ _ _ (HB0.out.1.trans (hb.mono HB0.out.2))⟩
  go_wp2
  exact ret_rec 2 (w.heap.size + 1) 119 [.string x, .string t] _ rfl rfl rfl Tryz.underlying119 rfl sizeLeaf HF.out.1 ⟨rfl, HF.out.2⟩

end Go.Proofs.YtgkfelhjbeegaaaGreatDoor
/-
  The leaves whose names have an index: the program's answer.
-/
namespace Go.Proofs.YtgkfelhjbeegaaaGreatDoor
open Go.RowKit Go.BigFrame Go.Sort
set_option linter.unusedVariables false
set_option linter.unusedSimpArgs false

set_option maxRecDepth 100000 in
set_option maxHeartbeats 1000000 in
theorem BucketOf_any (v : Value) (ga oa : Nat) (L : List Le) (i : Int) (w : World) (hv : RS 2 lcs w v ga oa L) (hsm : SmallL L) (hK : TabK w) (hF : TabF w) :
    Calls Tryz.prog 118 #[v, .int .i64 i] w fun e w' => ∃ u, e = .returned u ∧ OL w.heap.size w w' u (bkL L i) := by
  have HV : Hid (RS 2 lcs w v ga oa L ∧ SmallL L ∧ TabK w ∧ TabF w) := ⟨hv, hsm, hK, hF⟩
  obtain ⟨a, cap, rfl, hl, hA, _⟩ := hv
  obtain ⟨n, hn⟩ : ∃ n, L.length = n := ⟨_, rfl⟩
  have HA : Hid (0 < n → a = some ⟨ga, oa, none⟩) := by rw [← hn]; exact fun h => (hA h).1
  rw [hn] at hl HV ⊢
  clear hA hsm hK hF
  have HST : Hid (BkR w L i (.slice (some ⟨w.heap.size, 0, none⟩) 0 0) (.int .i64 0) (w.alloc (.cells #[] 119))) := ⟨0, by omega, rfl, OL.made _ w w (Below.refl _ _) (Nat.le_refl _)⟩
  go_enter Tryz.func118, Tryz.ntmps118
  go_wp2
  go_loopw [5, 11] (fun u j wr => BkR w L i u j wr) (fun _ j _ => n - (intOf j).toNat)
  case atStart => exact HST.out
  case round =>
    obtain ⟨m, hm, rfl, HI⟩ := hrel
    clear HST
    rw [hn] at hm
    obtain ⟨au, cu, rfl⟩ := HI.out.shape
    by_cases hlt : m < n
    · have ea := HA.out (by omega)
      subst ea
      obtain ⟨c0, c1⟩ := (HV.out.1.later HI.out.2.1).leaf m (by omega)
      obtain ⟨X, hX⟩ : ∃ X, L[m]'(by omega) = X := ⟨_, rfl⟩
      rw [hX] at c0 c1
      have hxs := HV.out.2.1 X (by rw [← hX]; exact List.getElem_mem _)
      have hst := bk_step (L := L) (m := m) i (by omega)
      rw [hX] at hst
      have hle : ((L.take m).filter (bkP i)).length ≤ L.length := LV.filt_len L m _
      have i1 : (m : Int) < (n : Int) := by omega
      have i2 : (0 : Int) ≤ (m : Int) := by omega
      have hba : Below wr.heap.size wr (wr.alloc (.cells #[.string X.n, .string X.v] 119)) := (Below.refl _ _).alloc (Nat.le_refl _) _
      have hwa : Below w.heap.size w (wr.alloc (.cells #[.string X.n, .string X.v] 119)) := HI.out.2.1.trans (hba.mono HI.out.2.2)
      have hix := IndexOf_any X.n _ hxs.1 (HV.out.2.2.1.later hwa HV.out.2.2.1.pos) (HV.out.2.2.2.later hwa HV.out.2.2.2.pos)
      change Calls Tryz.prog 89 _ _ (fun e w' => e = .returned (.int .i64 (idxN X.n : Int)) ∧ Below _ _ w') at hix
      obtain ⟨N, hN⟩ : ∃ N, idxN X.n = N := ⟨_, rfl⟩
      rw [hN] at hix
      have HBK : Hid (bkP i X = decide ((N : Int) = i)) := by rw [← hN]; rfl
      have HO1 : Hid (OL w.heap.size w (wr.alloc (.cells #[.string X.n, .string X.v] 119)) (.slice au ((L.take m).filter (bkP i)).length cu) ((L.take m).filter (bkP i))) := HI.out.later hba
      clear HV HA hX hN hba hwa HI
      generalize hl0 : (L.take m).filter (bkP i) = l at *
      clear hl0
      go_wp2_with fail
      refine hix.mono ?_
      rintro e w1 ⟨rfl, hb1⟩
      have HO2 : Hid (OL w.heap.size w w1 (.slice au l.length cu) l) := HO1.out.later hb1
      have hbx : BL w1 wr.heap.size X.n X.v := (BL.new wr X.n X.v).later hb1
      have x0 := hbx.c0
      have x1 := hbx.c1
      clear hix hb1 HO1 hbx
      by_cases hk : (N : Int) = i
      · rw [HBK.out, decide_eq_true hk] at hst
        have HJ : Hid ((L.take (m + 1)).filter (bkP i) = l ++ [X]) := hst
        have hk2 : ((N : Int) == i) = true := by simpa using hk
        clear hst HBK
        go_wp2_with fail
        refine (copiedL_any X _ hxs.1 hxs.2).mono ?_
        rintro e w2 ⟨rfl, hb2⟩
        have hbc : Below w1.heap.size w1 (w2.alloc (.cells #[.string X.n, .string X.v] 119)) := hb2.alloc hb2.size _
        have hoa := HO2.out.later hbc
        have HRN : Hid ((w2.alloc (.cells #[.string X.n, .string X.v] 119)).rangeAt w2.heap.size 0 (lcs X)) := range_new _ [.string X.n, .string X.v] 119
        clear hbc hb2 HO2 x0 x1 c0 c1
        go_wp2_with (at_builtin; refine wp_leafL rfl _ _ rfl w.heap.size w (.slice au l.length cu) l X rfl hoa _ rfl HRN.out (by omega) ?_)
        intro g5 cap5 w5 ho5 hg5 hl5
        have HK : Hid (OL w.heap.size w w5 (.slice (some ⟨g5, 0, none⟩) (l.length + 1) cap5) ((L.take (m + 1)).filter (bkP i))) := by rw [HJ.out]; exact ho5
        clear ho5 hg5 hl5 hoa HRN HJ
        go_wp2
        go_roundw
        case rel => exact ⟨m + 1, by omega, by go_num, HK⟩
        case measure => simp [intOf]; omega
      · rw [HBK.out, decide_eq_false hk] at hst
        have HJ : Hid (OL w.heap.size w w1 (.slice au l.length cu) ((L.take (m + 1)).filter (bkP i))) := by rw [hst]; exact HO2.out
        have hk2 : ((N : Int) == i) = false := by simpa using hk
        clear hst HBK HO2
        go_wp2
        go_roundw
        case rel => exact ⟨m + 1, by omega, by go_num, HJ⟩
        case measure => simp [intOf]; omega
    · have hme : m = n := by omega
      have e : (L.take m).filter (bkP i) = bkL L i := by rw [List.take_of_length_le (by omega)]; rfl
      have HF : Hid (∃ u, Ending.returned (.slice au ((L.take m).filter (bkP i)).length cu) = .returned u ∧ OL w.heap.size w wr u (bkL L i)) := ⟨_, rfl, by rw [← e]; exact HI.out⟩
      generalize (L.take m).filter (bkP i) = l at *
      subst hme
      clear HI HA HV e
      go_wp2
      go_ret
      exact HF.out

end Go.Proofs.YtgkfelhjbeegaaaGreatDoor
/-
  Proofs: whether a bucket is of one index, and when they are right: the program's answers.
-/
namespace Go.Proofs.YtgkfelhjbeegaaaGreatDoor
open Go.RowKit Go.BigFrame Go.Sort
set_option linter.unusedVariables false
set_option linter.unusedSimpArgs false

def allI (B : List Le) (i : Int) : Bool := B.all (bkP i)
theorem allI_len (B : List Le) (i : Int) : allI B i = decide (((bkL B i).length : Int) = (B.length : Int)) := by
  unfold allI bkL
  cases h : B.all (bkP i) with
  | true =>
    rw [List.filter_eq_self.2 (List.all_eq_true.1 h)]
    simp
  | false =>
    have : (B.filter (bkP i)).length ≠ B.length := fun e => by
      have h2 := List.length_filter_eq_length_iff.1 e
      rw [← List.all_eq_true, h] at h2
      cases h2
    exact (decide_eq_false (by omega)).symm
theorem allI_is (B : List Le) (nm : ByteArray) : allI B (idxN nm) = B.all (fun f => decide (idxN f.n = idxN nm)) := by
  unfold allI
  congr 1
  funext f
  unfold bkP
  by_cases h : idxN f.n = idxN nm
  · rw [decide_eq_true h, decide_eq_true (by omega)]
  · rw [decide_eq_false h, decide_eq_false (by omega)]

set_option maxRecDepth 100000 in
set_option maxHeartbeats 1000000 in
theorem allOfIndex_any (v : Value) (g o : Nat) (B : List Le) (i : Int) (w : World) (hv : RS 2 lcs w v g o B) (hsm : SmallL B) (hT : Tb w) :
    Calls Tryz.prog 101 #[v, .int .i64 i] w fun e w' => e = .returned (.bool (allI B i)) ∧ Below w.heap.size w w' := by
  have hR := allI_len B i
  have h1 := BucketOf_any v g o B i w hv hsm hT.1 hT.2
  generalize allI B i = R at *
  obtain ⟨a, cap, rfl, hl, hz1, hz2⟩ := hv
  clear hz1 hz2 hsm hT
  go_enter Tryz.func101, Tryz.ntmps101
  go_wp2_with fail
  refine h1.mono ?_
  rintro e w1 ⟨u, rfl, ho⟩
  obtain ⟨au, cu, rfl⟩ := ho.shape
  have hb := ho.2.1
  clear h1 ho
  generalize (bkL B i).length = p at *
  generalize B.length = q at *
  go_wp2
  go_ret
  refine ⟨?_, hb⟩
  rw [hR]
  by_cases h : (p : Int) = (q : Int)
  · simp [h]
  · simp [h]

set_option maxRecDepth 100000 in
set_option maxHeartbeats 1000000 in
theorem ProofOk_any (nm : ByteArray) (vb vs : Value) (gb ob gs os : Nat) (B : List Le) (S : List ByteArray) (x : Int) (w : World) (hnm : nm.size ≤ 1048576) (hb : RS 2 lcs w vb gb ob B) (hsm : SmallL B) (hs : SS w vs gs os S) (hT : Tb w) :
    Calls Tryz.prog 83 #[.string nm, .agg #[vb, vs], .int .i64 x] w fun e w' => e = .returned (.bool (pfOk nm B S x)) ∧ Below w.heap.size w w' := by
  obtain ⟨R, hR⟩ : ∃ R, pfOk nm B S x = R := ⟨_, rfl⟩
  have e0 : R = (okB nameB nm && LV.leavesB B && allI B (idxN nm) && sidB S x) := by
    rw [← hR, allI_is]
    unfold pfOk sidB
    cases okB nameB nm <;> cases LV.leavesB B <;> cases decide (S.length ≤ 8) <;> cases wideB S x <;> simp
  rw [hR]
  clear hR
  obtain ⟨p0, p1⟩ := run_rangeP (w := w) (p := 0) (v1 := vb) (v2 := vs) 45
  have hba : Below w.heap.size w (w.alloc (.cells #[vb, vs] 45)) := (Below.refl _ _).alloc (Nat.le_refl _) _
  have HBS : Hid (∀ W, Below w.heap.size w W → RS 2 lcs W vb gb ob B ∧ SS W vs gs os S ∧ Tb W) := fun W hW => ⟨hb.later hW, hs.below hW hs.lt, hT.later hW⟩
  have HPP : Hid (∀ W, Below (w.alloc (.cells #[vb, vs] 45)).heap.size (w.alloc (.cells #[vb, vs] 45)) W → W.cell? ⟨w.heap.size, 0, none⟩ = some vb ∧ W.cell? ⟨w.heap.size, 1, none⟩ = some vs ∧ Below w.heap.size w W) := fun W hW => ⟨cell_later p0 hW, cell_later p1 hW, hba.trans (hW.mono hba.size)⟩
  have hnk := NameOk_any nm (w.alloc (.cells #[vb, vs] 45)) hnm
  have HLO : Hid (∀ W, Below w.heap.size w W → Calls Tryz.prog 100 #[vb] W fun e w' => e = .returned (.bool (LV.leavesB B)) ∧ Below W.heap.size W w') := fun W hW => LeavesOk_any vb gb ob B W (HBS.out W hW).1 hsm
  have HIX : Hid (∀ W, Below w.heap.size w W → Calls Tryz.prog 89 #[.string nm] W fun e w' => e = .returned (.int .i64 (idxN nm : Int)) ∧ Below W.heap.size W w') := fun W hW => IndexOf_any nm W hnm (HBS.out W hW).2.2.1 (HBS.out W hW).2.2.2
  have HAI : Hid (∀ W, Below w.heap.size w W → Calls Tryz.prog 101 #[vb, .int .i64 (idxN nm : Int)] W fun e w' => e = .returned (.bool (allI B (idxN nm))) ∧ Below W.heap.size W w') := fun W hW => allOfIndex_any vb gb ob B _ W (HBS.out W hW).1 hsm (HBS.out W hW).2.2
  have HSD : Hid (∀ W, Below w.heap.size w W → Calls Tryz.prog 102 #[vs, .int .i64 x] W fun e w' => e = .returned (.bool (sidB S x)) ∧ Below W.heap.size W w') := fun W hW => (sidesOk_any vs gs os S x W (HBS.out W hW).2.1).mono fun e w' ⟨he, hw⟩ => ⟨he, by rw [hw]; exact Below.refl _ _⟩
  obtain ⟨ix, hix⟩ : ∃ ix : Int, (idxN nm : Int) = ix := ⟨_, rfl⟩
  rw [hix] at HIX HAI e0
  clear hb hs hsm hT HBS hix
  generalize allI B ix = A2 at *
  generalize LV.leavesB B = A1 at *
  generalize sidB S x = A3 at *
  have hnk2 : ∀ W, Calls Tryz.prog 99 #[.string nm] W fun e w' => e = .returned (.bool (okB nameB nm)) ∧ Below W.heap.size W w' := fun W => (NameOk_any nm W hnm).mono fun e w' ⟨he, hw⟩ => ⟨he, by rw [hw]; exact Below.refl _ _⟩
  have HNK : Hid (∀ W, Calls Tryz.prog 99 #[.string nm] W fun e w' => e = .returned (.bool (okB nameB nm)) ∧ Below W.heap.size W w') := hnk2
  have HUP : Hid (∀ d os, Below w.heap.size w (grow (redrawn (w.alloc (.cells #[vb, vs] 45)) d) os)) := fun d os => hba.trans ((below_regrown _ d os).mono hba.size)
  clear hnk hnk2 HPP
  generalize okB nameB nm = A0 at *
  have kq0 := cell_regrown (w := w.alloc (.cells #[vb, vs] 45)) p0
  have kq1 := cell_regrown (w := w.alloc (.cells #[vb, vs] 45)) p1
  have cq0 := fun d os => Calls.regrown_of (w := w.alloc (.cells #[vb, vs] 45)) (d := d) (os := os) (HNK.out _)
  have cq1 := fun d os => Calls.regrown_of (w := w.alloc (.cells #[vb, vs] 45)) (d := d) (os := os) (HLO.out _ (HUP.out d os))
  have cq2 := fun d os => Calls.regrown_of (w := w.alloc (.cells #[vb, vs] 45)) (d := d) (os := os) (HIX.out _ (HUP.out d os))
  have cq3 := fun d os => Calls.regrown_of (w := w.alloc (.cells #[vb, vs] 45)) (d := d) (os := os) (HAI.out _ (HUP.out d os))
  have cq4 := fun d os => Calls.regrown_of (w := w.alloc (.cells #[vb, vs] 45)) (d := d) (os := os) (HSD.out _ (HUP.out d os))
  clear HNK HLO HIX HAI HSD HUP
  cases A0 with
  | false =>
    obtain rfl : R = false := by rw [e0]; rfl
    clear e0
    go_enter Tryz.func83, Tryz.ntmps83
    go_wp2
    refine wp_region_quiet_below (by kernel_rfl) (by kernel_rfl) ?_
    repeat (go_big_quiet_step (first | with_reducible exact cq0 _ _ | with_reducible exact cq1 _ _ | with_reducible exact cq2 _ _ | with_reducible exact cq3 _ _ | with_reducible exact cq4 _ _))
    refine wpQuiet_nil ?_
    rintro _ ⟨⟨dq, osq⟩, rfl⟩
    have hb6 := below_regrown (w.alloc (.cells #[vb, vs] 45)) dq osq
    generalize grow (redrawn (w.alloc (.cells #[vb, vs] 45)) dq) osq = w6 at *
    clear kq0 kq1 cq0 cq1 cq2 cq3 cq4
    go_wp2
    go_ret
    exact ⟨rfl, hba.trans (hb6.mono hba.size)⟩
  | true =>
    cases A1 with
    | false =>
      obtain rfl : R = false := by rw [e0]; rfl
      clear e0
      go_enter Tryz.func83, Tryz.ntmps83
      go_wp2
      refine wp_region_quiet_below (by kernel_rfl) (by kernel_rfl) ?_
      repeat (go_big_quiet_step (first | with_reducible exact cq0 _ _ | with_reducible exact cq1 _ _ | with_reducible exact cq2 _ _ | with_reducible exact cq3 _ _ | with_reducible exact cq4 _ _))
      refine wpQuiet_nil ?_
      rintro _ ⟨⟨dq, osq⟩, rfl⟩
      have hb6 := below_regrown (w.alloc (.cells #[vb, vs] 45)) dq osq
      generalize grow (redrawn (w.alloc (.cells #[vb, vs] 45)) dq) osq = w6 at *
      clear kq0 kq1 cq0 cq1 cq2 cq3 cq4
      go_wp2
      go_ret
      exact ⟨rfl, hba.trans (hb6.mono hba.size)⟩
    | true =>
      cases A2 with
      | false =>
        obtain rfl : R = false := by rw [e0]; rfl
        clear e0
        go_enter Tryz.func83, Tryz.ntmps83
        go_wp2
        refine wp_region_quiet_below (by kernel_rfl) (by kernel_rfl) ?_
        repeat (go_big_quiet_step (first | with_reducible exact cq0 _ _ | with_reducible exact cq1 _ _ | with_reducible exact cq2 _ _ | with_reducible exact cq3 _ _ | with_reducible exact cq4 _ _))
        refine wpQuiet_nil ?_
        rintro _ ⟨⟨dq, osq⟩, rfl⟩
        have hb6 := below_regrown (w.alloc (.cells #[vb, vs] 45)) dq osq
        generalize grow (redrawn (w.alloc (.cells #[vb, vs] 45)) dq) osq = w6 at *
        clear kq0 kq1 cq0 cq1 cq2 cq3 cq4
        go_wp2
        go_ret
        exact ⟨rfl, hba.trans (hb6.mono hba.size)⟩
      | true =>
        obtain rfl : R = A3 := by rw [e0]; rfl
        clear e0
        go_enter Tryz.func83, Tryz.ntmps83
        go_wp2
        refine wp_region_quiet_below (by kernel_rfl) (by kernel_rfl) ?_
        repeat (go_big_quiet_step (first | with_reducible exact cq0 _ _ | with_reducible exact cq1 _ _ | with_reducible exact cq2 _ _ | with_reducible exact cq3 _ _ | with_reducible exact cq4 _ _))
        refine wpQuiet_nil ?_
        rintro _ ⟨⟨dq, osq⟩, rfl⟩
        have hb6 := below_regrown (w.alloc (.cells #[vb, vs] 45)) dq osq
        generalize grow (redrawn (w.alloc (.cells #[vb, vs] 45)) dq) osq = w6 at *
        clear kq0 kq1 cq0 cq1 cq2 cq3 cq4
        go_wp2
        go_ret
        exact ⟨rfl, hba.trans (hb6.mono hba.size)⟩

end Go.Proofs.YtgkfelhjbeegaaaGreatDoor
