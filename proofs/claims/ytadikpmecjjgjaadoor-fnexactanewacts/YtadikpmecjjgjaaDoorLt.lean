/-
  The texts of a file: the program's and the specification's answers.
-/
import Derived.Test.YtadikpmecjjgjaaDoorLa
import Derived.Test.YtadikpmecjjgjaaDoorFa
import Derived.Test.YtadikpmecjjgjaaDoorUl
namespace Go.Proofs.YtadikpmecjjgjaaDoor
open Go.RowKit
set_option linter.unusedVariables false
set_option linter.unusedSimpArgs false

def bxD (w : World) (v : Value) : World := w.alloc (.cells #[v] 36)
theorem bxD.below (w : World) (v : Value) : Below w.heap.size w (bxD w v) := (Below.refl _ _).alloc (Nat.le_refl _) _
theorem bxD.cell (w : World) (v : Value) : (bxD w v).cell? ⟨w.heap.size, 0, none⟩ = some v := by unfold bxD; simp
theorem bxD.lt (w : World) (v : Value) : w.heap.size < (bxD w v).heap.size := by unfold bxD; simp

theorem fileOf_disk (v : Value) (ga oa : Nat) (L : List Fl) (x : ByteArray) (w : World) (hv : RS 3 fcs w v ga oa L) (hd : F.diskB L = false) :
    Calls Tryd.prog 35 #[.agg #[v], .string x] w fun e w' => e = .returned (.tuple #[.string ⟨#[]⟩, faultV 1]) ∧ Below w.heap.size w w' := by
  have HC := DiskOk_any v ga oa L _ (hv.later (bxD.below w v))
  rw [hd] at HC
  unfold bxD at HC
  have HB : Hid (Below w.heap.size w (w.alloc (.cells #[v] 36))) := bxD.below w v
  obtain ⟨a, cap, rfl⟩ := hv.shape
  unfold faultV
  clear hv hd
  go_enter Tryd.func35, Tryd.ntmps35
  go_wp2_with fail
  refine HC.mono ?_
  rintro e w1 ⟨rfl, hb1⟩
  have hb2 := HB.out.trans (hb1.mono HB.out.size)
  clear HB hb1 HC
  go_wp2
  go_ret2
  exact ⟨rfl, hb2⟩

theorem fileT_le {L : List Fl} {x : ByteArray} (hs : SmallF L) : (F.fileT L x).size ≤ 1048576 := by
  unfold F.fileT
  cases h : F.find L x with
  | none => exact Nat.zero_le _
  | some f => exact (hs f (List.mem_of_find?_eq_some h)).2

theorem fileOf_at (v : Value) (ga oa : Nat) (L : List Fl) (x T : ByteArray) (R : Bool) (w : World) (hv : RS 3 fcs w v ga oa L) (hs : SmallF L) (hd : F.diskB L = true) (hT : F.fileT L x = T) (hR : F.fileO L x = R) :
    Calls Tryd.prog 35 #[.agg #[v], .string x] w fun e w' => e = .returned (.tuple (if R then #[.string T, .nilIface] else #[.string ⟨#[]⟩, faultV 3])) ∧ Below w.heap.size w w' := by
  have HC := DiskOk_any v ga oa L _ (hv.later (bxD.below w v))
  rw [hd] at HC
  have HF : Hid (∀ W, Below (bxD w v).heap.size (bxD w v) W → Calls Tryd.prog 54 #[.agg #[v], .string x] W fun e w' => e = .returned (.tuple #[.string T, .bool R]) ∧ Below W.heap.size W w') := fun W hW => by
    rw [← hT, ← hR]
    exact FileAt_any v ga oa L x W ((hv.later (bxD.below w v)).later hW) hs
  have HB : Hid (Below w.heap.size w (bxD w v) ∧ (bxD w v).cell? ⟨w.heap.size, 0, none⟩ = some v ∧ w.heap.size < (bxD w v).heap.size) := ⟨bxD.below w v, bxD.cell w v, bxD.lt w v⟩
  obtain ⟨a, cap, rfl⟩ := hv.shape
  unfold faultV
  unfold bxD at HC HF HB
  clear hv hd hs hT hR
  go_enter Tryd.func35, Tryd.ntmps35
  go_wp2_with fail
  refine HC.mono ?_
  rintro e w1 ⟨rfl, hb1⟩
  have c1 : w1.cell? ⟨w.heap.size, 0, none⟩ = some (.slice a L.length cap) := (hb1.cell (p := ⟨w.heap.size, 0, none⟩) HB.out.2.2).trans HB.out.2.1
  have HB1 : Hid (Below w.heap.size w w1) := HB.out.1.trans (hb1.mono HB.out.1.size)
  have HF1 := HF.out _ hb1
  clear HB HC HF hb1
  go_wp2_with fail
  refine HF1.mono ?_
  rintro e w2 ⟨rfl, hb2⟩
  have HB2 : Hid (Below w.heap.size w w2) := HB1.out.trans (hb2.mono HB1.out.size)
  clear HB1 hb2 HF1 c1
  cases R with
  | true =>
    go_wp2
    go_ret2
    exact ⟨rfl, HB2.out⟩
  | false =>
    go_wp2
    go_ret2
    exact ⟨rfl, HB2.out⟩

theorem framesOf_none : framesOf ⟨#[]⟩ = [] := by
  unfold framesOf
  rw [if_pos (by decide)]
  have h : recAt ⟨#[]⟩ 0 = none := by
    cases h : recAt ⟨#[]⟩ 0 with
    | none => rfl
    | some y => obtain ⟨t, q⟩ := y; have h2 := recAt_lt h; have h3 : (⟨#[]⟩ : ByteArray).size = 0 := rfl; omega
  unfold frames
  rw [show ((⟨#[]⟩ : ByteArray).size + 1) = 0 + 1 from rfl, framesF, h]

/-- the texts that the file of this name begins with -/
noncomputable def ltT (L : List Fl) (x : ByteArray) : List ByteArray := if F.diskB L then textsOf (framesOf (F.fileT L x)) else []
theorem ltT_len (L : List Fl) (x : ByteArray) : (ltT L x).length ≤ 20000 := by
  unfold ltT
  split
  · exact framesOf_len _
  · simp
def LtP (w : World) (M : List ByteArray) (e : Ending) (w' : World) : Prop := ∃ u, e = .returned u ∧ OS w.heap.size w w' u M
theorem LtP.mk {w w' : World} {M : List ByteArray} {u : Value} (h : OS w.heap.size w w' u M) : LtP w M (.returned u) w' := ⟨u, rfl, h⟩
theorem OS.wide {B B' : Nat} {w0 w1 w : World} {v : Value} {l : List ByteArray} (h : OS B' w1 w v l) (hb : Below B w0 w1) (hB : B ≤ B') : OS B w0 w v l := by
  refine ⟨⟨h.1.1, ?_⟩, hb.trans (h.2.1.mono hB), Nat.le_trans hB h.2.2⟩
  rcases h.1.2 with hn | ⟨g, cap, cur, h1, h2, h3⟩
  · exact .inl hn
  · exact .inr ⟨g, cap, cur, h1, Nat.le_trans hB h2, h3⟩

/-- where the file can't be had -/
theorem LogTexts_fault (v : Value) (x : ByteArray) (c : Int) (hc : (c == 0) = false) (w : World) (hv : ∃ a n cap, v = .slice a n cap) (hE : Eh w)
    (h : Calls Tryd.prog 35 #[.agg #[v], .string x] (bxD w v) fun e w' => e = .returned (.tuple #[.string ⟨#[]⟩, faultV c]) ∧ Below (bxD w v).heap.size (bxD w v) w') :
    Calls Tryd.prog 14 #[.agg #[v], .string x] w (LtP w []) := by
  have hb0 := bxD.below w v
  have HH : Hid (∀ W, Below w.heap.size w W → Calls Tryd.prog 27 #[.iface 78 (.agg #[.int .i64 c])] W fun e w' => e = .returned (.int .i64 c) ∧ Below W.heap.size W w') := fun W hW => logCodeOf_hit c W (hE.later hW)
  have HB : Hid (Below w.heap.size w (bxD w v)) := hb0
  obtain ⟨a, n, cap, rfl⟩ := hv
  unfold faultV at h
  unfold bxD at h HB
  clear hE hb0
  go_enter Tryd.func14, Tryd.ntmps14
  go_wp2_with fail
  refine h.mono ?_
  rintro e w1 ⟨rfl, hb1⟩
  have HB1 : Hid (Below w.heap.size w w1) := HB.out.trans (hb1.mono HB.out.size)
  clear HB hb1
  go_wp2_with fail
  refine (HH.out _ HB1.out).mono ?_
  rintro e w2 ⟨rfl, hb2⟩
  have HB2 : Hid (Below w.heap.size w w2) := HB1.out.trans (hb2.mono HB1.out.size)
  clear HB1 hb2
  go_wp2
  go_ret
  exact LtP.mk ((OS.made w2).wide HB2.out HB2.out.size)

theorem LogTexts_well (v : Value) (x T : ByteArray) (w : World) (hv : ∃ a n cap, v = .slice a n cap) (hT : Tab w) (hz : T.size ≤ 1048576)
    (h : Calls Tryd.prog 35 #[.agg #[v], .string x] (bxD w v) fun e w' => e = .returned (.tuple #[.string T, .nilIface]) ∧ Below (bxD w v).heap.size (bxD w v) w') :
    Calls Tryd.prog 14 #[.agg #[v], .string x] w (LtP w (textsOf (framesOf T))) := by
  have hb0 := bxD.below w v
  have hp := hT.pos
  have HU : Hid (∀ W, Below w.heap.size w W → Calls Tryd.prog 36 #[.string T] W (UnQ W (endOf (framesOf T)) (textsOf (framesOf T)))) := fun W hW => Unframe_at T _ _ W hz (hT.later hW hp) ⟨rfl, rfl⟩
  have HB : Hid (Below w.heap.size w (bxD w v)) := hb0
  obtain ⟨a, n, cap, rfl⟩ := hv
  unfold bxD at h HB
  generalize endOf (framesOf T) = E at *
  generalize textsOf (framesOf T) = M at *
  clear hT hb0
  go_enter Tryd.func14, Tryd.ntmps14
  go_wp2_with fail
  refine h.mono ?_
  rintro e w1 ⟨rfl, hb1⟩
  have HB1 : Hid (Below w.heap.size w w1) := HB.out.trans (hb1.mono HB.out.size)
  clear HB hb1
  go_wp2_with fail
  refine (logCodeOf_nil _).mono ?_
  rintro e w2 ⟨rfl, hb2⟩
  have HB2 : Hid (Below w.heap.size w w2) := HB1.out.trans (hb2.mono HB1.out.size)
  clear HB1 hb2
  go_wp2_with fail
  refine (HU.out _ HB2.out).mono ?_
  rintro e w3 ⟨u, rfl, hu⟩
  have HO : Hid (OS w.heap.size w w3 u M) := hu.wide HB2.out HB2.out.size
  clear HB2 hu
  go_wp2
  go_ret
  exact LtP.mk HO.out

theorem LogTexts_any (v : Value) (ga oa : Nat) (L : List Fl) (x : ByteArray) (w : World) (hv : RS 3 fcs w v ga oa L) (hs : SmallF L) (hT : Tab w) (hE : Eh w) :
    Calls Tryd.prog 14 #[.agg #[v], .string x] w (LtP w (ltT L x)) := by
  have hv1 := hv.later (bxD.below w v)
  have hsh : ∃ a n cap, v = .slice a n cap := by obtain ⟨a, c, h⟩ := hv.shape; exact ⟨a, _, c, h⟩
  cases hd : F.diskB L with
  | false =>
    rw [show ltT L x = [] by simp [ltT, hd]]
    exact LogTexts_fault v x 1 rfl w hsh hE (fileOf_disk v ga oa L x _ hv1 hd)
  | true =>
    cases hR : F.fileO L x with
    | false =>
      have e : F.fileT L x = ⟨#[]⟩ := by
        unfold F.fileO at hR
        unfold F.fileT
        cases h : F.find L x with
        | none => rfl
        | some f => rw [h] at hR; cases hR
      rw [show ltT L x = [] by simp [ltT, hd, e, framesOf_none, textsOf]]
      exact LogTexts_fault v x 3 rfl w hsh hE (by simpa using fileOf_at v ga oa L x _ false _ hv1 hs hd rfl hR)
    | true =>
      rw [show ltT L x = textsOf (framesOf (F.fileT L x)) by simp [ltT, hd]]
      exact LogTexts_well v x _ w hsh hT (fileT_le hs) (by simpa using fileOf_at v ga oa L x _ true _ hv1 hs hd rfl hR)

end Go.Proofs.YtadikpmecjjgjaaDoor
