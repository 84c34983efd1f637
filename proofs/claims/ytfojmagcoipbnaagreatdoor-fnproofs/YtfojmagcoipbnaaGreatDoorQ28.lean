/-
  Texts laid together: Rb, Prb, Sm, Sqt.
-/
import Derived.Test.YtfojmagcoipbnaaGreatDoorQ04
import Derived.Test.YtfojmagcoipbnaaGreatDoorQ10
import Derived.Test.YtfojmagcoipbnaaGreatDoorQ08
import Derived.Test.YtfojmagcoipbnaaGreatDoorQ12
import Derived.Test.YtfojmagcoipbnaaGreatDoorQ14
import Derived.Test.YtfojmagcoipbnaaGreatDoorQ27
import Derived.Test.YtfojmagcoipbnaaGreatDoorQ07
import Derived.Lib.QuietBelow
import Derived.Laws.StructEq
import Derived.Test.YtfojmagcoipbnaaGreatDoorQ06
/-
  What was written as leaves is read back; and what is put and dropped is found again, or not.
-/
namespace Go.Proofs.YtfojmagcoipbnaaGreatDoor
open Go.RowKit
set_option linter.unusedVariables false
namespace LV
theorem leafAt_back (s : ByteArray) (f : Le) (pre post : List UInt8) (h1 : f.n.size ≤ 20000) (h2 : f.v.size ≤ 20000) (h : s.data.toList = pre ++ (leL f ++ post)) : leafAt s pre.length = some (f, pre.length + (leL f).length) := by
  have a1 := shortAt_back s f.n pre ((M.varL f.v.size ++ f.v.data.toList) ++ post) h1 (by rw [h]; simp [leL])
  have a2 := shortAt_back s f.v (pre ++ (M.varL f.n.size ++ f.n.data.toList)) post h2 (by rw [h]; simp [leL])
  rw [List.length_append] at a2
  unfold leafAt
  rw [a1]
  simp only
  rw [a2]
  congr 2
  simp [leL]
  omega
theorem leavesF_back (s : ByteArray) : ∀ (L : List Le) (pre : List UInt8), (∀ f ∈ L, f.n.size ≤ 20000 ∧ f.v.size ≤ 20000) → s.data.toList = pre ++ ltL L → leavesF s L.length pre.length = some (L, s.size)
  | [], pre, _, h => by
    have := toList_len s
    rw [h] at this
    simp [ltL] at this
    simp [leavesF, this]
  | f :: r, pre, hs, h => by
    have hf := hs f (by simp)
    have e : s.data.toList = pre ++ (leL f ++ ltL r) := by rw [h]; simp [ltL]
    have a1 := leafAt_back s f pre (ltL r) hf.1 hf.2 e
    have a2 := leavesF_back s r (pre ++ leL f) (fun g hg => hs g (by simp [hg])) (by rw [e]; simp)
    rw [List.length_append] at a2
    rw [List.length_cons, leavesF, a1]
    simp only
    rw [a2]
theorem rawL_back {L : List Le} (h : LOk L) : rawL ⟨(lvL L).toArray⟩ 0 = some (L, (⟨(lvL L).toArray⟩ : ByteArray).size) := by
  have e : (⟨(lvL L).toArray⟩ : ByteArray).data.toList = M.varL L.length ++ ltL L := by simp [lvL]
  have hr : M.readVar (⟨(lvL L).toArray⟩ : ByteArray).data.toList 0 = some (L.length, (M.varL L.length).length) := by
    have := readVar_back [] (ltL L) L.length (by have := h.1; omega)
    simp only [List.nil_append, List.length_nil, Nat.zero_add] at this
    rw [e]
    exact this
  have h24 := h.1
  rw [rawL_at hr (by omega)]
  exact leavesF_back _ L (M.varL L.length) (fun f hf => by have := leB_sizes (h.2.1 f hf); omega) e
theorem rd_back {L : List Le} (h : leavesB L = true) : rdB (lvT L) = true ∧ rdL (lvT L) = L := by
  have hr := rawL_back (leavesB_iff.1 h)
  rw [lvT_yes h]
  unfold rdB rdL
  rw [hr]
  simp [h]

/-! what is put is there, what is dropped is not, and all else stays -/
theorem find_of {L : List Le} (h : Srt L) {f : Le} (hf : f ∈ L) : find L f.n = some f := by
  cases hq : find L f.n with
  | none => exact absurd rfl (find_none hq f hf)
  | some g => rw [srt_inj h (find_some hq).1 hf (find_some hq).2]
theorem find_not {L : List Le} {x : ByteArray} (h : ∀ f ∈ L, f.n ≠ x) : find L x = none := by
  cases hq : find L x with
  | none => rfl
  | some g => exact absurd (find_some hq).2 (h g (find_some hq).1)
theorem get_of {L : List Le} (h : Srt L) {f : Le} (hf : f ∈ L) : getV L f.n = f.v ∧ getB L f.n = true := get_some (find_of h hf)
theorem get_not {L : List Le} {x : ByteArray} (h : ∀ f ∈ L, f.n ≠ x) : getB L x = false := (get_none (find_not h)).2
theorem wout_put {L : List Le} {f : Le} : ∀ g ∈ wout (put L f) f.n, g.n ≠ f.n := fun g hg => (mem_wout.1 hg).2
theorem len_drop {L : List Le} (h : Srt L) (f : Le) : (wout (put L f) f.n).length + 1 = (put L f).length := len_wout_eq (srt_put h f) (mem_put.2 (.inl rfl))
theorem putB_yes {L : List Le} {f : Le} (h : LOk L) (hl : L.length < 24) (hf : leB f = true) : putB L f = true := by
  unfold putB
  rw [leavesB_iff.2 h, hf, decide_eq_true hl]
  simp
theorem dropB_yes {L : List Le} {f : Le} (h : LOk (put L f)) : dropB (put L f) f.n = true := by
  unfold dropB
  rw [leavesB_iff.2 h, find_of h.2.2 (mem_put.2 (.inl rfl))]
  rfl
end LV
end Go.Proofs.YtfojmagcoipbnaaGreatDoor
/-
  What was written as a proof is read back; a bucket says what its list says; a proof's hash is the root.
-/
namespace Go.Proofs.YtfojmagcoipbnaaGreatDoor
open Go.RowKit
set_option linter.unusedVariables false
set_option linter.unusedSimpArgs false

namespace LV
theorem leavesF_post (s : ByteArray) (post : List UInt8) : ∀ (L : List Le) (pre : List UInt8), (∀ f ∈ L, f.n.size ≤ 20000 ∧ f.v.size ≤ 20000) → s.data.toList = pre ++ (ltL L ++ post) → leavesF s L.length pre.length = some (L, pre.length + (ltL L).length)
  | [], pre, _, h => by simp [leavesF, ltL]
  | f :: r, pre, hs, h => by
    have e : s.data.toList = pre ++ (leL f ++ (ltL r ++ post)) := by rw [h]; simp [ltL]
    have h1 := leafAt_back s f pre (ltL r ++ post) (hs f (by simp)).1 (hs f (by simp)).2 e
    have h2 := leavesF_post s post r (pre ++ leL f) (fun g hg => hs g (by simp [hg])) (by rw [e]; simp)
    rw [List.length_append] at h2
    rw [List.length_cons, leavesF, h1]
    simp only
    rw [h2]
    simp [ltL]
    omega
theorem rawL_post {s : ByteArray} {L : List Le} {post : List UInt8} (hL : LOk L) (h : s.data.toList = lvL L ++ post) : rawL s 0 = some (L, (lvL L).length) := by
  have h1 : s.data.toList = [] ++ (M.varL L.length ++ (ltL L ++ post)) := by rw [h]; simp [lvL]
  have hr : M.readVar s.data.toList 0 = some (L.length, 0 + (M.varL L.length).length) := by
    rw [h1]
    exact readVar_back [] _ L.length (by have := hL.1; omega)
  rw [Nat.zero_add] at hr
  have h24 := hL.1
  rw [rawL_at hr (by omega)]
  have h2 := leavesF_post s post L (M.varL L.length) (fun f hf => by have := leB_sizes (hL.2.1 f hf); omega) (by rw [h]; simp [lvL])
  rw [h2]
  simp [lvL]
end LV
theorem piece_back {s a : ByteArray} {pre post : List UInt8} {y : Nat} (h : s.data.toList = pre ++ (a.data.toList ++ post)) (hy : a.size = y) : piece s pre.length y = a := by
  apply LV.bytes_eq
  unfold piece
  rw [LV.extract_cut, h]
  unfold LV.cutL
  have htl := LV.toList_len a
  have e2 : pre.length + y - pre.length = a.data.toList.length := by omega
  rw [List.drop_left, e2]
  exact List.take_left
theorem sdp_cons (s : ByteArray) (y p k : Nat) : sdp s y p (k + 1) = piece s p y :: sdp s y (p + y) k := by
  unfold sdp
  rw [List.range_succ_eq_map, List.map_cons, List.map_map, Nat.zero_mul, Nat.add_zero]
  congr 1
  apply List.map_congr_left
  intro i _
  show piece s (p + (i + 1) * y) y = piece s (p + y + i * y) y
  have e : p + (i + 1) * y = p + y + i * y := by rw [Nat.add_mul, Nat.one_mul]; omega
  rw [e]
theorem sdp_back (s : ByteArray) (y : Nat) : ∀ (S : List ByteArray) (pre : List UInt8), (∀ t ∈ S, t.size = y) → s.data.toList = pre ++ (S.map (·.data.toList)).flatten → sdp s y pre.length S.length = S
  | [], pre, _, _ => rfl
  | a :: r, pre, hs, h => by
    have e : s.data.toList = pre ++ (a.data.toList ++ (r.map (·.data.toList)).flatten) := by rw [h]; simp
    have ha := hs a (by simp)
    have htl := LV.toList_len a
    have h2 := sdp_back s y r (pre ++ a.data.toList) (fun t ht => hs t (by simp [ht])) (by rw [e]; simp)
    rw [List.length_append, htl, ha] at h2
    rw [List.length_cons, sdp_cons, piece_back e ha, h2]
theorem flat_size {S : List ByteArray} {y : Nat} (hs : ∀ t ∈ S, t.size = y) : (S.map (·.data.toList)).flatten.length = S.length * y := by
  induction S with
  | nil => simp
  | cons a r ih =>
    have htl := LV.toList_len a
    have ha := hs a (by simp)
    have := ih (fun t ht => hs t (by simp [ht]))
    simp only [List.map_cons, List.flatten_cons, List.length_append, List.length_cons]
    rw [this, htl, ha, Nat.add_mul, Nat.one_mul]
    omega
/-- **what was written is read back** -/
theorem rp_back {B : List Le} {S : List ByteArray} {y : Nat} (hB : LV.LOk B) (hS : ∀ t ∈ S, t.size = y) (h8 : S.length ≤ 8) (hy : 1 ≤ y ∧ y ≤ 32) :
    pxB B S (y : Int) = true ∧ rpOk (pxT B S (y : Int)) (y : Int) = true ∧ rpL (pxT B S (y : Int)) (y : Int) = B ∧ rpS (pxT B S (y : Int)) (y : Int) = S := by
  have hl : LV.leavesB B = true := LV.leavesB_iff.2 hB
  have hb : pxB B S (y : Int) = true := by
    unfold pxB sidB
    rw [hl, decide_eq_true h8, wideB_good fun j hj => ?_, decide_eq_true (by omega)]
    · rfl
    · rw [hS _ (List.getElem_mem _)]
  have e : (pxT B S (y : Int)).data.toList = LV.lvL B ++ (M.varL S.length ++ (S.map (·.data.toList)).flatten) := by
    unfold pxT joinT
    rw [if_pos hb, lvT_yes hl, ByteArray.data_append, ByteArray.data_append, Array.toList_append, Array.toList_append]
    show LV.lvL B ++ M.varL S.length ++ (S.map (·.data.toList)).flatten = _
    rw [List.append_assoc]
  generalize pxT B S (y : Int) = t at *
  have h1 := LV.rawL_post hB e
  have h2 : M.readVar t.data.toList (LV.lvL B).length = some (S.length, (LV.lvL B).length + (M.varL S.length).length) := by
    rw [e]
    exact LV.readVar_back _ _ S.length (by omega)
  have hsz : (LV.lvL B).length + (M.varL S.length).length + S.length * y = t.size := by
    have h3 := LV.toList_len t
    rw [← h3, e, List.length_append, List.length_append, flat_size hS]
    omega
  have hsd := sdp_back t y S (LV.lvL B ++ M.varL S.length) hS (by rw [e, List.append_assoc])
  rw [List.length_append] at hsd
  have hok : rpOk t (y : Int) = true := by
    unfold rpOk
    rw [h1]
    dsimp only
    rw [h2]
    dsimp only
    rw [hl, Int.toNat_natCast, decide_eq_true (by omega), decide_eq_true h8, decide_eq_true hsz]
    rfl
  refine ⟨hb, hok, ?_, ?_⟩
  · unfold rpL
    rw [h1]
    dsimp only
    rw [hok]
    rfl
  · unfold rpS
    rw [h1]
    dsimp only
    rw [h2]
    dsimp only
    rw [hok, Int.toNat_natCast, hsd]
    rfl
theorem find_bk {L : List Le} {nm : ByteArray} : LV.find (bkL L (idxN nm)) nm = LV.find L nm := by
  unfold LV.find bkL
  induction L with
  | nil => rfl
  | cons f r ih =>
    by_cases hn : f.n = nm
    · have hb : bkP (idxN nm : Int) f = true := by unfold bkP; rw [hn]; simp
      rw [List.filter_cons_of_pos hb, List.find?_cons_of_pos (by simpa using hn), List.find?_cons_of_pos (by simpa using hn)]
    · rw [List.find?_cons_of_neg (by simpa using hn), ← ih]
      by_cases hb : bkP (idxN nm : Int) f = true
      · rw [List.filter_cons_of_pos hb, List.find?_cons_of_neg (by simpa using hn)]
      · rw [List.filter_cons_of_neg hb]
theorem get_bk (L : List Le) (nm : ByteArray) : LV.getV (bkL L (idxN nm)) nm = LV.getV L nm ∧ LV.getB (bkL L (idxN nm)) nm = LV.getB L nm := by
  unfold LV.getV LV.getB
  rw [find_bk]
  exact ⟨rfl, rfl⟩
theorem ph_root {L : List Le} {nm : ByteArray} {x : Int} (hn : okB nameB nm = true) (h : 1 ≤ x ∧ x ≤ 32) (hL : LV.LOk L) : phA nm (bkL L (idxN nm)) (sdL x (idxN nm) L 8) x = trB x 8 0 L ∧ (ptA nm (bkL L (idxN nm)) (sdL x (idxN nm) L 8) x).length = 9 := by
  have hp := pf_right hn h hL
  have e : ptA nm (bkL L (idxN nm)) (sdL x (idxN nm) L 8) x = chL (idxN nm) x (btB (bkL L (idxN nm))) (sdL x (idxN nm) L 8) 9 := by
    unfold ptA
    rw [if_pos hp, sdL_len]
  refine ⟨?_, by rw [e, chL_len]⟩
  unfold phA
  rw [e, lastH_at (k := 8) (by rw [chL_len]), chL_at, chain_fold (idx_255 nm) h _ (by rw [sdL_len]; omega) (fun s hs => by rw [sd_size h hL _ 8 s hs]; omega) 8 (by rw [sdL_len]; omega), List.take_of_length_le (by rw [sdL_len]; omega)]
  exact root_chain h hL _ (idx_255 nm)

end Go.Proofs.YtfojmagcoipbnaaGreatDoor
/-
  Two lists of leaves held against one another by the laws.
-/
namespace Go.Proofs.YtfojmagcoipbnaaGreatDoor
open Go.RowKit Go.BigFrame Go.Sort
set_option linter.unusedVariables false
set_option linter.unusedSimpArgs false

/-- two leaves compared as values -/
theorem neqL (a b : ByteArray) (w : World) : (binOp .neq 121 (.agg #[.string a, .string b]) (.agg #[.string a, .string b])).run Tryz.prog w = .ok (.bool false) w := by
  have u9 := Tryz.underlying9
  have a9 := Tryz.isAgg9
  have z9 := Tryz.sizeOf9
  have hS : Tryz.prog.underlying 121 = some (.struct (Tryz.prog.fieldsOf 121)) := by kernel_rfl
  have hp : Tryz.prog.stoodInHeld 121 = false := by kernel_rfl
  rw [run_neq_struct, show (10000 : Nat) = 9999 + 1 from rfl, run_equalIn_agg w 9999 121 _ _ hS hp]
  simp only [Program.fieldsOf, Tryz.underlying121]
  go_simp
theorem guardL : Tryz.prog.eqGuardType Tryz.prog.depth 121 = false := by kernel_rfl

set_option maxRecDepth 100000 in
set_option maxHeartbeats 400000 in
theorem sameLeaves_yes (u v : Value) (ga oa gb ob : Nat) (l : List Le) (w : World) (hu : RS 2 lcs w u ga oa l) (hv : RS 2 lcs w v gb ob l) :
    Calls Tryz.prog 96 #[u, v] w fun e w' => e = .returned (.bool true) ∧ Below w.heap.size w w' := by
  have HU : Hid (RS 2 lcs w u ga oa l) := hu
  have HV : Hid (RS 2 lcs w v gb ob l) := hv
  obtain ⟨a, cap, rfl, hl, hA, _⟩ := hu
  obtain ⟨b, cap2, rfl, _, hB, _⟩ := hv
  obtain ⟨n, hn⟩ : ∃ n, l.length = n := ⟨_, rfl⟩
  have HA : Hid (0 < n → a = some ⟨ga, oa, none⟩ ∧ b = some ⟨gb, ob, none⟩) := by rw [← hn]; exact fun h => ⟨(hA h).1, (hB h).1⟩
  rw [hn] at hl ⊢
  clear hA hB
  have hgd := guardL
  go_enter Tryz.func96, Tryz.ntmps96
  go_wp2
  go_loopw [5] (fun i wr => ElR n w i wr) (fun i _ => n - (intOf i).toNat)
  case atStart => exact ⟨0, by omega, rfl, Below.refl _ _⟩
  case round =>
    obtain ⟨m, hm, rfl, hbel⟩ := hrel
    by_cases hlt : m < n
    · obtain ⟨ea, eb⟩ := HA.out (by omega)
      subst ea
      subst eb
      obtain ⟨c0, c1⟩ := (HU.out.later hbel).leaf m (by omega)
      obtain ⟨e0, e1⟩ := (HV.out.later hbel).leaf m (by omega)
      generalize l[m]'(by omega) = X at *
      have i1 : (m : Int) < (n : Int) := by omega
      have i2 : (0 : Int) ≤ (m : Int) := by omega
      have hneq := neqL X.n X.v
      clear HU HV HA
      go_wp2
      have kq0 := cell_regrown (w := wr) c0
      have kq1 := cell_regrown (w := wr) c1
      have kq3 := cell_regrown (w := wr) e0
      have kq4 := cell_regrown (w := wr) e1
      refine wp_region_quiet_below (by kernel_rfl) (by kernel_rfl) ?_
      repeat (go_big_quiet_step (fail))
      refine wpQuiet_nil ?_
      rintro _ ⟨⟨dq, osq⟩, rfl⟩
      have hb6 := below_regrown (wr) dq osq
      generalize grow (redrawn (wr) dq) osq = w6 at *
      clear kq0 kq1 kq3 kq4
      go_wp2
      go_roundw
      case rel => exact ⟨m + 1, by omega, by go_num, hbel.trans (hb6.mono hbel.size)⟩
      case measure => simp [intOf]; omega
    · have hme : m = n := by omega
      subst hme
      clear HU HV HA
      go_wp2
      go_ret
      exact ⟨rfl, hbel⟩

end Go.Proofs.YtfojmagcoipbnaaGreatDoor
/-
  Two rows of texts held against one another by the laws.
-/
namespace Go.Proofs.YtfojmagcoipbnaaGreatDoor
open Go.RowKit Go.BigFrame Go.Sort
set_option linter.unusedVariables false
set_option linter.unusedSimpArgs false

set_option maxRecDepth 100000 in
set_option maxHeartbeats 400000 in
theorem sameTexts_yes (va vb : Value) (ga oa gb ob : Nat) (l : List ByteArray) (w : World) (ha : SS w va ga oa l) (hb : SS w vb gb ob l) :
    Calls Tryz.prog 32 #[va, vb] w fun e w' => e = .returned (.bool true) ∧ ∃ q, w' = w.drewN q := by
  obtain ⟨a, ca, rfl, hl, hA, hcA⟩ := ha
  obtain ⟨b, cb, rfl, _, hB, hcB⟩ := hb
  obtain ⟨n, hn⟩ : ∃ n, l.length = n := ⟨_, rfl⟩
  rw [hn] at hl ⊢
  have HA : Hid (0 < n → a = some ⟨ga, oa, none⟩) := by rw [← hn]; exact hA
  have HB : Hid (0 < n → b = some ⟨gb, ob, none⟩) := by rw [← hn]; exact hB
  clear hA hB
  go_enter Tryz.func32, Tryz.ntmps32
  go_wp2
  go_loopw [5] (fun i wr => EqS n w i wr) (fun i _ => n - (intOf i).toNat)
  case atStart => exact ⟨0, 0, by omega, rfl, rfl⟩
  case round =>
    obtain ⟨m, q, hm, rfl, rfl⟩ := hrel
    by_cases hlt : m < n
    · have ea := HA.out (by omega)
      have eb := HB.out (by omega)
      subst ea
      subst eb
      have c1 := hcA m (by omega)
      have c2 := hcB m (by omega)
      generalize l[m]'(by omega) = X at *
      have i1 : (m : Int) < (n : Int) := by omega
      have i2 : (0 : Int) ≤ (m : Int) := by omega
      clear hcA hcB HA HB
      go_wp2
      go_quiet (fail)
      go_wp2
      go_roundw
      case rel => exact ⟨m + 1, _, by omega, by go_num, rfl⟩
      case measure => simp [intOf]; omega
    · have hme : m = n := by omega
      subst hme
      clear hcA hcB HA HB
      go_wp2
      go_ret
      exact ⟨rfl, q, rfl⟩

end Go.Proofs.YtfojmagcoipbnaaGreatDoor
