/-
  A leaf put into a list, and dropped from it: the program's answers.
-/
import Derived.Test.YtofdlkfihhjlgaaDoorMt
namespace Go.Proofs.YtofdlkfihhjlgaaDoor
open Go.RowKit Go.BigFrame Go.Sort Go.Maps
set_option linter.unusedVariables false
set_option linter.unusedSimpArgs false

/-- a list answered, and whether -/
def LqP (M : List Le) (R : Bool) (w : World) (e : Ending) (w' : World) : Prop := ∃ a cap g, e = .returned (.tuple #[.slice a M.length cap, .bool R]) ∧ RW 2 lcs w' (.slice a M.length cap) g M ∧ w.heap.size ≤ g ∧ Below w.heap.size w w'
theorem putR_no {L : List Le} {f : Le} (h : LV.putB L f = false) : LV.putR L f = L := by unfold LV.putR; rw [h]; rfl
theorem putR_yes {L : List Le} {f : Le} (h : LV.putB L f = true) : LV.putR L f = LV.put L f := by unfold LV.putR; rw [h]; rfl
theorem dropR_no {L : List Le} {x : ByteArray} (h : LV.dropB L x = false) : LV.dropR L x = L := by unfold LV.dropR; rw [h]; rfl
theorem dropR_yes {L : List Le} {x : ByteArray} (h : LV.dropB L x = true) : LV.dropR L x = LV.wout L x := by unfold LV.dropR; rw [h]; rfl

set_option maxRecDepth 100000 in
set_option maxHeartbeats 1000000 in
theorem LeafPut_any (v : Value) (ga oa : Nat) (L : List Le) (f : Le) (w : World) (hv : RS 2 lcs w v ga oa L) (hsm : SmallL L) (hn : f.n.size ≤ 1048576) (hvs : f.v.size ≤ 1048576) :
    Calls Tryd.prog 7 #[v, .string f.n, .string f.v] w (LqP (LV.putR L f) (LV.putB L f) w) := by
  obtain ⟨a, cap, rfl⟩ := hv.shape
  have HCP : Hid (∀ W, Below w.heap.size w W → Calls Tryd.prog 33 #[.slice a L.length cap] W fun e w' => ∃ g, e = .returned (.slice (some ⟨g, 0, none⟩) L.length L.length) ∧ W.heap.size ≤ g ∧ RW 2 lcs w' (.slice (some ⟨g, 0, none⟩) L.length L.length) g L ∧ Below W.heap.size W w') := fun W hW => leavesCopy_any _ ga oa L W (hv.later hW) hsm
  cases hd : LV.leavesB L
  · have hS := leafSetOf_no _ ga oa L w hv hsm hd
    have hpb : LV.putB L f = false := by unfold LV.putB; rw [hd]; rfl
    have HQ : Hid (LV.putB L f = false ∧ LV.putR L f = L) := ⟨hpb, putR_no hpb⟩
    clear hv hd hpb
    go_enter Tryd.func7, Tryd.ntmps7
    go_wp2_with fail
    refine hS.mono ?_
    rintro e w1 ⟨rfl, hb1⟩
    clear hS
    go_wp2_with fail
    refine (HCP.out _ hb1).mono ?_
    rintro e w2 ⟨g, rfl, hg, hr, hb2⟩
    have HF : Hid (RW 2 lcs w2 (.slice (some ⟨g, 0, none⟩) L.length L.length) g L ∧ w.heap.size ≤ g ∧ Below w.heap.size w w2) := ⟨hr, by have := hb1.size; omega, hb1.trans (hb2.mono hb1.size)⟩
    clear hr hb2 hb1 hg HCP
    go_wp2
    go_ret2
    unfold LqP
    rw [HQ.out.1, HQ.out.2]
    exact ⟨_, _, g, rfl, HF.out⟩
  · have hS := leafSetOf_yes _ ga oa L w hv hsm hd
    have HL : Hid (LV.LOk L) := LV.leavesB_iff.1 hd
    clear hv hd
    go_enter Tryd.func7, Tryd.ntmps7
    go_wp2_with fail
    refine hS.mono ?_
    rintro e w1 ⟨b, rfl, hm1⟩
    have hP := putL_any w.heap.size w w1 b L f hm1 HL.out hn hvs
    clear hS hm1
    go_wp2_with fail
    refine hP.mono ?_
    rintro e w2 ⟨rfl, hm2⟩
    clear hP
    have b2 : Below w.heap.size w w2 := hm2.2.2.1
    cases hpb : LV.putB L f
    · have HQ : Hid (LV.putB L f = false ∧ LV.putR L f = L) := ⟨hpb, putR_no hpb⟩
      clear hm2
      go_wp2_with fail
      refine (HCP.out _ b2).mono ?_
      rintro e w3 ⟨g, rfl, hg, hr, hb3⟩
      have HF : Hid (RW 2 lcs w3 (.slice (some ⟨g, 0, none⟩) L.length L.length) g L ∧ w.heap.size ≤ g ∧ Below w.heap.size w w3) := ⟨hr, by have := b2.size; omega, b2.trans (hb3.mono b2.size)⟩
      clear hr hb3 b2 hg HCP hpb
      go_wp2
      go_ret2
      unfold LqP
      rw [HQ.out.1, HQ.out.2]
      exact ⟨_, _, g, rfl, HF.out⟩
    · have HQ : Hid (LV.putB L f = true) := hpb
      have hok : LV.LOk (LV.putR L f) := by rw [putR_yes hpb]; exact LV.putB_ok hpb
      have hli := listL_any w w2 w.heap.size b (LV.putR L f) hm2 hok
      generalize LV.putR L f = M at *
      clear hm2 hok HCP
      go_wp2_with fail
      refine hli.mono ?_
      rintro e w3 ⟨g, cap3, rfl, hg, hr, hb3⟩
      have HF : Hid (RW 2 lcs w3 (.slice (some ⟨g, 0, none⟩) M.length cap3) g M ∧ w.heap.size ≤ g ∧ Below w.heap.size w w3) := ⟨hr, by have := b2.size; omega, b2.trans (hb3.mono b2.size)⟩
      clear hr hb3 b2 hg hli hpb
      go_wp2
      go_ret2
      unfold LqP
      rw [HQ.out]
      exact ⟨_, _, g, rfl, HF.out⟩

set_option maxRecDepth 100000 in
set_option maxHeartbeats 1000000 in
theorem LeafDrop_any (v : Value) (ga oa : Nat) (L : List Le) (x : ByteArray) (w : World) (hv : RS 2 lcs w v ga oa L) (hsm : SmallL L) (hx : x.size ≤ 1048576) :
    Calls Tryd.prog 9 #[v, .string x] w (LqP (LV.dropR L x) (LV.dropB L x) w) := by
  obtain ⟨a, cap, rfl⟩ := hv.shape
  have HCP : Hid (∀ W, Below w.heap.size w W → Calls Tryd.prog 33 #[.slice a L.length cap] W fun e w' => ∃ g, e = .returned (.slice (some ⟨g, 0, none⟩) L.length L.length) ∧ W.heap.size ≤ g ∧ RW 2 lcs w' (.slice (some ⟨g, 0, none⟩) L.length L.length) g L ∧ Below W.heap.size W w') := fun W hW => leavesCopy_any _ ga oa L W (hv.later hW) hsm
  cases hd : LV.leavesB L
  · have hS := leafSetOf_no _ ga oa L w hv hsm hd
    have hpb : LV.dropB L x = false := by unfold LV.dropB; rw [hd]; rfl
    have HQ : Hid (LV.dropB L x = false ∧ LV.dropR L x = L) := ⟨hpb, dropR_no hpb⟩
    clear hv hd hpb
    go_enter Tryd.func9, Tryd.ntmps9
    go_wp2_with fail
    refine hS.mono ?_
    rintro e w1 ⟨rfl, hb1⟩
    clear hS
    go_wp2_with fail
    refine (HCP.out _ hb1).mono ?_
    rintro e w2 ⟨g, rfl, hg, hr, hb2⟩
    have HF : Hid (RW 2 lcs w2 (.slice (some ⟨g, 0, none⟩) L.length L.length) g L ∧ w.heap.size ≤ g ∧ Below w.heap.size w w2) := ⟨hr, by have := hb1.size; omega, hb1.trans (hb2.mono hb1.size)⟩
    clear hr hb2 hb1 hg HCP
    go_wp2
    go_ret2
    unfold LqP
    rw [HQ.out.1, HQ.out.2]
    exact ⟨_, _, g, rfl, HF.out⟩
  · have hS := leafSetOf_yes _ ga oa L w hv hsm hd
    have hok := LV.leavesB_iff.1 hd
    have hdb : LV.dropB L x = (LV.find L x).isSome := by unfold LV.dropB; rw [hd]; rfl
    have HOW : Hid (LV.LOk (LV.wout L x)) := LV.ok_wout hok x
    clear hv hd
    go_enter Tryd.func9, Tryd.ntmps9
    go_wp2_with fail
    refine hS.mono ?_
    rintro e w1 ⟨b, rfl, hm1⟩
    have hP := dropL_any w.heap.size w w1 b L x hm1 hx
    rw [← hdb] at hP
    clear hS hm1
    go_wp2_with fail
    refine hP.mono ?_
    rintro e w2 ⟨rfl, hm2⟩
    clear hP
    have b2 : Below w.heap.size w w2 := hm2.2.2.1
    cases hpb : LV.dropB L x
    · have HQ : Hid (LV.dropB L x = false ∧ LV.dropR L x = L) := ⟨hpb, dropR_no hpb⟩
      clear hm2
      go_wp2_with fail
      refine (HCP.out _ b2).mono ?_
      rintro e w3 ⟨g, rfl, hg, hr, hb3⟩
      have HF : Hid (RW 2 lcs w3 (.slice (some ⟨g, 0, none⟩) L.length L.length) g L ∧ w.heap.size ≤ g ∧ Below w.heap.size w w3) := ⟨hr, by have := b2.size; omega, b2.trans (hb3.mono b2.size)⟩
      clear hr hb3 b2 hg HCP hpb hdb
      go_wp2
      go_ret2
      unfold LqP
      rw [HQ.out.1, HQ.out.2]
      exact ⟨_, _, g, rfl, HF.out⟩
    · have HQ : Hid (LV.dropB L x = true ∧ LV.dropR L x = LV.wout L x) := ⟨hpb, dropR_yes hpb⟩
      rw [hpb] at hm2
      have hli := listL_any w w2 w.heap.size b (LV.wout L x) (by simpa using hm2) HOW.out
      generalize LV.wout L x = M at *
      clear hm2 HOW HCP hdb
      go_wp2_with fail
      refine hli.mono ?_
      rintro e w3 ⟨g, cap3, rfl, hg, hr, hb3⟩
      have HF : Hid (RW 2 lcs w3 (.slice (some ⟨g, 0, none⟩) M.length cap3) g M ∧ w.heap.size ≤ g ∧ Below w.heap.size w w3) := ⟨hr, by have := b2.size; omega, b2.trans (hb3.mono b2.size)⟩
      clear hr hb3 b2 hg hli hpb
      go_wp2
      go_ret2
      unfold LqP
      rw [HQ.out.1, HQ.out.2]
      exact ⟨_, _, g, rfl, HF.out⟩

end Go.Proofs.YtofdlkfihhjlgaaDoor
