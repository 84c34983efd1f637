/-
  The walk of the law FnExactUnframe: it answers true of every file.
-/
import Derived.Test.YtgekibidglnmoaaDoorUf
namespace Go.Proofs.YtgekibidglnmoaaDoor
open Go.RowKit
set_option linter.unusedVariables false

theorem framesF_len (s : ByteArray) : ∀ (f p : Nat), p ≤ s.size → (framesF s f p).length ≤ s.size - p
  | 0, p, _ => by simp [framesF]
  | f + 1, p, hp => by
    rw [framesF]
    cases hr : recAt s p with
    | none => simp
    | some x =>
      obtain ⟨t, q⟩ := x
      obtain ⟨h1, h2⟩ := recAt_lt hr
      have := framesF_len s f q h2
      simp only [List.length_cons]
      omega
theorem framesOf_len (s : ByteArray) : (textsOf (framesOf s)).length ≤ 20000 := by
  rw [textsOf_len]
  unfold framesOf
  split
  · have := framesF_len s (s.size + 1) 0 (by omega)
    unfold frames
    omega
  · simp

def UnQ (w : World) (E : Nat) (L : List ByteArray) (e : Ending) (w' : World) : Prop := ∃ v, e = .returned (.tuple #[v, .int .i64 (E : Int)]) ∧ OS w.heap.size w w' v L

theorem sUnframe_at (s : ByteArray) (E : Nat) (L : List ByteArray) (w : World) (hm : s.size ≤ 1048576) (h : endOf (framesOf s) = E ∧ textsOf (framesOf s) = L) :
    Calls Tryd.prog 13 #[.string s] w (UnQ w E L) := by
  obtain ⟨rfl, rfl⟩ := h
  exact sUnframe_any s w hm
theorem Unframe_at (s : ByteArray) (E : Nat) (L : List ByteArray) (w : World) (hm : s.size ≤ 1048576) (hT : Tab w) (h : endOf (framesOf s) = E ∧ textsOf (framesOf s) = L) :
    Calls Tryd.prog 10 #[.string s] w (UnQ w E L) := by
  obtain ⟨rfl, rfl⟩ := h
  exact Unframe_any s w hm hT

set_option maxRecDepth 100000 in
set_option maxHeartbeats 2000000 in
theorem unframeLaw_any (s : ByteArray) (w : World) (hs : s.size ≤ 1048576) (hT : Tab w) :
    Calls Tryd.prog 5 #[.string s] w fun e w' => e = .returned (.bool true) ∧ Below w.heap.size w w' := by
  obtain ⟨E, L, hP⟩ : ∃ E L, endOf (framesOf s) = E ∧ textsOf (framesOf s) = L := ⟨_, _, rfl, rfl⟩
  have hL : L.length ≤ 20000 := by rw [← hP.2]; exact framesOf_len s
  have HP : Hid (endOf (framesOf s) = E ∧ textsOf (framesOf s) = L) := hP
  have hp := hT.pos
  have HT : Hid (Tab w) := hT
  clear hP hT
  go_enter Tryd.func5, Tryd.ntmps5
  go_wp2_with fail
  refine (sUnframe_at s E L _ hs HP.out).mono ?_
  rintro e w1 ⟨vW, rfl, hW1⟩
  obtain ⟨gW, tW1, _⟩ := hW1.ts (by omega)
  have lW := tW1.lt
  have hp1 : 0 < w1.heap.size := by have := hW1.2.1.size; omega
  have HT1 : Hid (Tab w1) := HT.out.later hW1.2.1 hp
  go_wp2_with fail
  refine (Unframe_at s E L _ hs HT1.out HP.out).mono ?_
  rintro e w2 ⟨vG, rfl, hG2⟩
  obtain ⟨g, tG2, hgB⟩ := hG2.ts (by omega)
  have tW2 := tW1.later hG2.2.1
  go_wp2_with fail
  refine (eqStringS_yes vG vW g 0 gW 0 L _ tG2.ss tW2.ss).mono ?_
  rintro e w3 ⟨rfl, q, rfl⟩
  have tG3 := tG2.drewN q
  have b13 : Below w1.heap.size w1 (w2.drewN q) := below_drn hG2.2.1 q
  have tW3 := tW2.drewN q
  have hs3 : w1.heap.size ≤ (w2.drewN q).heap.size := b13.size
  generalize w2.drewN q = w3 at *
  go_wp2_with fail
  refine (markStringS_any vG g L 1 1 _ rfl tG3 (by omega) (by omega)).mono ?_
  rintro e w4 ⟨rfl, tG4, hg4⟩
  have b14 : Below w1.heap.size w1 w4 := b13.grown hg4 hs3 (fun k hk => by
    unfold rowOf at hk
    split at hk
    · simp at hk
    · simp at hk; omega)
  have tW4 := tW1.keptG (w' := w4) (row := none) (grown_below b14) (fun _ => by simp)
  go_wp2_with fail
  refine (heldStringS_any vG g 1 1 L.length _ rfl tG4 (by omega) (by omega)).mono ?_
  rintro e w5 ⟨rfl, hb5⟩
  have tG5 := tG4.later hb5
  have tW5 := tW4.later hb5
  have b15 := b14.trans (hb5.mono b14.size)
  have hne : ¬ (((1 + L.length : Nat) : Int) < 0) := by omega
  have HT5 : Hid (Tab w5) := HT1.out.later b15 hp1
  go_wp2_with fail
  refine (Unframe_at s E L _ hs HT5.out HP.out).mono ?_
  rintro e w6 ⟨vH, rfl, hH6⟩
  obtain ⟨gH, tH6, _⟩ := hH6.ts (by omega)
  have tG6 := tG5.later hH6.2.1
  have tW6 := tW5.later hH6.2.1
  have b16 := b15.trans (hH6.2.1.mono b15.size)
  go_wp2_with fail
  refine (eqStringS_yes vH vW gH 0 gW 0 L _ tH6.ss tW6.ss).mono ?_
  rintro e w7 ⟨rfl, q2, rfl⟩
  have tG7 := tG6.drewN q2
  have b17 := below_drn b16 q2
  generalize w6.drewN q2 = w7 at *
  go_wp2_with fail
  refine (heldStringS_any vG g 1 1 L.length _ rfl tG7 (by omega) (by omega)).mono ?_
  rintro e w8 ⟨rfl, hb8⟩
  have b18 := b17.trans (hb8.mono b17.size)
  go_wp2
  go_ret
  exact ⟨rfl, hW1.2.1.trans (b18.mono hW1.2.1.size)⟩

end Go.Proofs.YtgekibidglnmoaaDoor
