/-
  A leaf copied: the program's answer.
-/
import Derived.Test.YtmcejkfknbjjkaaLr
import Derived.Test.YtmcejkfknbjjkaaShelf
import Derived.Deep.RegionHeld3
namespace Go.Proofs.Ytmcejkfknbjjkaa
open Go.RowKit Go.BigFrame Go.Sort
set_option linter.unusedVariables false
set_option linter.unusedSimpArgs false

set_option maxRecDepth 100000 in
set_option maxHeartbeats 1000000 in
theorem copiedL_any (f : Le) (w : World) (hn : f.n.size ≤ 1048576) (hv : f.v.size ≤ 1048576) : Calls Try.prog 32 #[.agg #[.string f.n, .string f.v]] w fun e w' => e = .returned (.agg #[.string f.n, .string f.v]) ∧ Below w.heap.size w w' := by
  obtain ⟨x, t⟩ := f
  simp only at hn hv ⊢
  have hb0 : Below w.heap.size w ((w.alloc (.cells #[.string x, .string t] 38)).alloc (.cells #[.string ⟨#[]⟩, .string ⟨#[]⟩] 38)) := ((Below.refl _ _).alloc (Nat.le_refl _) _).alloc (by simp) _
  have hG1 : BL ((w.alloc (.cells #[.string x, .string t] 38)).alloc (.cells #[.string ⟨#[]⟩, .string ⟨#[]⟩] 38)) w.heap.size x t := alloc_snd _ _ _ rfl
  have hG2 : BL ((w.alloc (.cells #[.string x, .string t] 38)).alloc (.cells #[.string ⟨#[]⟩, .string ⟨#[]⟩] 38)) (w.heap.size + 1) ⟨#[]⟩ ⟨#[]⟩ := alloc_fst _ _ (by simp)
  have hs0 : ((w.alloc (.cells #[.string x, .string t] 38)).alloc (.cells #[.string ⟨#[]⟩, .string ⟨#[]⟩] 38)).heap.size = w.heap.size + 2 := by simp
  have HK : Hid (∀ W, Below ((w.alloc (.cells #[.string x, .string t] 38)).alloc (.cells #[.string ⟨#[]⟩, .string ⟨#[]⟩] 38)).heap.size ((w.alloc (.cells #[.string x, .string t] 38)).alloc (.cells #[.string ⟨#[]⟩, .string ⟨#[]⟩] 38)) W → W.cell? ⟨w.heap.size, 0, none⟩ = some (.string x) ∧ W.cell? ⟨w.heap.size, 1, none⟩ = some (.string t)) := fun W hW => ⟨(hG1.later hW).c0, (hG1.later hW).c1⟩
  have HK2 : Hid (∀ W, Below ((w.alloc (.cells #[.string x, .string t] 38)).alloc (.cells #[.string ⟨#[]⟩, .string ⟨#[]⟩] 38)).heap.size ((w.alloc (.cells #[.string x, .string t] 38)).alloc (.cells #[.string ⟨#[]⟩, .string ⟨#[]⟩] 38)) W → BL W (w.heap.size + 1) ⟨#[]⟩ ⟨#[]⟩) := fun W hW => hG2.later hW
  have HB0 : Hid (Below w.heap.size w ((w.alloc (.cells #[.string x, .string t] 38)).alloc (.cells #[.string ⟨#[]⟩, .string ⟨#[]⟩] 38)) ∧ w.heap.size ≤ ((w.alloc (.cells #[.string x, .string t] 38)).alloc (.cells #[.string ⟨#[]⟩, .string ⟨#[]⟩] 38)).heap.size) := ⟨hb0, by rw [hs0]; omega⟩
  have hb : Below ((w.alloc (.cells #[.string x, .string t] 38)).alloc (.cells #[.string ⟨#[]⟩, .string ⟨#[]⟩] 38)).heap.size ((w.alloc (.cells #[.string x, .string t] 38)).alloc (.cells #[.string ⟨#[]⟩, .string ⟨#[]⟩] 38)) ((w.alloc (.cells #[.string x, .string t] 38)).alloc (.cells #[.string ⟨#[]⟩, .string ⟨#[]⟩] 38)).drew := (Below.refl _ _).drew
  clear hb0 hG1 hG2 hs0
  go_enter Try.func32, Try.ntmps32
  go_wp2
  go_region_held3 (fun W => W.cell? ⟨w.heap.size, 0, none⟩ = some (.string x) ∧ W.cell? ⟨w.heap.size, 1, none⟩ = some (.string t)) (first | go_keep | exact HK.out _ hb) ((go_at_call 48; refine (Clone_any _ _ (by first | exact hn | exact hv)).mono ?_; rintro e w1 ⟨rfl, hb1'⟩; have hb := hb.trans (hb1'.mono hb.size); have t0 := (HK2.out _ hb).c0; have t1 := (HK2.out _ hb).c1; have g0 := (HK2.out _ hb).f0; have g1 := (HK2.out _ hb).f1))
  have HF : Hid ((w1.setCells (w.heap.size + 1) 0 [.string x, .string t]).rangeAt (w.heap.size + 1) 0 [.string x, .string t] ∧ Below w.heap.size w (w1.setCells (w.heap.size + 1) 0 [.string x, .string t])) :=
    ⟨(HK2.out _ hb).put x t, below_setCells (by omega) _ _ _ (HB0.out.1.trans (hb.mono HB0.out.2))⟩
  go_wp2
  exact ret_rec 2 (w.heap.size + 1) 38 [.string x, .string t] _ rfl rfl rfl Try.underlying38 rfl sizeLeaf HF.out.1 ⟨rfl, HF.out.2⟩

end Go.Proofs.Ytmcejkfknbjjkaa
