/-
  A drawn right disk; and the small helpers of the law FnKeeps: lefts, sameDisk, begins.
-/
import Derived.Test.YtbmlphlknolieaaPu
import Derived.Test.YtbmlphlknolieaaLsl
import Derived.Test.YtbmlphlknolieaaPlaces
namespace Go.Proofs.Ytbmlphlknolieaa
open Go.RowKit Go.BigFrame Go.Sort
set_option linter.unusedVariables false
set_option linter.unusedSimpArgs false

theorem code_later {w w' : World} {v : Value} (h : Code w.heap.size w v) (hb : Below w.heap.size w w') : Code w'.heap.size w' v := by
  obtain ⟨ao, b, off, len, cap, rfl, hl, h1, h2⟩ := h
  refine ⟨ao, b, off, len, cap, rfl, hl, fun h0 => ⟨(h1 h0).1, Nat.lt_of_lt_of_le (h1 h0).2 hb.size⟩, fun j hj => ?_⟩
  obtain ⟨n, hn, hc⟩ := h2 j hj
  exact ⟨n, hn, (hb.cell (p := ⟨b, off + j, none⟩) (h1 (by omega)).2).trans hc⟩

theorem l01Pick_in (B : Nat) (w0 w : World) (g : Nat) (v : Value) (gl cap : Nat) (zs : List ByteArray) (hc : Cur B w0 w g v) (h0 : 0 < zs.length) (h1 : zs.length ≤ 1000000) (hne : gl ≠ g)
    (hcell : Hid (∀ j, (h : j < zs.length) → w.cell? ⟨gl, j, none⟩ = some (.string zs[j]))) :
    Calls Try.prog 76 #[.pointer (some ⟨g, 0, none⟩), .slice (some ⟨gl, 0, none⟩) zs.length cap] w fun e w' => ∃ y : ByteArray, y ∈ zs ∧ e = .returned (.string y) ∧ Cur B w0 w' g v ∧ w.grownBy w' (some g) := by
  go_enter Try.func76, Try.ntmps76
  go_wp2_with fail
  refine (l01Below_nat B w0 _ g v zs.length hc h0 (by omega)).mono ?_
  rintro e w1 ⟨j, hj, rfl, hc1, hg1⟩
  have hcl : w1.cell? ⟨gl, j, none⟩ = some (.string zs[j]) := hg1.cell (hcell.out j hj) (by simpa using hne)
  go_wp2
  go_ret
  exact ⟨zs[j], List.getElem_mem _, rfl, hc1, hg1⟩

def namedL : List ByteArray := [⟨#[97]⟩, ⟨#[98]⟩, ⟨#[99]⟩, ⟨#[106, 48]⟩, ⟨#[106, 49]⟩, ⟨#[106, 43]⟩, ⟨#[115, 48]⟩, ⟨#[115, 43]⟩]
def namedC : Array Value := #[.string ⟨#[97]⟩, .string ⟨#[98]⟩, .string ⟨#[99]⟩, .string ⟨#[106, 48]⟩, .string ⟨#[106, 49]⟩, .string ⟨#[106, 43]⟩, .string ⟨#[115, 48]⟩, .string ⟨#[115, 43]⟩]
theorem named_ok (y : ByteArray) (h : y ∈ namedL) : F.nmB y = true := by
  simp only [namedL, List.mem_cons, List.not_mem_nil, or_false] at h
  rcases h with rfl | rfl | rfl | rfl | rfl | rfl | rfl | rfl <;> rfl
theorem named_at (w : World) : Hid (∀ j, (h : j < namedL.length) → (w.alloc (.cells namedC 9)).cell? ⟨w.heap.size, j, none⟩ = some (.string namedL[j])) := by
  intro j hj
  rw [World.cell?_alloc_at _ _ _ _ rfl]
  have : j = 0 ∨ j = 1 ∨ j = 2 ∨ j = 3 ∨ j = 4 ∨ j = 5 ∨ j = 6 ∨ j = 7 := by simp [namedL] at hj; omega
  rcases this with rfl | rfl | rfl | rfl | rfl | rfl | rfl | rfl <;> rfl

theorem l06Named_in (B : Nat) (w0 w : World) (g : Nat) (v : Value) (hc : Cur B w0 w g v) :
    Calls Try.prog 51 #[.pointer (some ⟨g, 0, none⟩)] w fun e w' => ∃ y : ByteArray, F.nmB y = true ∧ e = .returned (.string y) ∧ Cur B w0 w' g v ∧ w.grownBy w' (some g) := by
  have hlt := hc.lt
  have hga : w.grownBy (w.alloc (.cells namedC 9)) (some g) := World.grownBy_alloc w _ _
  have hca : Cur B w0 (w.alloc (.cells namedC 9)) g v := hc.kept (World.grownBy_alloc w _ none) (by simp) hc.size (fun k hk => by cases hk)
  have HP : Calls Try.prog 76 #[.pointer (some ⟨g, 0, none⟩), .slice (some ⟨w.heap.size, 0, none⟩) 8 8] (w.alloc (.cells namedC 9)) fun e w' => ∃ y : ByteArray, F.nmB y = true ∧ e = .returned (.string y) ∧ Cur B w0 w' g v ∧ w.grownBy w' (some g) :=
    (l01Pick_in B w0 (w.alloc (.cells namedC 9)) g v w.heap.size 8 namedL hca (by decide) (by decide) (by omega) (named_at w)).mono fun e w' ⟨y, hy, he, hc', hg⟩ => ⟨y, named_ok y hy, he, hc', hga.trans hg⟩
  clear hca hga
  go_enter Try.func51, Try.ntmps51
  go_wp2_with fail
  refine HP.mono ?_
  rintro e w1 ⟨y, hy, rfl, hc1, hg1⟩
  go_wp2
  go_ret
  exact ⟨y, hy, rfl, hc1, hg1⟩

/-- a cursor, and a disk in its box -/
def DrS (B : Nat) (w0 : World) (g : Nat) (v : Value) (p : Nat) (s : Value) (q : Nat) (L : List Fl) (W : World) : Prop :=
  Cur B w0 W g v ∧ BD W p 26 s ∧ RW 3 fcs W s q L ∧ B ≤ p ∧ p ≠ g ∧ B ≤ q ∧ (0 < L.length → q ≠ g ∧ q ≠ p)
theorem DrS.cur {B : Nat} {w0 : World} {g : Nat} {v : Value} {p : Nat} {s : Value} {q : Nat} {L : List Fl} {W : World} (h : DrS B w0 g v p s q L W) : Cur B w0 W g v := h.1
theorem DrS.cell {B : Nat} {w0 : World} {g : Nat} {v : Value} {p : Nat} {s : Value} {q : Nat} {L : List Fl} {W : World} (h : DrS B w0 g v p s q L W) : W.cell? ⟨p, 0, none⟩ = some s := h.2.1.cell
theorem DrS.fr {B : Nat} {w0 : World} {g : Nat} {v : Value} {p : Nat} {s : Value} {q : Nat} {L : List Fl} {W : World} (h : DrS B w0 g v p s q L W) : W.frozen? ⟨p, 0, none⟩ = false := h.2.1.fr
theorem DrS.rs {B : Nat} {w0 : World} {g : Nat} {v : Value} {p : Nat} {s : Value} {q : Nat} {L : List Fl} {W : World} (h : DrS B w0 g v p s q L W) : RS 3 fcs W s q 0 L := h.2.2.1.1
theorem DrS.drew {B : Nat} {w0 : World} {g : Nat} {v : Value} {p : Nat} {s : Value} {q : Nat} {L : List Fl} {W : World} (h : DrS B w0 g v p s q L W) : DrS B w0 g v p s q L W.drew :=
  ⟨h.1.drn 1, h.2.1, h.2.2.1, h.2.2.2⟩
theorem DrS.grown {B : Nat} {w0 : World} {g : Nat} {v : Value} {p : Nat} {s : Value} {q : Nat} {L : List Fl} {W W' : World} (h : DrS B w0 g v p s q L W) (hc : Cur B w0 W' g v) (hg : W.grownBy W' (some g)) : DrS B w0 g v p s q L W' :=
  ⟨hc, h.2.1.grown hg (by have := h.2.2.2.2.1; simpa using this), h.2.2.1.grown hg (fun h0 => by have := (h.2.2.2.2.2.2 h0).1; simpa using this), h.2.2.2⟩
theorem DrS.below {B : Nat} {w0 : World} {g : Nat} {v : Value} {p : Nat} {s : Value} {q : Nat} {L : List Fl} {W W' : World} (h : DrS B w0 g v p s q L W) (hb : Below W.heap.size W W') : DrS B w0 g v p s q L W' :=
  ⟨h.1.kept (row := none) (grown_below hb) (by simp) h.1.size (fun k hk => by cases hk), h.2.1.later hb, h.2.2.1.later hb, h.2.2.2⟩
theorem DrS.put {B : Nat} {w0 : World} {g : Nat} {v : Value} {p : Nat} {s : Value} {q : Nat} {L : List Fl} {W W' : World} (h : DrS B w0 g v p s q L W) (hb : Below W.heap.size W W') {s' : Value} {q' : Nat} {M : List Fl} (hr : RW 3 fcs W' s' q' M) (hq : W.heap.size ≤ q') : DrS B w0 g v p s' q' M (W'.setCell ⟨p, 0, none⟩ s') := by
  have hw := h.below hb
  have hg := grown_set W' p 0 s'
  have hpl := h.2.1.lt
  have hgl := h.1.lt
  refine ⟨hw.1.kept hg (by simpa using fun e : g = p => hw.2.2.2.2.1 e.symm) hw.1.size (fun k hk => by cases hk; exact hw.2.2.2.1), ?_, hr.grown hg (fun _ => by simp; omega), hw.2.2.2.1, hw.2.2.2.2.1, Nat.le_trans h.1.size hq, fun _ => ⟨by omega, by omega⟩⟩
  have e1 := heap_setCell_same W' p 0 _ 26 s' hw.2.1
  simpa [BD] using e1

/-- so many rounds are gone -/
def DrR (B : Nat) (w0 : World) (g : Nat) (v : Value) (p : Nat) (i : Value) (wr : World) : Prop :=
  ∃ (m : Nat) (s : Value) (q : Nat) (L : List Fl), m ≤ 6 ∧ i = .int .i64 (m : Int) ∧ L.length ≤ m ∧ Hid ((∀ f ∈ L, F.flB f = true) ∧ F.Srt L) ∧ Hid (DrS B w0 g v p s q L wr)

theorem put_ok {L : List Fl} (h : (∀ f ∈ L, F.flB f = true) ∧ F.Srt L) (f : Fl) (hf : F.flB f = true) : (∀ f' ∈ F.put L f, F.flB f' = true) ∧ F.Srt (F.put L f) :=
  ⟨fun g hg => by rcases F.mem_put.1 hg with rfl | hg; exact hf; exact h.1 g hg.1, F.srt_put h.2 f⟩
theorem put_len (L : List Fl) (f : Fl) : (F.put L f).length ≤ L.length + 1 := by
  rw [F.len_put]
  have := F.len_wout_le L f.n
  omega

end Go.Proofs.Ytbmlphlknolieaa
