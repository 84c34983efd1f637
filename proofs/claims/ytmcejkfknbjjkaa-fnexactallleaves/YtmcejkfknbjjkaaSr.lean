/-
  Leaves sorted by their names: the library's own contract on slices.SortFunc at this program's leaves.
-/
import Derived.Test.YtmcejkfknbjjkaaSo
import Derived.Test.YtmcejkfknbjjkaaLc
import Derived.Test.YtmcejkfknbjjkaaLk
namespace Go.Proofs.Ytmcejkfknbjjkaa
open Go.RowKit Go.Shelf Go.Lib
open Go.Sort (SWO PermIn SortedIn HoldsK flatK get_flatK grow holdsK_grow holdsK_putRowK holdsK_ahead)
set_option linter.unusedVariables false
set_option linter.unusedSimpArgs false

/-- a leaf as a pair, for the library's words -/
def pr (f : Le) : ByteArray × ByteArray := (f.n, f.v)
def lf (p : ByteArray × ByteArray) : Le := ⟨p.1, p.2⟩
def pcs (p : ByteArray × ByteArray) : List Value := [.string p.1, .string p.2]
def pcf (p q : ByteArray × ByteArray) : Int := LV.cmpN p.1 q.1
theorem ltOf_pcf (p q : ByteArray × ByteArray) : ltOf pcf p q = F.ltN p.1 q.1 := by
  unfold ltOf pcf
  rw [Bool.eq_iff_iff, decide_eq_true_eq]
  exact LV.cmpN_lt _ _
theorem swo_pcf : SWO (ltOf pcf) := {
  irrefl := fun x => by rw [ltOf_pcf]; exact F.ltN_irrefl _
  trans := fun x y z h1 h2 => by rw [ltOf_pcf] at *; exact F.ltN_trans h1 h2
  ntrans := fun x y z h1 h2 => by
    rw [ltOf_pcf] at *
    cases h : F.ltN x.1 z.1
    · rfl
    · rcases F.ltN_tri x.1 y.1 with h3 | h3 | h3
      · rw [h3] at h1; cases h1
      · rw [h3, h2] at h; cases h
      · rw [F.ltN_trans h3 h] at h2; cases h2 }

theorem cmpLays_any (blk off size : Nat) (w : World) : CmpLays Try.prog 19 #[] pcs 2 pcf blk off size w :=
  fun _ _ _ _ x y => compareNames_grow (lf x) (lf y) _

theorem holds_of {w : World} {v : Value} {g : Nat} {l : List Le} (h : RW 2 lcs w v g l) : HoldsK pcs 2 w g 0 (l.map pr).toArray := by
  intro t ht
  have ht' : t < l.length * 2 := by simpa using ht
  have hq : t / 2 < l.length := by omega
  have e : (flatK pcs 2 (l.map pr).toArray)[t]! = (lcs l[t / 2])[t % 2]! := by
    rw [get_flatK _ _ _ t (by simpa using ht')]
    have : (l.map pr).toArray[t / 2]! = pr l[t / 2] := by simp [hq]
    rw [this]
    rfl
  obtain ⟨⟨a, c, _, _, _, hc⟩, hth⟩ := h
  have hm : t % 2 < 2 := Nat.mod_lt _ (by omega)
  have et : t = t / 2 * 2 + t % 2 := by omega
  rw [e]
  refine ⟨?_, ?_⟩
  · have := hc (t / 2) hq (t % 2) _ (List.getElem?_eq_getElem (by rw [lcs_len]; exact hm))
    rw [Nat.zero_add] at this ⊢
    rw [← et] at this
    rw [this, getElem!_pos (lcs l[t / 2]) (t % 2) (by rw [lcs_len]; exact hm)]
    rfl
  · have := (hth (t / 2) hq (t % 2) hm).2
    rw [← et] at this
    rw [Nat.zero_add]
    exact this

theorem row_of_holds {w : World} {g n cap : Nat} {d : Array (ByteArray × ByteArray)} (h : HoldsK pcs 2 w g 0 d) (hn : d.size = n) (hl : n ≤ 1100000) (hg : g < w.heap.size) : RW 2 lcs w (.slice (some ⟨g, 0, none⟩) n cap) g (d.toList.map lf) := by
  subst hn
  have key : ∀ j i, j < d.size → i < 2 → w.cell? ⟨g, j * 2 + i, none⟩ = some ((lcs (lf d[j]!))[i]!) ∧ w.frozen? ⟨g, j * 2 + i, none⟩ = false := by
    intro j i hj hi
    have h1 := h (j * 2 + i) (by simp; omega)
    rw [get_flatK _ _ _ _ (by omega), show (j * 2 + i) / 2 = j by omega, show (j * 2 + i) % 2 = i by omega, Nat.zero_add] at h1
    exact h1
  refine ⟨⟨some ⟨g, 0, none⟩, cap, by simp, by simpa using hl, fun _ => ⟨rfl, hg⟩, fun j hj i u hu => ?_⟩, fun j hj i hi => ?_⟩
  · have hj' : j < d.size := by simpa using hj
    have hi : i < 2 := by have := (List.getElem?_eq_some_iff.1 hu).1; rw [lcs_len] at this; exact this
    have hk := (key j i hj' hi).1
    rw [Nat.zero_add, hk]
    have e : (d.toList.map lf)[j]'hj = lf d[j]! := by simp [hj']
    rw [e, List.getElem?_eq_getElem (by rw [lcs_len]; exact hi)] at hu
    rw [← hu, getElem!_pos (lcs (lf d[j]!)) i (by rw [lcs_len]; exact hi)]
  · have hj' : j < d.size := by simpa using hj
    have hk := key j i hj' hi
    exact ⟨by rw [hk.1]; rfl, hk.2⟩

theorem grown_sort (w : World) (g n : Nat) (d : Array (ByteArray × ByteArray)) (os : Array Obj) : w.grownBy (sortWorldK pcs 2 w g 0 n d os) (some g) := by
  refine ⟨rfl, rfl, rfl, ?_, fun i hi hne => ?_⟩
  · simp [sortWorldK, grow, Go.Sort.putRowK, Go.Sort.putRow, Go.Sort.mapBlock, Go.Sort.ahead]
  · have hne' : g ≠ i := fun e => hne (by rw [e])
    simp [sortWorldK, grow, Go.Sort.putRowK, Go.Sort.putRow, Go.Sort.mapBlock, Go.Sort.ahead, Array.getElem?_append, hi, Array.getElem_modify, hne']

/-- what is sorted, told by its names -/
theorem sorted_is {l L : List Le} {d' : Array (ByteArray × ByteArray)} (hL : LV.Srt L) (hm : ∀ f, f ∈ l ↔ f ∈ L) (hnd : l.Pairwise (fun a b => a.n ≠ b.n)) (hp : PermIn 0 (l.map pr).toArray.size (l.map pr).toArray d') (hs : SortedIn (ltOf pcf) 0 (l.map pr).toArray.size d') : d'.toList.map lf = L := by
  obtain ⟨hsz, _, hperm⟩ := hp
  have hsz' : d'.size = l.length := by simpa using hsz
  have hperm' : d'.toList.Perm (l.map pr) := by
    have e1 : d'.extract 0 (l.map pr).toArray.size = d' := by rw [← hsz]; exact Array.extract_size
    have e2 : (l.map pr).toArray.extract 0 (l.map pr).toArray.size = (l.map pr).toArray := Array.extract_size
    rw [e1, e2] at hperm
    simpa using hperm
  have hpl : (d'.toList.map lf).Perm l := by
    have := hperm'.map lf
    have e : (l.map pr).map lf = l := by
      rw [List.map_map]
      exact List.map_id'' (fun f => rfl) l
    rw [e] at this
    exact this
  have hnd' : (d'.toList.map lf).Pairwise (fun a b => a.n ≠ b.n) := hpl.symm.pairwise hnd (fun {a b} h => Ne.symm h)
  refine LV.srt_ext ?_ hL (fun f => by rw [hpl.mem_iff]; exact hm f)
  unfold LV.Srt
  rw [List.pairwise_iff_getElem] at hnd' ⊢
  intro i j hi hj hij
  have hi' : i < d'.size := by simpa using hi
  have hj' : j < d'.size := by simpa using hj
  have h1 := hs i j (Nat.zero_le _) hij (by simp; omega)
  rw [ltOf_pcf] at h1
  have h2 := hnd' i j hi hj hij
  have ei : (d'.toList.map lf)[i] = lf d'[i]! := by simp [hi']
  have ej : (d'.toList.map lf)[j] = lf d'[j]! := by simp [hj']
  rw [ei, ej] at h2 ⊢
  rcases F.ltN_tri (lf d'[i]!).n (lf d'[j]!).n with h3 | h3 | h3
  · exact h3
  · exact absurd h3 h2
  · have h4 : F.ltN (d'[j]!).1 (d'[i]!).1 = true := h3
    rw [h1] at h4
    cases h4

theorem sort_any (g cap : Nat) (l L : List Le) (w : World) (h : RW 2 lcs w (.slice (some ⟨g, 0, none⟩) l.length cap) g l) (hg : g < w.heap.size) (hL : LV.Srt L) (hm : ∀ f, f ∈ l ↔ f ∈ L) (hnd : l.Pairwise (fun a b => a.n ≠ b.n)) (hl : l.length ≤ 100000) :
    Calls Try.prog 18 #[.slice (some ⟨g, 0, none⟩) l.length cap, .func (.func 19) #[] #[]] w fun e w' => e = .returned (.tuple #[]) ∧ l.length = L.length ∧ RW 2 lcs w' (.slice (some ⟨g, 0, none⟩) L.length cap) g L ∧ w.grownBy w' (some g) := by
  have eg : ∀ args w, (callFunc 19 args).run Try.prog w = .ok (.enter 19 args) w := enters_of Try.func19 (by kernel_rfl) rfl
  have hH := holds_of h
  have hcon := AnyQ.slices_SortFunc Try.sortLe 2 Try.isAgg38 Try.sizeOf38 pcs (fun _ => rfl) (fun x v hv => by simp [pcs] at hv; rcases hv with rfl | rfl <;> rfl) pcf swo_pcf 19 #[] g 0 cap (l.map pr).toArray w eg (cmpLays_any g 0 (l.map pr).toArray.size w) hH hg (by simp; omega)
  change Calls Try.prog 18 _ _ _ at hcon
  have e1 : (l.map pr).toArray.size = l.length := by simp
  rw [e1] at hcon
  refine hcon.mono ?_
  rintro e w' ⟨rfl, d', n, os, hp, hs, rfl⟩
  have hd : d'.toList.map lf = L := sorted_is hL hm hnd (by rw [e1]; exact hp) (by rw [e1]; exact hs)
  have hlen : l.length = L.length := by
    have h1 : (d'.toList.map lf).length = L.length := by rw [hd]
    rw [List.length_map, Array.length_toList, hp.1, e1] at h1
    exact h1
  have hh : HoldsK pcs 2 (sortWorldK pcs 2 w g 0 n d' os) g 0 d' := holdsK_grow pcs 2 _ _ _ _ _ (by simpa [Go.Sort.putRowK] using hg) (holdsK_putRowK pcs 2 _ _ _ _ _ (holdsK_ahead pcs 2 _ n _ _ _ hH) (by rw [hp.1]))
  have hgs := (grown_sort w g n d' os).size
  have hr := row_of_holds (cap := cap) hh (show d'.size = L.length by rw [hp.1, e1, hlen]) (by omega) (by omega)
  rw [hd] at hr
  exact ⟨rfl, hlen, hr, grown_sort w g n d' os⟩

end Go.Proofs.Ytmcejkfknbjjkaa
