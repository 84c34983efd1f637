/-
  All parts together: the program's answer.
-/
import Derived.Test.YtmcejkfknbjjkaaYk
import Derived.Test.YtmcejkfknbjjkaaSr
import Derived.Test.YtmcejkfknbjjkaaCpy
import Derived.Test.YtmcejkfknbjjkaaLo
namespace Go.Proofs.Ytmcejkfknbjjkaa
open Go.RowKit Go.Shelf Go.Lib Go.BigFrame
open Go.Sort (SWO PermIn SortedIn HoldsK flatK get_flatK grow holdsK_grow holdsK_putRowK holdsK_ahead)
set_option linter.unusedVariables false
set_option linter.unusedSimpArgs false

/-- what is sorted has the same leaves, in order -/
theorem sorted_perm {l : List Le} {d' : Array (ByteArray × ByteArray)} (hp : PermIn 0 (l.map pr).toArray.size (l.map pr).toArray d') (hs : SortedIn (ltOf pcf) 0 (l.map pr).toArray.size d') : (d'.toList.map lf).Perm l ∧ LV.Wsrt (d'.toList.map lf) := by
  obtain ⟨hsz, _, hperm⟩ := hp
  have hsz' : d'.size = l.length := by simpa using hsz
  have hperm' : d'.toList.Perm (l.map pr) := by
    have e1 : d'.extract 0 (l.map pr).toArray.size = d' := by rw [← hsz]; exact Array.extract_size
    have e2 : (l.map pr).toArray.extract 0 (l.map pr).toArray.size = (l.map pr).toArray := Array.extract_size
    rw [e1, e2] at hperm
    simpa using hperm
  have hpl : (d'.toList.map lf).Perm l := by
    have := hperm'.map lf
    have e : (l.map pr).map lf = l := by
      rw [List.map_map]
      exact List.map_id'' (fun f => rfl) l
    rw [e] at this
    exact this
  refine ⟨hpl, ?_⟩
  unfold LV.Wsrt
  rw [List.pairwise_iff_getElem]
  intro i j hi hj hij
  have hi' : i < d'.size := by simpa using hi
  have hj' : j < d'.size := by simpa using hj
  have h1 := hs i j (Nat.zero_le _) hij (by simp; omega)
  rw [ltOf_pcf] at h1
  have ei : (d'.toList.map lf)[i] = lf d'[i]! := by simp [hi']
  have ej : (d'.toList.map lf)[j] = lf d'[j]! := by simp [hj']
  rw [ei, ej]
  exact h1

theorem sort_perm (g cap : Nat) (l : List Le) (w : World) (h : RW 2 lcs w (.slice (some ⟨g, 0, none⟩) l.length cap) g l) (hg : g < w.heap.size) (hl : l.length ≤ 100000) :
    Calls Try.prog 18 #[.slice (some ⟨g, 0, none⟩) l.length cap, .func (.func 19) #[] #[]] w fun e w' => e = .returned (.tuple #[]) ∧ ∃ L : List Le, L.Perm l ∧ LV.Wsrt L ∧ RW 2 lcs w' (.slice (some ⟨g, 0, none⟩) l.length cap) g L ∧ w.grownBy w' (some g) := by
  have eg : ∀ args w, (callFunc 19 args).run Try.prog w = .ok (.enter 19 args) w := enters_of Try.func19 (by kernel_rfl) rfl
  have hH := holds_of h
  have hcon := AnyQ.slices_SortFunc Try.sortLe 2 Try.isAgg38 Try.sizeOf38 pcs (fun _ => rfl) (fun x v hv => by simp [pcs] at hv; rcases hv with rfl | rfl <;> rfl) pcf swo_pcf 19 #[] g 0 cap (l.map pr).toArray w eg (cmpLays_any g 0 (l.map pr).toArray.size w) hH hg (by simp; omega)
  change Calls Try.prog 18 _ _ _ at hcon
  have e1 : (l.map pr).toArray.size = l.length := by simp
  rw [e1] at hcon
  refine hcon.mono ?_
  rintro e w' ⟨rfl, d', n, os, hp, hs, rfl⟩
  obtain ⟨hd1, hd2⟩ := sorted_perm (l := l) (d' := d') (by rw [e1]; exact hp) (by rw [e1]; exact hs)
  have hh : HoldsK pcs 2 (sortWorldK pcs 2 w g 0 n d' os) g 0 d' := holdsK_grow pcs 2 _ _ _ _ _ (by simpa [Go.Sort.putRowK] using hg) (holdsK_putRowK pcs 2 _ _ _ _ _ (holdsK_ahead pcs 2 _ n _ _ _ hH) (by rw [hp.1]))
  have hgs := (grown_sort w g n d' os).size
  have hr := row_of_holds (cap := cap) hh (show d'.size = l.length by rw [hp.1, e1]) (by omega) (by omega)
  exact ⟨rfl, d'.toList.map lf, hd1, hd2, hr, grown_sort w g n d' os⟩

set_option maxRecDepth 100000 in
set_option maxHeartbeats 1000000 in
theorem AllLeaves_any (v : Value) (g o : Nat) (P : List (List Le)) (w : World) (hv : PS w v g o P) (hsm : SmallP P) :
    Calls Try.prog 7 #[v] w (LqP (LV.allR P.flatten) (LV.allB P.flatten) w) := by
  have ht := tooMany_any v g o P w hv
  have HM : Hid (∀ W, Below w.heap.size w W → ¬ LV.AllOk P.flatten → LqP (LV.allR P.flatten) (LV.allB P.flatten) w (.returned (.tuple #[.slice (some ⟨W.heap.size, 0, none⟩) 0 0, .bool false])) (W.alloc (.cells #[] 38))) := fun W hW hno => by
    rw [LV.allR_no hno, LV.allB_no hno]
    have ho := OL.made w.heap.size w W hW hW.size
    obtain ⟨gz, hrz, hgz, _⟩ := ho.rw (by simp)
    exact ⟨_, _, gz, rfl, hrz, hgz, ho.2.1⟩
  have hsf : SmallL P.flatten := fun f hf => by
    obtain ⟨p, hp, hf⟩ := List.mem_flatten.1 hf
    exact hsm p hp f hf
  have hj := joined_any v g o P w hv
  generalize P.flatten = A at *
  by_cases h24 : 24 < A.length
  · have hno : ¬ LV.AllOk A := fun h => by have := h.len; omega
    have HF := HM.out w (Below.refl _ _) hno
    rw [decide_eq_true h24] at ht
    clear HM hj hno hsf
    go_enter Try.func7, Try.ntmps7
    go_wp2_with fail
    refine ht.mono ?_
    rintro e w1 ⟨rfl, hw1⟩
    obtain rfl := hw1.symm
    go_wp2
    go_ret2
    exact HF
  · have hj := hj (by omega)
    rw [decide_eq_false h24] at ht
    have HSO : Hid (∀ W gr, RW 2 lcs W (.slice (some ⟨gr, 0, none⟩) A.length A.length) gr A → gr < W.heap.size → w.heap.size ≤ gr → Below w.heap.size w W → Calls Try.prog 18 #[.slice (some ⟨gr, 0, none⟩) A.length A.length, .func (.func 19) #[] #[]] W fun e w' => e = .returned (.tuple #[]) ∧ ∃ L : List Le, L.Perm A ∧ LV.Wsrt L ∧ RS 2 lcs w' (.slice (some ⟨gr, 0, none⟩) A.length A.length) gr 0 L ∧ Below w.heap.size w w') := fun W gr hr hg hB hb => (sort_perm gr A.length A W hr hg (by omega)).mono fun e w' ⟨he, L, h1, h2, h3, h4⟩ => ⟨he, L, h1, h2, h3.1, hb.grown h4 hb.size (fun k hk => by obtain rfl : gr = k := (by simpa using hk); exact hB)⟩
    have HLO : Hid (∀ W gr (L : List Le), L.Perm A → LV.Wsrt L → RS 2 lcs W (.slice (some ⟨gr, 0, none⟩) A.length A.length) gr 0 L → Calls Try.prog 20 #[.slice (some ⟨gr, 0, none⟩) A.length A.length] W fun e w' => e = .returned (.bool (LV.allB A)) ∧ Below W.heap.size W w') := fun W gr L h1 h2 h3 => by
      have h := LeavesOk_any _ gr 0 L W h3 (fun f hf => hsf f (h1.mem_iff.1 hf))
      rw [LV.wsrt_ok h1 h2] at h
      exact h
    have HCP : Hid (∀ W gr (L : List Le), L.Perm A → RS 2 lcs W (.slice (some ⟨gr, 0, none⟩) A.length A.length) gr 0 L → Calls Try.prog 21 #[.slice (some ⟨gr, 0, none⟩) A.length A.length] W fun e w' => ∃ g, e = .returned (.slice (some ⟨g, 0, none⟩) L.length L.length) ∧ W.heap.size ≤ g ∧ RW 2 lcs w' (.slice (some ⟨g, 0, none⟩) L.length L.length) g L ∧ Below W.heap.size W w') := fun W gr L h1 h2 => leavesCopy_any _ gr 0 L W h2 (fun f hf => hsf f (h1.mem_iff.1 hf))
    have HYE : Hid (∀ L : List Le, L.Perm A → LV.Wsrt L → LV.allB A = true → LV.allR A = L) := fun L h1 h2 h3 => by
      have : LV.leavesB L = true := by rw [LV.wsrt_ok h1 h2]; exact h3
      exact LV.allR_yes h1 (LV.leavesB_iff.1 this)
    have HNO : Hid (LV.allB A = false → ¬ LV.AllOk A) := fun h1 h2 => by rw [LV.allB_yes h2] at h1; cases h1
    have hlen : A.length ≤ 24 := by omega
    obtain ⟨n, hn⟩ : ∃ n, A.length = n := ⟨_, rfl⟩
    rw [hn] at hj HSO HLO HCP
    clear h24 hn hlen hsf
    go_enter Try.func7, Try.ntmps7
    go_wp2_with fail
    refine ht.mono ?_
    rintro e w1 ⟨rfl, hw1⟩
    obtain rfl := hw1.symm
    clear ht
    go_wp2_with fail
    refine hj.mono ?_
    rintro e w2 ⟨gr, rfl, hg2, hr2, hgl2, hb2⟩
    clear hj
    go_wp2_with fail
    refine (HSO.out _ gr hr2 hgl2 hg2 hb2).mono ?_
    rintro e w3 ⟨rfl, L, hp3, hs3, hr3, hb3⟩
    clear HSO hr2 hb2 hgl2 hg2
    go_wp2_with fail
    refine (HLO.out _ gr L hp3 hs3 hr3).mono ?_
    rintro e w4 ⟨rfl, hb4⟩
    have b4 := hb3.trans (hb4.mono hb3.size)
    have hr4 := hr3.later hb4
    cases hB : LV.allB A with
    | false =>
      have HF := HM.out w4 b4 (HNO.out hB)
      clear HLO HCP HYE HNO HM hr3 hr4 hb3 hb4
      go_wp2
      go_ret2
      exact HF
    | true =>
      have eR := HYE.out L hp3 hs3 hB
      clear HLO HYE HNO HM hr3 hb3 hb4
      go_wp2_with fail
      refine (HCP.out _ gr L hp3 hr4).mono ?_
      rintro e w5 ⟨g5, rfl, hg5, hr5, hb5⟩
      have HF : Hid (LqP L true w (.returned (.tuple #[.slice (some ⟨g5, 0, none⟩) L.length L.length, .bool true])) w5) := ⟨_, _, g5, rfl, hr5, by have := b4.size; omega, b4.trans (hb5.mono b4.size)⟩
      have HE : Hid (LV.allR A = L ∧ LV.allB A = true) := ⟨eR, hB⟩
      clear HCP hr5 hg5 hb5 eR hp3 hs3
      go_wp2
      go_ret2
      rw [HE.out.1, HE.out.2]
      exact HF.out

end Go.Proofs.Ytmcejkfknbjjkaa
