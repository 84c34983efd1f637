/-
  A list of leaves drawn for a bucket.
-/
import Derived.Test.YtojadcjoniejaaaDoorAn
namespace Go.Proofs.YtojadcjoniejaaaDoor
open Go.RowKit Go.BigFrame Go.Sort
set_option linter.unusedVariables false
set_option linter.unusedSimpArgs false

theorem RS.takeL {w : World} {a : Option Addr} {c g o : Nat} {l : List Le} (h : RS 2 lcs w (.slice a l.length c) g o l) (k : Nat) (hk : k ≤ l.length) : RS 2 lcs w (.slice a k c) g o (l.take k) := by
  have e1 : (l.take k).length = k := by simp; omega
  obtain ⟨a', c', hv, h2, h3, h4⟩ := h
  simp only [Value.slice.injEq] at hv
  obtain ⟨rfl, _, rfl⟩ := hv
  refine ⟨a, c, by rw [e1], by omega, fun h0 => h3 (by omega), fun j hj => ?_⟩
  have := h4 j (by omega)
  rw [List.getElem_take]
  exact this

def DbA (w : World) (e : Ending) (w' : World) : Prop := ∃ u q L, e = .returned u ∧ SmallL L ∧ L.length ≤ 25 ∧ RS 2 lcs w' u q 0 L ∧ Below w.heap.size w w'

set_option maxRecDepth 100000 in
set_option maxHeartbeats 1000000 in
theorem DrawBucketText_any (w : World) (v : Value) (hc : Code w.heap.size w v) :
    Calls Tryd.prog 15 #[v] w (DbA w) := by
  have HC : Hid (Code w.heap.size w v) := hc
  clear hc
  go_enter Tryd.func15, Tryd.ntmps15
  go_wp2_with fail
  refine (l01New_in w v HC.out).mono ?_
  rintro e w1 ⟨g, rfl, hc1, hb1⟩
  go_wp2_with fail
  refine (l09Any_in w.heap.size w _ g v hc1).mono ?_
  rintro e w2 ⟨u, l2, rfl, hl2, hA2⟩
  obtain ⟨hcu, hol, hsm, hg⟩ := hA2
  obtain ⟨a, c, rfl⟩ := hol.shape
  go_wp2_with fail
  refine (l01Once_in w.heap.size w _ g v _ 2 rfl hcu (by omega) (by omega)).mono ?_
  rintro e w3 ⟨b, rfl, hc3, hg3⟩
  have hol3 := hol.drawn hcu hg3
  obtain ⟨q, hrw, _, _⟩ := hol3.rw (by omega)
  have HF : Hid (DbA w (.returned (.slice a l2.length c)) w3) := ⟨_, q, l2, rfl, hsm, hl2, hrw.1, hc3.2.1⟩
  have HT : Hid (2 < l2.length → DbA w (.returned (.slice a 2 c)) w3) := fun h => ⟨_, q, l2.take 2, rfl, fun f hf => hsm f (List.mem_of_mem_take hf), by simp; omega, RS.takeL hrw.1 2 (by omega), hc3.2.1⟩
  have HA : Hid (2 < l2.length → a = some ⟨q, 0, none⟩ ∧ l2.length ≤ c) := fun h => by
    obtain ⟨a', c', hv, _, h3, _⟩ := hrw.1
    simp only [Value.slice.injEq] at hv
    obtain ⟨rfl, _, rfl⟩ := hv
    refine ⟨(h3 (by omega)).1, ?_⟩
    rcases hol3.1.2 with ⟨hv, _⟩ | ⟨g', cap', cur, hv, hbg, hg', hca, hrest⟩
    · simp only [Value.slice.injEq] at hv
      omega
    · simp only [Value.slice.injEq] at hv
      omega
  clear hol hol3 hrw hcu hc1 hb1 hg hg3 hsm hc3 HC
  generalize l2.length = n at *
  cases b with
  | false =>
    clear HT HA
    go_wp2
    go_ret
    exact HF.out
  | true =>
    by_cases h : 2 < n
    · obtain ⟨rfl, hcc⟩ := HA.out h
      have HT2 : Hid (DbA w (.returned (.slice (some ⟨q, 0, none⟩) 2 c)) w3) := HT.out h
      have i1 : (2 : Int) < (n : Int) := by omega
      clear HF HT HA
      go_wp2
      go_ret
      exact HT2.out
    · have i1 : ¬ (2 : Int) < (n : Int) := by omega
      clear HT HA
      go_wp2
      go_ret
      exact HF.out

end Go.Proofs.YtojadcjoniejaaaDoor
