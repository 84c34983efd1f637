/-
  A row of texts that was handed in, great or small, and what a law weighs of it.
-/
import Derived.Test.YtfojmagcoipbnaaMk
import Derived.Test.YtfojmagcoipbnaaTxt
namespace Go.Proofs.Ytfojmagcoipbnaa
open Go.RowKit Go.BigFrame Go.Sort
set_option linter.unusedVariables false
set_option linter.unusedSimpArgs false

def IsRowT (w : World) (v : Value) (g o : Nat) (l : List ByteArray) : Prop := ∃ a n cap, v = .slice a n cap ∧ n ≤ 9223372036854775807 ∧ (n ≤ 1048576 → l.length = n ∧ SS w v g o l ∧ (0 < l.length → g < w.heap.size) ∧ ∀ t ∈ l, t.size ≤ 9223372036854775807)
theorem IsRowT.later {w w' : World} {v : Value} {g o : Nat} {l : List ByteArray} (h : IsRowT w v g o l) (hb : Below w.heap.size w w') : IsRowT w' v g o l := by
  obtain ⟨a, n, cap, hv, hn, hr⟩ := h
  exact ⟨a, n, cap, hv, hn, fun hl => ⟨(hr hl).1, (hr hl).2.1.below hb (hr hl).2.2.1, fun h => Nat.lt_of_lt_of_le ((hr hl).2.2.1 h) hb.size, (hr hl).2.2.2⟩⟩
theorem rowT_of {w : World} {a : Option Addr} {len cap : Nat} {z : List ByteArray} (h : IsRowS w a len cap z) : ∃ g o l, IsRowT w (.slice a len cap) g o l := by
  have hm := h.len
  unfold maxLen at hm
  by_cases hl : len ≤ 1048576
  · obtain ⟨g, o, l, h1, h2, h3⟩ := ss_of_row h hl
    exact ⟨g, o, l, a, len, cap, rfl, by omega, fun _ => ⟨h1, h2, h2.lt, fun t ht => by have := h3 t ht; unfold maxLen at this; omega⟩⟩
  · exact ⟨0, 0, [], a, len, cap, rfl, by omega, fun h => absurd h hl⟩

def SzTw (l : List ByteArray) (x0 : Int) (w : World) (x i : Value) (wr : World) : Prop := ∃ (m : Nat) (y : Int), m ≤ l.length ∧ i = .int .i64 m ∧ x = .int .i64 y ∧ 0 ≤ y ∧ y ≤ x0 ∧ Hid (∀ j (h : j < l.length), j < m → l[j].size ≤ 1048576) ∧ wr = w

set_option maxRecDepth 100000 in
set_option maxHeartbeats 400000 in
theorem szStringS_row (v : Value) (g o : Nat) (l : List ByteArray) (x : Int) (w : World) (hv : IsRowT w v g o l) (h0 : 0 ≤ x) (h1 : x ≤ 1048576) :
    Calls Try.prog 32 #[v, .int .i64 x] w fun e w' => ∃ A : Int, e = .returned (.int .i64 A) ∧ w' = w ∧ A ≤ x ∧ (0 ≤ A → SS w v g o l ∧ (0 < l.length → g < w.heap.size) ∧ (∀ t ∈ l, t.size ≤ 1048576) ∧ l.length ≤ 1048576) := by
  obtain ⟨a, n, cap, rfl, hn, hr⟩ := hv
  by_cases hbig : x < (n : Int)
  · have q : x - (n : Int) < 0 := by omega
    go_enter Try.func32, Try.ntmps32
    go_wp2
    go_ret
    exact ⟨_, rfl, rfl, by omega, fun h => by omega⟩
  obtain ⟨hln, hrs, hgl, hsz⟩ := hr (by omega)
  have HRS : Hid (SS w (.slice a n cap) g o l ∧ (0 < l.length → g < w.heap.size)) := ⟨hrs, hgl⟩
  have HSZ : Hid (∀ t ∈ l, t.size ≤ 9223372036854775807) := hsz
  have HLN : Hid (l.length = n) := hln
  obtain ⟨a', c', ev, _, hA, hc⟩ := hrs
  have HC : Hid (∀ j (h : j < l.length), w.cell? ⟨g, o + j, none⟩ = some (.string l[j])) := hc
  have HA : Hid (0 < n → a = some ⟨g, o, none⟩) := fun h => by
    have := hA (by omega)
    simp at ev
    rw [ev.1, this]
  clear hr hA hsz ev hc hgl
  have q : ¬ x - (n : Int) < 0 := by omega
  go_enter Try.func32, Try.ntmps32
  go_wp2
  go_loopw [1, 5] (fun y i wr => SzTw l (x - (n : Int)) w y i wr) (fun _ i _ => n - (intOf i).toNat)
  case atStart => exact ⟨0, x - (n : Int), by omega, rfl, by go_num, by omega, by omega, fun j _ h => by omega, rfl⟩
  case round =>
    obtain ⟨m, y, hm, rfl, rfl, hy0, hy1, HJ, rfl⟩ := hrel
    by_cases hlt : m < n
    · have ea := HA.out (by omega)
      subst ea
      have c0 := HC.out m (by omega)
      obtain ⟨X, hX⟩ : ∃ X, l[m]'(by omega) = X := ⟨_, rfl⟩
      rw [hX] at c0
      have hxs := HSZ.out X (by rw [← hX]; exact List.getElem_mem _)
      have HX : Hid (l[m]'(by omega) = X) := hX
      have i1 : (m : Int) < (n : Int) := by omega
      have i2 : (0 : Int) ≤ (m : Int) := by omega
      clear hX HSZ HA HRS HC
      by_cases hneg : y - (X.size : Int) < 0
      · clear HJ HX
        go_wp2
        try rw [Exit.noGoto_ret]
        go_ret
        exact ⟨_, rfl, rfl, by omega, fun h => by omega⟩
      · have HX2 : Hid (X.size ≤ 1048576) := by show X.size ≤ 1048576; omega
        go_wp2
        go_roundw
        case rel =>
          refine ⟨m + 1, y - (X.size : Int), by omega, by go_num, by go_num, by omega, by omega, ?_, rfl⟩
          intro j hj hjl
          rcases Nat.lt_or_ge j m with h3 | h3
          · exact HJ.out j hj h3
          · have : j = m := by omega
            subst this
            rw [HX.out]
            exact HX2.out
        case measure => simp [intOf]; omega
    · have hme : m = n := by omega
      have HF : Hid (SS wr (.slice a n cap) g o l ∧ (0 < l.length → g < wr.heap.size) ∧ (∀ t ∈ l, t.size ≤ 1048576) ∧ l.length ≤ 1048576) := ⟨HRS.out.1, HRS.out.2, fun f hf => by
        obtain ⟨j, hj, rfl⟩ := List.getElem_of_mem hf
        exact HJ.out j hj (by omega), by omega⟩
      subst hme
      clear HJ HA HRS HSZ HC
      go_wp2
      go_ret
      exact ⟨_, rfl, rfl, by omega, fun _ => HF.out⟩

end Go.Proofs.Ytfojmagcoipbnaa
