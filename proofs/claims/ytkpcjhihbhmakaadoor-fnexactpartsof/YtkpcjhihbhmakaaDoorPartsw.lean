/-
  The walk of the specification's PartsOf.
-/
import Derived.Test.YtkpcjhihbhmakaaDoorParts
namespace Go.Proofs.YtkpcjhihbhmakaaDoor
open Go.RowKit
set_option linter.unusedVariables false

def PRel (w : World) (s : ByteArray) (v x i : Value) (wr : World) : Prop :=
  ∃ (k b : Nat) (done : List ByteArray), i = .int .i64 k ∧ x = .int .i64 b ∧ OS w.heap.size w wr v done ∧ done.length ≤ k ∧ k ≤ s.size + 1 ∧ b ≤ k ∧ Hid (PI s k b done)

def cutB (s : ByteArray) (b k : Nat) : ByteArray := s.extract b k
theorem run_cut (s : ByteArray) (b k : Nat) (h1 : b ≤ k) (h2 : k ≤ s.size) (w : World) :
    (Instr.slice 9 (.string s) (some (.int .i64 (b : Int))) (some (.int .i64 (k : Int))) none).run Tryd.prog w = .ok (.string (cutB s b k)) w := by
  rw [run_slice_string w 9 s .i64 .i64 _ _ Tryd.underlying9 (by omega) (by omega) (by omega)]
  simp [cutB]

theorem new_cell (w : World) (u : Value) (t : TypeId) (n : Nat) (h : w.heap.size = n) : (w.alloc (.cells #[u] t)).cell? ⟨n, 0, none⟩ = some u := by
  subst h
  simp

theorem OS.empty (w : World) : OS w.heap.size w (w.alloc (.cells #[] 9)) (.slice (some ⟨w.heap.size, 0, none⟩) 0 0) [] := OS.made w
/-- an empty slice, made behind other blocks -/
theorem OS.blank {B : Nat} {w0 w : World} (hb : Below B w0 w) (hB : B ≤ w.heap.size) : OS B w0 (w.alloc (.cells #[] 9)) (.slice (some ⟨w.heap.size, 0, none⟩) 0 0) [] :=
  ⟨World.ownsRow_made w #[] 0 hB (by decide) (by simp), hb.alloc hB _, by simp; omega⟩

theorem PPost.no {w w' : World} {s : ByteArray} {v : Value} (h : parts s.data.toList = (false, [])) (hown : OS w.heap.size w w' v []) : PPost w s (.returned (.tuple #[v, .bool false])) w' := by
  refine ⟨v, ?_, ?_⟩
  · rw [h]
  · rw [h]; exact hown
theorem PPost.yes {w w' : World} {s : ByteArray} {v : Value} {l : List ByteArray} (h : parts s.data.toList = (true, l)) (hown : OS w.heap.size w w' v l) : PPost w s (.returned (.tuple #[v, .bool true])) w' := by
  refine ⟨v, ?_, ?_⟩
  · rw [h]
  · rw [h]; exact hown

set_option maxRecDepth 100000 in
set_option maxHeartbeats 2000000 in
theorem sPartsOf_any (s : ByteArray) (w : World) (hm : s.size ≤ 1048576) : Calls Tryd.prog 7 #[.string s] w (PPost w s) := by
  by_cases hl : 600 < s.size
  · have HN : Hid (parts s.data.toList = (false, [])) := parts_no _ (fun h => by rw [len_s] at h; omega)
    go_enter Tryd.func7, Tryd.ntmps7
    go_wp2
    go_ret2
    exact PPost.no HN.out (OS.made w)
  · go_enter Tryd.func7, Tryd.ntmps7
    go_wp2
    go_loopw [4, 5, 6] (fun v x i wr => PRel w s v x i wr) (fun _ _ i _ => s.size + 1 - (intOf i).toNat)
    case atStart => exact ⟨0, 0, [], rfl, rfl, OS.made w, by simp, by omega, by omega, PI.start s⟩
    case round =>
      obtain ⟨k, b, done, rfl, rfl, hown, hdl, hk, hbk, HP⟩ := hrel
      by_cases hlt : k < s.size
      · have hb8 : s[k].toNat < 256 := s[k].toNat_lt
        by_cases hp : plainB s[k]
        · obtain ⟨hp1, hp2⟩ := hp
          by_cases hc : s[k].toNat = 32
          · have hcb : ((s[k].toNat : Int) != 32) = false := by simp; omega
            by_cases hb : b < k
            · have HQ : Hid (PI s (k + 1) (k + 1) (done ++ [cutB s b k])) := HP.out.part hb hlt hc
              have hcut := run_cut s b k (by omega) (by omega)
              clear hc
              go_wp2_with (at_builtin; refine wp_appS rfl _ _ rfl w.heap.size w _ done rfl (hown.alloc _) ⟨wr.heap.size, 0, none⟩ (cutB s b k) rfl ?c1 ?c2 ?_)
              case c1 => exact new_cell _ _ _ _ rfl
              case c2 => omega
              intro v' w1 hown'
              go_wp2
              go_roundw
              case rel => exact ⟨k + 1, k + 1, _, by go_num, by go_num, hown', by simp; omega, by omega, by omega, HQ⟩
              case measure => simp [intOf] <;> omega
            · have hbe : b = k := by omega
              subst hbe
              have HQ : Hid (PI s (b + 1) (b + 1) done) := HP.out.blank hlt hc
              clear hc
              go_wp2
              go_roundw
              case rel => exact ⟨b + 1, b + 1, _, by go_num, by go_num, hown, by omega, by omega, by omega, HQ⟩
              case measure => simp [intOf] <;> omega
          · have hcb : ((s[k].toNat : Int) != 32) = true := by simp; omega
            have HQ : Hid (PI s (k + 1) b done) := HP.out.more hbk hlt ⟨hp1, hp2⟩ hc
            clear hc
            go_wp2
            go_roundw
            case rel => exact ⟨k + 1, b, _, by go_num, by go_num, hown, by omega, by omega, by omega, HQ⟩
            case measure => simp [intOf] <;> omega
        · have HN : Hid (parts s.data.toList = (false, [])) := not_plain hlt hp
          have hp' : s[k].toNat < 32 ∨ 126 < s[k].toNat := by unfold plainB at hp; omega
          clear hp
          rcases hp' with h | h
          · go_wp2
            go_ret2
            exact PPost.no HN.out (OS.blank hown.2.1 hown.2.2)
          · go_wp2
            go_ret2
            exact PPost.no HN.out (OS.blank hown.2.1 hown.2.2)
      · by_cases hke : k = s.size
        · subst hke
          by_cases hb : b < s.size
          · have HQ : Hid (PI s (s.size + 1) (s.size + 1) (done ++ [cutB s b s.size])) := HP.out.last hb
            have hcut := run_cut s b s.size (by omega) (by omega)
            go_wp2_with (at_builtin; refine wp_appS rfl _ _ rfl w.heap.size w _ done rfl (hown.alloc _) ⟨wr.heap.size, 0, none⟩ (cutB s b s.size) rfl ?c3 ?c4 ?_)
            case c3 => exact new_cell _ _ _ _ rfl
            case c4 => omega
            intro v' w1 hown'
            go_wp2
            go_roundw
            case rel => exact ⟨s.size + 1, s.size + 1, _, by go_num, by go_num, hown', by simp; omega, by omega, by omega, HQ⟩
            case measure => simp [intOf] <;> omega
          · have hbe : b = s.size := by omega
            subst hbe
            have HQ : Hid (PI s (s.size + 1) (s.size + 1) done) := HP.out.lastb
            go_wp2
            go_roundw
            case rel => exact ⟨s.size + 1, s.size + 1, _, by go_num, by go_num, hown, by omega, by omega, by omega, HQ⟩
            case measure => simp [intOf] <;> omega
        · have hk1 : k = s.size + 1 := by omega
          subst hk1
          have hd := HP.out.2.2 rfl
          have hpl := all_plain HP.out.1
          have hfl : (Lib.fields s.data.toList).length = done.length := by rw [hd]; simp [fb]
          rcases hown.shape with ⟨rfl, hn⟩ | ⟨g, cap, rfl, hgB, hgl⟩
          · have HY : Hid (parts s.data.toList = (true, done)) := by
              unfold Hid
              rw [hd]
              exact parts_yes _ ⟨by rw [len_s]; omega, hpl, by rw [hfl, hn]; simp⟩
            clear hd hpl hfl hn
            go_wp2
            go_ret2
            exact PPost.yes HY.out hown
          · by_cases h10 : 10 < done.length
            · have HN : Hid (parts s.data.toList = (false, [])) := parts_no _ (fun h => by rw [hfl] at h; omega)
              clear hd hpl hfl
              go_wp2
              go_ret2
              exact PPost.no HN.out (OS.blank hown.2.1 hown.2.2)
            · have HY : Hid (parts s.data.toList = (true, done)) := by
                unfold Hid
                rw [hd]
                exact parts_yes _ ⟨by rw [len_s]; omega, hpl, by rw [hfl]; omega⟩
              clear hd hpl hfl
              go_wp2
              go_ret2
              exact PPost.yes HY.out hown

end Go.Proofs.YtkpcjhihbhmakaaDoor
