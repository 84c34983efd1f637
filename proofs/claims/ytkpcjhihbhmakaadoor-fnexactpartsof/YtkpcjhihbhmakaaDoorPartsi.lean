/-
  What the program's PartsOf answers: the fields of the line, or none.
-/
import Derived.Test.YtkpcjhihbhmakaaDoorPartsw
import Derived.Test.YtkpcjhihbhmakaaDoorShelf
import Derived.Lib.AppendIntMem
namespace Go.Proofs.YtkpcjhihbhmakaaDoor
open Go.RowKit
set_option linter.unusedVariables false

def IpRel (s : ByteArray) (i : Value) : Prop := ∃ k : Nat, k ≤ s.size ∧ i = .int .i64 k ∧ Hid (∀ j, (h : j < s.size) → j < k → plainB s[j])

theorem isPlain_yes (s : ByteArray) (w : World) (hm : s.size ≤ 1048576) (hp : Hid (∀ j, (h : j < s.size) → plainB s[j])) :
    Calls Tryd.prog 14 #[.string s] w fun e w' => e = .returned (.bool true) ∧ w' = w := by
  go_enter Tryd.func14, Tryd.ntmps14
  go_wp2
  go_loop [6] (fun i => ∃ k : Nat, k ≤ s.size ∧ i = .int .i64 k) (fun i => s.size - (intOf i).toNat)
  case atStart => exact ⟨0, by omega, rfl⟩
  case round =>
    obtain ⟨k, hk, rfl⟩ := hrel
    by_cases hlt : k < s.size
    · have hb8 : s[k].toNat < 256 := s[k].toNat_lt
      obtain ⟨h1, h2⟩ := hp.out k hlt
      go_wp2
      go_round
      case rel => exact ⟨k + 1, by omega, by go_num⟩
      case measure => simp [intOf] <;> omega
    · go_wp2
      go_ret
      exact ⟨rfl, rfl⟩

theorem isPlain_no (s : ByteArray) (w : World) (hm : s.size ≤ 1048576) (hp : Hid (¬ ∀ j, (h : j < s.size) → plainB s[j])) :
    Calls Tryd.prog 14 #[.string s] w fun e w' => e = .returned (.bool false) ∧ w' = w := by
  go_enter Tryd.func14, Tryd.ntmps14
  go_wp2
  go_loop [6] (fun i => IpRel s i) (fun i => s.size - (intOf i).toNat)
  case atStart => exact ⟨0, by omega, rfl, by unfold Hid; intro j _ h; omega⟩
  case round =>
    obtain ⟨k, hk, rfl, HA⟩ := hrel
    by_cases hlt : k < s.size
    · have hb8 : s[k].toNat < 256 := s[k].toNat_lt
      by_cases h : 32 ≤ s[k].toNat ∧ s[k].toNat ≤ 126
      · obtain ⟨h1, h2⟩ := h
        go_wp2
        go_round
        case rel =>
          refine ⟨k + 1, by omega, by go_num, ?_⟩
          intro j hj hjk
          by_cases e : j = k
          · subst e; exact ⟨h1, h2⟩
          · exact HA.out j hj (by omega)
        case measure => simp [intOf] <;> omega
      · rcases (show s[k].toNat < 32 ∨ 126 < s[k].toNat from by omega) with h | h
        · go_wp2
          go_ret
          exact ⟨rfl, rfl⟩
        · have h' : ¬ ((s[k].toNat : Int) < 32) := by omega
          go_wp2
          go_ret
          exact ⟨rfl, rfl⟩
    · exact absurd (fun j hj => HA.out j hj (by omega)) hp.out

theorem Clone_any (s : ByteArray) (w : World) (h : s.size ≤ 1048576) : Calls Tryd.prog 16 #[.string s] w fun e w' => e = .returned (.string s) ∧ Below w.heap.size w w' := by
  go_enter Tryd.func16, Tryd.ntmps16
  go_wp2_with fail
  refine (Tryd.stringslite_Clone s _ (by omega)).mono ?_
  rintro e w' ⟨rfl, hb⟩
  go_wp2
  go_ret
  exact ⟨rfl, hb⟩

theorem OS.blankn {B n : Nat} {w0 w : World} (hb : Below B w0 w) (hB : B ≤ w.heap.size) (hn : w.heap.size = n) : OS B w0 (w.alloc (.cells #[] 9)) (.slice (some ⟨n, 0, none⟩) 0 0) [] := by
  subst hn
  exact OS.blank hb hB

theorem sv_fb (l : List (List UInt8)) : (l.map fun t => Value.string ⟨t.toArray⟩) = sv (fb l) := by simp [sv, fb]

/-- what strings.Fields lays is owned -/
theorem OS.fields {B : Nat} {w0 w : World} (l : List (List UInt8)) (hb : Below B w0 w) (hB : B ≤ w.heap.size) (hl : l.length ≤ 1000000) :
    OS B w0 (w.alloc (.cells (l.map fun t => Value.string ⟨t.toArray⟩).toArray 9)) (.slice (some ⟨w.heap.size, 0, none⟩) l.length l.length) (fb l) := by
  refine ⟨?_, hb.alloc hB _, by simp; omega⟩
  have h := World.ownsRow_lit (e := 9) (size := 1) (base := B) w (l.map fun t => Value.string ⟨t.toArray⟩).toArray l.length hB (by unfold maxLen; omega) (by simp)
  have e : (fb l).length = l.length := by simp [fb]
  rw [e, ← sv_fb]
  simpa using h

theorem fields_le (l : List UInt8) : (Lib.fields l).length ≤ l.length := by
  have h : ∀ (l : List UInt8) (ws : Bool), Lib.cntF ws l ≤ l.length := by
    intro l
    induction l with
    | nil => intro ws; simp [Lib.cntF]
    | cons b l ih =>
      intro ws
      have := ih (Lib.isSp b)
      simp only [Lib.cntF, List.length_cons]
      split <;> omega
  rw [Lib.fields_length]
  exact h l true

set_option maxRecDepth 100000 in
set_option maxHeartbeats 1000000 in
theorem PartsOf_any (s : ByteArray) (w : World) (hm : s.size ≤ 1048576) (htab : Lib.TabBelow Tryd.prog w.heap.size w "strings.asciiSpace" .u8 Lib.asciiSpaceTab) : Calls Tryd.prog 8 #[.string s] w (PPost w s) := by
  have HT : Hid (Lib.TabBelow Tryd.prog w.heap.size w "strings.asciiSpace" .u8 Lib.asciiSpaceTab) := htab
  clear htab
  by_cases hl : 600 < s.size
  · have HN : Hid (parts s.data.toList = (false, [])) := parts_no _ (fun h => by rw [len_s] at h; omega)
    go_enter Tryd.func8, Tryd.ntmps8
    go_wp2
    go_ret2
    exact PPost.no HN.out (OS.made w)
  · have hl' : ¬ ((600 : Int) < (s.size : Int)) := by omega
    by_cases hp : ∀ j, (h : j < s.size) → plainB s[j]
    · have HP : Hid (∀ j, (h : j < s.size) → plainB s[j]) := hp
      have hall := all_plain (s := s) (fun j hj _ => hp j hj)
      have HA : Hid (∀ b ∈ s.data.toList, 32 ≤ b.toNat ∧ b.toNat ≤ 126) := hall
      have hfl := fields_le s.data.toList
      rw [len_s] at hfl
      clear hp hall
      go_enter Tryd.func8, Tryd.ntmps8
      go_wp2_with fail
      refine (isPlain_yes s _ hm HP).mono ?_
      rintro e w1 ⟨rfl, rfl⟩
      go_wp2_with fail
      refine (Clone_any s _ hm).mono ?_
      rintro e w2 ⟨rfl, hb2⟩
      go_wp2_with fail
      refine (Tryd.strings_Fields s _ (by omega) (fun j b hj => by have := HA.out b (List.mem_of_getElem? hj); omega) (HT.out _ hb2)).mono ?_
      rintro e w3 ⟨rfl, rfl⟩
      have hown := OS.fields (Lib.fields s.data.toList) hb2 hb2.size (by omega)
      generalize hF : Lib.fields s.data.toList = F at *
      have HF : Hid (Lib.fields s.data.toList = F) := hF
      clear hF
      by_cases h10 : 10 < F.length
      · have HN : Hid (parts s.data.toList = (false, [])) := parts_no _ (fun h => by have h3 := h.2.2; rw [HF.out] at h3; omega)
        go_wp2
        go_ret2
        exact PPost.no HN.out (OS.blankn hown.2.1 hown.2.2 (by simp))
      · have HY : Hid (parts s.data.toList = (true, fb F)) := by
          unfold Hid
          rw [parts_yes _ ⟨by rw [len_s]; omega, HA.out, by rw [HF.out]; omega⟩, HF.out]
        go_wp2
        go_ret2
        exact PPost.yes HY.out hown
    · have HP : Hid (¬ ∀ j, (h : j < s.size) → plainB s[j]) := hp
      have HN : Hid (parts s.data.toList = (false, [])) := parts_no _ (fun h => hp (fun j hj => h.2.1 s[j] (List.mem_of_getElem? (get_s s j hj))))
      clear hp
      go_enter Tryd.func8, Tryd.ntmps8
      go_wp2_with fail
      refine (isPlain_no s _ hm HP).mono ?_
      rintro e w1 ⟨rfl, rfl⟩
      go_wp2
      go_ret2
      exact PPost.no HN.out (OS.made _)

end Go.Proofs.YtkpcjhihbhmakaaDoor
