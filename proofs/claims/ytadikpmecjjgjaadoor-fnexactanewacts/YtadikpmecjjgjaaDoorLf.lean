/-
  What is written down, in plain words: which names serve, frames one behind the other, acts; and what the program's own helpers make of them.
-/
import Derived.Test.YtadikpmecjjgjaaDoorBu
import Derived.Test.YtadikpmecjjgjaaDoorBs
import Derived.Test.YtadikpmecjjgjaaDoorFrw
import Derived.Test.YtadikpmecjjgjaaDoorEb
import Derived.Test.YtadikpmecjjgjaaDoorAm
import Derived.Test.YtadikpmecjjgjaaDoorDw
import Derived.Test.YtadikpmecjjgjaaDoorTxt
namespace Go.Proofs.YtadikpmecjjgjaaDoor
open Go.RowKit
set_option linter.unusedVariables false
set_option linter.unusedSimpArgs false

def newB : ByteArray := ⟨#[110, 101, 119]⟩
def lnB (s : ByteArray) : Bool := F.nmB s && !decide (s = newB)
def okT (t : ByteArray) : Bool := decide (1 ≤ t.size ∧ t.size ≤ 9000)
def frsL (l : List ByteArray) : List UInt8 := l.flatMap fun t => (frB t).data.toList
def frsB (l : List ByteArray) : ByteArray := ⟨(frsL l).toArray⟩
def logAs (n f : ByteArray) : List Ac := [⟨1, n, f, ⟨#[]⟩⟩, ⟨2, n, ⟨#[]⟩, ⟨#[]⟩⟩]

theorem okT_iff {t : ByteArray} : okT t = true ↔ 1 ≤ t.size ∧ t.size ≤ 9000 := by simp [okT]
theorem frB_le {t : ByteArray} (h : okT t = true) : (frB t).size ≤ 9014 := by
  have h1 := okT_iff.1 h
  have h2 := varB_le t.size
  have h3 := fourB_size (sumN t)
  unfold frB
  rw [ByteArray.size_append, ByteArray.size_append]
  omega
theorem frsL_snoc (l : List ByteArray) (t : ByteArray) : frsL (l ++ [t]) = frsL l ++ (frB t).data.toList := by simp [frsL]
theorem frsL_len : ∀ (l : List ByteArray), (∀ t ∈ l, okT t = true) → (frsL l).length ≤ 9014 * l.length
  | [], _ => by simp [frsL]
  | t :: r, h => by
    have h1 := frB_le (h t (by simp))
    have h2 := frsL_len r (fun x hx => h x (by simp [hx]))
    have e : frsL (t :: r) = (frB t).data.toList ++ frsL r := by simp [frsL]
    have e2 : (frB t).data.toList.length = (frB t).size := Array.length_toList
    rw [e, List.length_append, List.length_cons]
    omega
theorem frsB_one (t : ByteArray) : frsB [t] = frB t := by
  have e : frsL [t] = (frB t).data.toList := by
    unfold frsL
    rw [List.flatMap_cons, List.flatMap_nil, List.append_nil]
  unfold frsB
  rw [e]

/-- what framesOf answers -/
def foOut (l : List ByteArray) : Array Value := if l.all okT then #[.string (frsB l), .nilIface] else #[.string ⟨#[]⟩, faultV 4]
theorem foOut_yes {l : List ByteArray} (h : ∀ t ∈ l, okT t = true) : foOut l = #[.string (frsB l), .nilIface] := by
  unfold foOut
  rw [if_pos (List.all_eq_true.2 h)]
theorem foOut_no {l : List ByteArray} {t : ByteArray} (hm : t ∈ l) (h : okT t = false) : foOut l = #[.string ⟨#[]⟩, faultV 4] := by
  unfold foOut
  rw [if_neg]
  intro hc
  have := List.all_eq_true.1 hc t hm
  rw [h] at this
  cases this

def FoI (l : List ByteArray) (w : World) (b m : Nat) (wr : World) : Prop := (∀ t ∈ l.take m, okT t = true) ∧ Lib.IsBuilder 116 5 w.heap.size b (Lib.byteCells (frsL (l.take m))) wr ∧ Below w.heap.size w wr
def FoR (l : List ByteArray) (w : World) (b : Nat) (i : Value) (wr : World) : Prop := ∃ m : Nat, m ≤ l.length ∧ i = .int .i64 m ∧ Hid (FoI l w b m wr)
theorem FoI.later {l : List ByteArray} {w wr wr' : World} {b m : Nat} (h : FoI l w b m wr) (hb : Below wr.heap.size wr wr') : FoI l w b m wr' := ⟨h.1, IsBuilder_later h.2.1 hb, h.2.2.trans (hb.mono h.2.2.size)⟩
theorem FoI.step {l : List ByteArray} {w wr wr' : World} {b m : Nat} (hm : m < l.length) (h : FoI l w b m wr) (hk : okT l[m] = true)
    (hb : Lib.BuilderAt 116 5 w.heap.size b (.pointer (some ⟨b, 0, none⟩)) (Lib.byteCells (frsL (l.take m)) ++ Lib.strCells (frB l[m])) wr') (hl : Below w.heap.size wr wr') : FoI l w b (m + 1) wr' := by
  have e : l.take (m + 1) = l.take m ++ [l[m]] := List.take_succ_eq_append_getElem hm
  refine ⟨fun t ht => ?_, ?_, h.2.2.trans hl⟩
  · rw [e, List.mem_append] at ht
    rcases ht with ht | ht
    · exact h.1 t ht
    · rw [List.mem_singleton.1 ht]; exact hk
  · rw [e, frsL_snoc, Lib.byteCells_append]
    exact .inr hb

set_option maxRecDepth 100000 in
set_option maxHeartbeats 1000000 in
theorem framesOf_any (v : Value) (g o : Nat) (l : List ByteArray) (w : World) (hv : SS w v g o l) (hgl : 0 < l.length → g < w.heap.size) (hs : ∀ t ∈ l, t.size ≤ 1048576) (hT : Tab w) :
    Calls Tryd.prog 60 #[v] w fun e w' => e = .returned (.tuple (foOut l)) ∧ Below w.heap.size w w' := by
  obtain ⟨R, hR⟩ : ∃ R, foOut l = R := ⟨_, rfl⟩
  have HR : Hid (foOut l = R) := hR
  rw [hR]
  have HV : Hid (SS w v g o l) := hv
  obtain ⟨a, cap, rfl, hl, hA, _⟩ := hv
  obtain ⟨n, hn⟩ : ∃ n, l.length = n := ⟨_, rfl⟩
  have HA : Hid (0 < n → a = some ⟨g, o, none⟩ ∧ g < w.heap.size) := by rw [← hn]; exact fun h => ⟨hA h, hgl h⟩
  have hp := hT.pos
  have HT : Hid (Tab w) := hT
  have HS : Hid (∀ t ∈ l, t.size ≤ 1048576) := hs
  have h0 : FoI l w w.heap.size 0 (w.alloc (.cells #[.pointer none, .slice none 0 0] 116)) := ⟨by simp, by simpa [frsL, Lib.byteCells] using Lib.fresh_isBuilder 116 5 w, (Below.refl _ _).alloc (Nat.le_refl _) _⟩
  have HST : Hid (FoI l w w.heap.size 0 (w.alloc (.cells #[.pointer none, .slice none 0 0] 116))) := h0
  rw [hn] at hl HV ⊢
  clear hA hgl hT hs hR h0
  go_enter Tryd.func60, Tryd.ntmps60
  go_wp2
  go_loopw [11] (fun i wr => FoR l w w.heap.size i wr) (fun i _ => n - (intOf i).toNat)
  case atStart => exact ⟨0, by omega, rfl, HST⟩
  case round =>
    obtain ⟨m, hm, rfl, HI⟩ := hrel
    clear HST
    rw [hn] at hm
    by_cases hlt : m < n
    · obtain ⟨ea, hgw⟩ := HA.out (by omega)
      subst ea
      obtain ⟨_, _, _, _, _, hc⟩ := HV.out
      have c0 := (HI.out.2.2.cell (p := ⟨g, o + m, none⟩) hgw).trans (hc m (by omega))
      clear hc
      obtain ⟨X, hX⟩ : ∃ X, l[m]'(by omega) = X := ⟨_, rfl⟩
      rw [hX] at c0
      have HX : Hid (l[m]'(by omega) = X) := hX
      have hxs := HS.out X (by rw [← hX]; exact List.getElem_mem _)
      have hTr : Tab wr := HT.out.later HI.out.2.2 hp
      have i1 : (m : Int) < (n : Int) := by omega
      have i2 : (0 : Int) ≤ (m : Int) := by omega
      clear hX HV HS HA
      cases hk : okT X with
      | false =>
        have hq : ¬ (1 ≤ X.size ∧ X.size ≤ 9000) := fun h => by rw [okT_iff.2 h] at hk; cases hk
        have hR2 := foOut_no (l := l) (t := X) (by rw [← HX.out]; exact List.getElem_mem _) hk
        rw [HR.out] at hR2
        subst hR2
        have HQ : Hid (¬ (1 ≤ X.size ∧ X.size ≤ 9000)) := hq
        clear hq
        go_wp2_with fail
        refine (Frame_no X _ hxs HQ.out).mono ?_
        rintro e w1 ⟨rfl, hb1⟩
        have HF : Hid (Below w.heap.size w w1) := (HI.out.later hb1).2.2
        clear HI hb1
        go_wp2
        go_ret2
        exact ⟨rfl, HF.out⟩
      | true =>
        have hq := okT_iff.1 hk
        have hf := frB_le hk
        have HQ : Hid (1 ≤ X.size ∧ X.size ≤ 9000) := hq
        clear hq
        go_wp2_with fail
        refine (Frame_yes X _ HQ.out.1 HQ.out.2 hTr).mono ?_
        rintro e w1 ⟨rfl, hb1⟩
        have HI1 : Hid (FoI l w w.heap.size m w1) := HI.out.later hb1
        clear HI hb1
        have hlen : (Lib.byteCells (frsL (l.take m))).length + (frB X).size ≤ 140737488355328 := by
          have := frsL_len _ HI1.out.1
          rw [Lib.byteCells_length]
          rw [List.length_take] at this
          omega
        go_wp2_with fail
        refine (WriteString_any w.heap.size w.heap.size _ (frB X) _ HI1.out.2.1 hlen HI1.out.2.2.size).mono ?_
        rintro e w2 ⟨rfl, hb2, hl2⟩
        have HI2 : Hid (FoI l w w.heap.size (m + 1) w2) := by
          refine HI1.out.step (by omega) (by rw [HX.out]; exact hk) ?_ hl2
          rw [HX.out]
          exact hb2
        clear HI1 hb2 hl2 hlen
        generalize frB X = Y at *
        go_wp2
        go_roundw
        case rel => exact ⟨m + 1, by omega, by go_num, HI2⟩
        case measure => simp [intOf]; omega
    · have hme : m = n := by omega
      subst hme
      have hR2 := foOut_yes (l := l) (by have h := HI.out.1; rw [← hn, List.take_length] at h; exact h)
      rw [HR.out] at hR2
      subst hR2
      have HB : Hid (Lib.IsBuilder 116 5 w.heap.size w.heap.size (Lib.byteCells (frsL l)) wr ∧ Below w.heap.size w wr) := by
        have h := HI.out
        rw [← hn] at h
        unfold FoI at h
        rw [List.take_length] at h
        exact h.2
      clear HI HV HA
      go_wp2_with fail
      refine (BString_any w.heap.size w.heap.size (frsL l) _ HB.out.1 HB.out.2.size).mono ?_
      rintro e w1 ⟨rfl, hb1⟩
      have HF : Hid (Below w.heap.size w w1) := HB.out.2.trans hb1
      clear HB hb1
      go_wp2
      go_ret2
      exact ⟨rfl, HF.out⟩

end Go.Proofs.YtadikpmecjjgjaaDoor
