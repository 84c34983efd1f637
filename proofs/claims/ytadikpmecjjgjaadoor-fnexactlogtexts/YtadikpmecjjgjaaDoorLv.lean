/-
  The specification's LogTexts: it answers the same texts.
-/
import Derived.Test.YtadikpmecjjgjaaDoorLt
import Derived.OwnWalk
namespace Go.Proofs.YtadikpmecjjgjaaDoor
open Go.RowKit
set_option linter.unusedVariables false
set_option linter.unusedSimpArgs false

/-- a whole row of texts appended to an empty one -/
theorem wp_strs {w : World} {ops : Array Oper} {rest : List Oper} {o : Oper} {a : Act} {Q : Exit → Act → World → Prop} (hgd : o.guard = none) (s x : Operand)
    (ho : o.op = .call { callee := .builtin .append, args := #[s, x], argTypes := #[32, 32] })
    (B : Nat) (w0 : World) (g : Nat) (hs : a.eval s = .slice (some ⟨g, 0, none⟩) 0 0) (h : OS B w0 w (.slice (some ⟨g, 0, none⟩) 0 0) []) (B2 : Nat) (w2 : World) (u : Value) (l : List ByteArray) (hx : a.eval x = u) (hu : OS B2 w2 w u l) (hlen : l.length ≤ 1000000)
    (hk : ∀ v' w', OS B w0 w' v' l → wpList Tryd.prog ops Q rest (a.put o.dst v') w') : wpList Tryd.prog ops Q (o :: rest) a w := by
  obtain ⟨i0, hi, hz0, hz1, hz2⟩ := info_parts Tryd.info9
  rcases hu.shape with ⟨rfl, rfl⟩ | ⟨g2, cap, rfl, _, _⟩
  · refine wpList_append_fits_any w hgd s x 32 ho B 9 i0 1 Tryd.underlying32 hi hz1 g 0 0 [] hs h.1 none 0 0 [] hx rfl (fun _ => ⟨rfl, rfl⟩) (fun ad h => by cases h) (fun u hu => by cases hu) (by omega) ?_
    intro w' h1 h2
    exact hk _ _ ⟨by simpa [svs] using h1, h.2.1.grown h2 h.2.2 (fun k hk => (h.1.lt k hk).1), Nat.le_trans h.2.2 h2.size⟩
  · refine wpList_append_own _ hgd s x 32 ho B 9 i0 (.string ByteArray.empty) 1 16 Tryd.underlying32 hi hz0 hz1 hz2 rfl (by decide) _ 0 [] hs h.1 ⟨g2, 0, none⟩ l.length cap (svs l) hx (by simp [svs]) ?_
      (fun u hu => by obtain ⟨t, _, ht⟩ := List.mem_map.1 hu; subst ht; rfl) (by unfold maxLen; omega) (by omega) h.2.2 ?_
    · intro j u hj
      have hj2 : j < l.length := by have := (List.getElem?_eq_some_iff.1 hj).1; simpa [svs] using this
      have e : u = .string l[j] := by simpa [svs, List.getElem?_eq_getElem hj2] using hj.symm
      rw [Addr.add_lit, Nat.zero_add, e]
      exact hu.at j hj2
    · intro v' w' h1 h2 _
      exact hk _ _ ⟨by simpa [svs] using h1, h.2.1.grown h2 h.2.2 (fun k hk => (h.1.lt k hk).1), Nat.le_trans h.2.2 h2.size⟩

set_option maxHeartbeats 1000000 in
theorem sLogTexts_any (v : Value) (ga oa : Nat) (L : List Fl) (x : ByteArray) (w : World) (hv : RS 3 fcs w v ga oa L) (hs : SmallF L) :
    Calls Tryd.prog 12 #[.agg #[v], .string x] w (LtP w (ltT L x)) := by
  have hv1 := hv.later (bxD.below w v)
  have HC := sDiskOk_any v ga oa L _ hv1
  have HB : Hid (Below w.heap.size w (bxD w v) ∧ (bxD w v).cell? ⟨w.heap.size, 0, none⟩ = some v ∧ w.heap.size < (bxD w v).heap.size) := ⟨bxD.below w v, bxD.cell w v, bxD.lt w v⟩
  have HF : Hid (∀ W, Below (bxD w v).heap.size (bxD w v) W → Calls Tryd.prog 32 #[.agg #[v], .string x] W fun e w' => e = .returned (.tuple #[.string (F.fileT L x), .bool (F.fileO L x)]) ∧ Below W.heap.size W w') := fun W hW => sFileAt_any v ga oa L x W (hv1.later hW)
  have hz := fileT_le (x := x) hs
  obtain ⟨M, hM⟩ : ∃ M, ltT L x = M := ⟨_, rfl⟩
  have hl : M.length ≤ 20000 := by rw [← hM]; exact ltT_len L x
  rw [hM]
  obtain ⟨a, cap, rfl⟩ := hv.shape
  unfold bxD at HC HF HB
  cases hd : F.diskB L with
  | false =>
    obtain rfl : M = [] := by rw [← hM]; simp [ltT, hd]
    rw [hd] at HC
    clear hv hv1 hs hz hl hd hM HF
    go_enter Tryd.func12, Tryd.ntmps12
    go_wp2_with fail
    refine HC.mono ?_
    rintro e w1 ⟨rfl, hb1⟩
    have HB1 : Hid (Below w.heap.size w w1) := HB.out.1.trans (hb1.mono HB.out.1.size)
    clear HB HC hb1
    go_wp2
    go_ret
    exact LtP.mk ((OS.made w1).wide HB1.out HB1.out.size)
  | true =>
    have hM2 : textsOf (framesOf (F.fileT L x)) = M := by rw [← hM]; simp [ltT, hd]
    rw [hd] at HC
    have HU : Hid (∀ W, Calls Tryd.prog 33 #[.string (F.fileT L x)] W (UnQ W (endOf (framesOf (F.fileT L x))) M)) := fun W => sUnframe_at _ _ _ W hz ⟨rfl, hM2⟩
    generalize endOf (framesOf (F.fileT L x)) = E at *
    generalize F.fileT L x = T at *
    generalize F.fileO L x = R at *
    clear hv hv1 hs hz hd hM hM2
    go_enter Tryd.func12, Tryd.ntmps12
    go_wp2_with fail
    refine HC.mono ?_
    rintro e w1 ⟨rfl, hb1⟩
    have c1 : w1.cell? ⟨w.heap.size, 0, none⟩ = some (.slice a L.length cap) := (hb1.cell (p := ⟨w.heap.size, 0, none⟩) HB.out.2.2).trans HB.out.2.1
    have HB1 : Hid (Below w.heap.size w w1) := HB.out.1.trans (hb1.mono HB.out.1.size)
    have HF1 := HF.out _ hb1
    clear HB HC HF hb1
    go_wp2_with fail
    refine HF1.mono ?_
    rintro e w2 ⟨rfl, hb2⟩
    have HB2 : Hid (Below w.heap.size w w2) := HB1.out.trans (hb2.mono HB1.out.size)
    clear HB1 hb2 HF1 c1
    go_wp2_with fail
    refine (HU.out _).mono ?_
    rintro e w3 ⟨u, rfl, hu⟩
    have HB3 : Hid (Below w.heap.size w w3) := HB2.out.trans (hu.2.1.mono HB2.out.size)
    have HO : Hid (OS w2.heap.size w2 (w3.alloc (.cells #[] 9)) u M) := hu.alloc _
    have HN : Hid (OS w.heap.size w (w3.alloc (.cells #[] 9)) (.slice (some ⟨w3.heap.size, 0, none⟩) 0 0) []) := (OS.made w3).wide HB3.out HB3.out.size
    clear HB2 hu HU HB3
    go_wp2_with (at_builtin; refine wp_strs rfl _ _ rfl w.heap.size w w3.heap.size rfl HN.out _ _ u M rfl HO.out (by omega) ?_; intro v4 w4 h4)
    go_ret
    exact LtP.mk h4

end Go.Proofs.YtadikpmecjjgjaaDoor
