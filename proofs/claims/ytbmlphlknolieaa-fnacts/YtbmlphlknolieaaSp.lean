/-
  The specification's own disks: a row of files that grows in a field, file by file.
-/
import Derived.Test.YtbmlphlknolieaaFa
import Derived.Test.YtbmlphlknolieaaLs
import Derived.Deep.AppendLies
import Derived.Deep.RegionLaw
namespace Go.Proofs.Ytbmlphlknolieaa
open Go.RowKit Go.BigFrame Go.Sort
set_option linter.unusedVariables false
set_option linter.unusedSimpArgs false

/-- v owns the files l -/
def OF (B : Nat) (w0 w : World) (v : Value) (l : List Fl) : Prop := OR 36 3 fcs B w0 w v l
theorem BD.fr {W : World} {p T : Nat} {v : Value} (h : BD W p T v) : W.frozen? ⟨p, 0, none⟩ = false := by
  simp [World.frozen?, show W.heap[p]? = some (.cells #[v] T (0, 0)) from h]
theorem OF.ne {B : Nat} {w0 w : World} {u v : Value} {l : List Fl} {p : Nat} (h : OF B w0 w u l) (hb : BD w p 26 v) : u.ownBlock ≠ some p := by
  rcases h.1.2 with ⟨hv, _⟩ | ⟨g, cap, cur, hv, _, hg, _⟩
  · rw [hv]; simp [Value.ownBlock]
  · rw [hv]
    intro e
    have : g = p := by simpa [Value.ownBlock] using e
    subst this
    have e2 := (show w.heap[g]? = some (.cells #[v] 26 (0, 0)) from hb).symm.trans hg
    simp at e2
theorem OF.nil (w : World) : OF w.heap.size w w (.slice none 0 0) [] := OR.nil w
theorem OF.later {B : Nat} {w0 w w' : World} {v : Value} {l : List Fl} (h : OF B w0 w v l) (hb : Below w.heap.size w w') : OF B w0 w' v l := OR.later h hb
theorem OF.dk {B : Nat} {w0 w : World} {v : Value} {l : List Fl} (h : OF B w0 w v l) (hl : l.length ≤ 1100000) : DkIn w B (.agg #[v]) l := by
  obtain ⟨g, h1, h2, _⟩ := OR.rw (k := 3) (enc := fcs) (fun x => fcs_len x) (by omega) h hl
  exact ⟨v, g, rfl, h1, h2⟩
theorem OF.shape {B : Nat} {w0 w : World} {v : Value} {l : List Fl} (h : OF B w0 w v l) : ∃ a c, v = .slice a l.length c := by
  rcases h.1.2 with ⟨hv, hn⟩ | ⟨g, cap, cur, hv, _⟩
  · exact ⟨none, 0, by rw [hv, hn]⟩
  · exact ⟨_, _, hv⟩

section
variable {w : World} {ops : Array Oper} {o : Oper} {a : Act} {K : Act → World → Prop} {Q : Exit → Act → World → Prop}
/-- a file appended, as one step of a region that draws its order -/
theorem step_file {E : Prop} (hgd : o.guard = none) (s x : Operand)
    (ho : o.op = .call { callee := .builtin .append, args := #[s, x], argTypes := #[24, 24] })
    (B : Nat) (w0 : World) (u : Value) (l : List Fl) (f : Fl) (hs : a.eval s = u) (h : OF B w0 w u l) (p : Nat) (hx : a.eval x = .slice (some ⟨p, 0, none⟩) 1 1)
    (hnews : w.rangeAt p 0 (fcs f)) (hlen : l.length + 1 ≤ 1000000)
    (hk : ∀ g cap w', OF B w0 w' (.slice (some ⟨g, 0, none⟩) (l.length + 1) cap) (l ++ [f]) → w.grownBy w' u.ownBlock → K (a.put o.dst (.slice (some ⟨g, 0, none⟩) (l.length + 1) cap)) w') : if Region.wanted o (yielded ops a.tmps) = true then Oper.wp Try.prog o a w K Q else E := by
  obtain ⟨i0, hi, hz0, hz1, hz2⟩ := info_parts Try.infoFile
  refine step_append_lies w hgd s x 24 ho B 36 i0 _ 3 40 Try.underlying24 hi hz0 hz1 hz2 rfl (by decide) u l.length (l.flatMap fcs) hs h.1 ⟨p, 0, none⟩ 1 1 (fcs f) hx rfl ?_
    (fun u hu => by simp [fcs] at hu; rcases hu with rfl | rfl | rfl <;> rfl) (by omega) (by unfold maxLen; omega) (by omega) h.2.2 w.heap.size rfl ?_
  · intro j u hj
    have := hnews j u hj
    rw [Addr.add_mid]
    exact this
  · intro g cap w' h1 h2 h3 _
    exact hk _ _ _ ⟨by rw [List.flatMap_append, List.flatMap_singleton, List.length_append]; exact h1, h.2.1.grown h2 h.2.2 (fun k hk => (h.1.lt k hk).1), Nat.le_trans h.2.2 h2.size⟩ h2
/-- .. and in a plain region -/
theorem wp_file {rest : List Oper} (hgd : o.guard = none) (s x : Operand)
    (ho : o.op = .call { callee := .builtin .append, args := #[s, x], argTypes := #[24, 24] })
    (B : Nat) (w0 : World) (u : Value) (l : List Fl) (f : Fl) (hs : a.eval s = u) (h : OF B w0 w u l) (p : Nat) (hx : a.eval x = .slice (some ⟨p, 0, none⟩) 1 1)
    (hnews : w.rangeAt p 0 (fcs f)) (hlen : l.length + 1 ≤ 1000000)
    (hk : ∀ g cap w', OF B w0 w' (.slice (some ⟨g, 0, none⟩) (l.length + 1) cap) (l ++ [f]) → w.grownBy w' u.ownBlock → wpList Try.prog ops Q rest (a.put o.dst (.slice (some ⟨g, 0, none⟩) (l.length + 1) cap)) w') : wpList Try.prog ops Q (o :: rest) a w := by
  obtain ⟨i0, hi, hz0, hz1, hz2⟩ := info_parts Try.infoFile
  refine wpList_append_lies w hgd s x 24 ho B 36 i0 _ 3 40 Try.underlying24 hi hz0 hz1 hz2 rfl (by decide) u l.length (l.flatMap fcs) hs h.1 ⟨p, 0, none⟩ 1 1 (fcs f) hx rfl ?_
    (fun u hu => by simp [fcs] at hu; rcases hu with rfl | rfl | rfl <;> rfl) (by omega) (by unfold maxLen; omega) (by omega) h.2.2 w.heap.size rfl ?_
  · intro j u hj
    have := hnews j u hj
    rw [Addr.add_mid]
    exact this
  · intro g cap w' h1 h2 h3 _
    exact hk _ _ _ ⟨by rw [List.flatMap_append, List.flatMap_singleton, List.length_append]; exact h1, h.2.1.grown h2 h.2.2 (fun k hk => (h.1.lt k hk).1), Nat.le_trans h.2.2 h2.size⟩ h2
end

/-- the disk that is looked at (block p), one that is empty (block q), and one that grows (block r) -/
def SpW (B : Nat) (w0 w : World) (p q r : Nat) (v u : Value) (l : List Fl) : Prop := OF B w0 w u l ∧ (BD w p 26 v ∧ BD w q 26 (.slice none 0 0) ∧ BD w r 26 u) ∧ (B ≤ q ∧ B ≤ r) ∧ p ≠ r ∧ q ≠ r
theorem SpW.later {B : Nat} {w0 w w' : World} {p q r : Nat} {v u : Value} {l : List Fl} (h : SpW B w0 w p q r v u l) (hb : Below w.heap.size w w') : SpW B w0 w' p q r v u l :=
  ⟨h.1.later hb, ⟨h.2.1.1.later hb, h.2.1.2.1.later hb, h.2.1.2.2.later hb⟩, h.2.2⟩
/-- behind an append: the field still holds the old row -/
def SpA (B : Nat) (w0 w : World) (p q r : Nat) (v u u' : Value) (l' : List Fl) : Prop := OF B w0 w u' l' ∧ (BD w p 26 v ∧ BD w q 26 (.slice none 0 0) ∧ BD w r 26 u) ∧ (B ≤ q ∧ B ≤ r) ∧ p ≠ r ∧ q ≠ r
theorem SpW.app {B : Nat} {w0 w w' : World} {p q r : Nat} {v u u' : Value} {l l' : List Fl} (h : SpW B w0 w p q r v u l) (ho : OF B w0 w' u' l') (hg : w.grownBy w' u.ownBlock) : SpA B w0 w' p q r v u u' l' :=
  ⟨ho, ⟨h.2.1.1.grown hg (h.1.ne h.2.1.1).symm, h.2.1.2.1.grown hg (h.1.ne h.2.1.2.1).symm, h.2.1.2.2.grown hg (h.1.ne h.2.1.2.2).symm⟩, h.2.2⟩
theorem SpA.set {B : Nat} {w0 w : World} {p q r : Nat} {v u u' : Value} {l' : List Fl} (h : SpA B w0 w p q r v u u' l') : SpW B w0 (w.setCell ⟨r, 0, none⟩ u') p q r v u' l' := by
  have hg := grown_set w r 0 u'
  refine ⟨OR.grown h.1 hg (fun k hk => ⟨by cases hk; exact h.2.2.1.2, fun e => h.1.ne h.2.1.2.2 (e.trans hk.symm)⟩), ⟨h.2.1.1.grown hg (by simp [h.2.2.2.1]), h.2.1.2.1.grown hg (by simp [h.2.2.2.2]), ?_⟩, h.2.2⟩
  show (w.setCell ⟨r, 0, none⟩ u').heap[r]? = _
  rw [heap_setCell_same w r 0 _ _ _ h.2.1.2.2]
  rfl
theorem SpW.start (w : World) (v : Value) : SpW w.heap.size w (((w.alloc (.cells #[v] 26)).alloc (.cells #[.slice none 0 0] 26)).alloc (.cells #[.slice none 0 0] 26)) w.heap.size (w.heap.size + 1) (w.heap.size + 1 + 1) v (.slice none 0 0) [] := by
  have hb : Below w.heap.size w (((w.alloc (.cells #[v] 26)).alloc (.cells #[.slice none 0 0] 26)).alloc (.cells #[.slice none 0 0] 26)) := (((Below.refl _ _).alloc (Nat.le_refl _) _).alloc (by simp) _).alloc (by simp; omega) _
  exact ⟨(OF.nil w).later hb, ⟨(Below.heap_alloc _ _ w.heap.size (by simp; omega)).trans (alloc_snd _ _ _ rfl), alloc_snd _ _ _ (by simp), alloc_fst _ _ (by simp)⟩, ⟨by omega, by omega⟩, by omega, by omega⟩

/-- .. and the one that was empty is answered -/
theorem SpW.ret {B : Nat} {w0 w : World} {p q r : Nat} {v u : Value} {l : List Fl} (h : SpW B w0 w p q r v u l) (hl : l.length ≤ 1100000) :
    (w.setCell ⟨q, 0, none⟩ u).rangeAt q 0 [u] ∧ DkIn (w.setCell ⟨q, 0, none⟩ u) B (.agg #[u]) l ∧ Below B w0 (w.setCell ⟨q, 0, none⟩ u) := by
  have hg := grown_set w q 0 u
  refine ⟨range1 (set_here h.2.1.2.1.cell h.2.1.2.1.fr _), OF.dk (w0 := w0) (OR.grown h.1 hg (fun k hk => ⟨by cases hk; exact h.2.2.1.1, fun e => h.1.ne h.2.1.2.1 (e.trans hk.symm)⟩)) hl, ?_⟩
  exact h.1.2.1.setCell (p := ⟨q, 0, none⟩) h.2.2.1.1 _

namespace F
theorem wout_step {L : List Fl} {m : Nat} (x : ByteArray) (hm : m < L.length) : wout (L.take (m + 1)) x = if L[m].n = x then wout (L.take m) x else wout (L.take m) x ++ [L[m]] := by
  unfold wout
  rw [List.take_succ_eq_append_getElem hm, List.filter_append]
  by_cases h : L[m].n = x
  · simp [h]
  · simp [h]
theorem wout_take_len (L : List Fl) (m : Nat) (x : ByteArray) : (wout (L.take m) x).length ≤ L.length := Nat.le_trans (len_wout_le _ _) (by simp; omega)
end F

def WoR (w : World) (L : List Fl) (x : ByteArray) (v : Value) (i : Value) (wr : World) : Prop := ∃ (m : Nat) (u : Value), m ≤ L.length ∧ i = .int .i64 m ∧ Hid (SpW w.heap.size w wr w.heap.size (w.heap.size + 1) (w.heap.size + 1 + 1) v u (F.wout (L.take m) x))

set_option maxRecDepth 100000 in
set_option maxHeartbeats 1000000 in
theorem l06Without_any (v : Value) (ga oa : Nat) (L : List Fl) (x : ByteArray) (w : World) (hv : RS 3 fcs w v ga oa L) (hL : L.length ≤ 100000) :
    Calls Try.prog 71 #[.agg #[v], .string x] w fun e w' => ∃ u, e = .returned u ∧ DkIn w' w.heap.size u (F.wout L x) ∧ Below w.heap.size w w' := by
  have HV : Hid (RS 3 fcs w v ga oa L) := hv
  obtain ⟨a, cap, rfl, hl, hA, _⟩ := hv
  obtain ⟨n, hn⟩ : ∃ n, L.length = n := ⟨_, rfl⟩
  have HA : Hid (0 < n → a = some ⟨ga, oa, none⟩) := by rw [← hn]; exact fun h => (hA h).1
  rw [hn] at hl HV ⊢
  clear hA
  have HST : Hid (WoR w L x (.slice a n cap) (.int .i64 0) (((w.alloc (.cells #[.slice a n cap] 26)).alloc (.cells #[.slice none 0 0] 26)).alloc (.cells #[.slice none 0 0] 26))) := ⟨0, .slice none 0 0, by omega, rfl, SpW.start w (.slice a n cap)⟩
  go_enter Try.func71, Try.ntmps71
  go_wp2
  go_loopw [6] (fun i wr => WoR w L x (.slice a n cap) i wr) (fun i _ => n - (intOf i).toNat)
  case atStart => exact HST.out
  case round =>
    obtain ⟨m, u, hm, rfl, HI⟩ := hrel
    clear HST
    rw [hn] at hm
    have d0 := HI.out.2.1.1.cell
    by_cases hlt : m < n
    · have ea := HA.out (by omega)
      subst ea
      obtain ⟨c0, c1, c2⟩ := (HV.out.later HI.out.1.2.1).file m (by omega)
      obtain ⟨X, hX⟩ : ∃ X, L[m]'(by omega) = X := ⟨_, rfl⟩
      rw [hX] at c0 c1 c2
      have HX : Hid (F.wout (L.take (m + 1)) x = if X.n = x then F.wout (L.take m) x else F.wout (L.take m) x ++ [X]) := by rw [← hX]; exact F.wout_step x (by omega)
      have i1 : (m : Int) < (n : Int) := by omega
      have i2 : (0 : Int) ≤ (m : Int) := by omega
      by_cases hk : X.n = x
      · have HJ : Hid (SpW w.heap.size w wr w.heap.size (w.heap.size + 1) (w.heap.size + 1 + 1) (.slice (some ⟨ga, oa, none⟩) n cap) u (F.wout (L.take (m + 1)) x)) := by rw [HX.out, if_pos hk]; exact HI.out
        have q : (X.n.toList == x.toList) = true := by rw [hk]; simp
        clear HI HX HA HV hX hk
        go_wp2
        go_roundw
        case rel => exact ⟨m + 1, u, by omega, by go_num, HJ⟩
        case measure => simp [intOf]; omega
      · have q : (X.n.toList == x.toList) = false := F.list_ne hk
        have hlen := F.wout_take_len L m x
        obtain ⟨l, hl'⟩ : ∃ l, F.wout (L.take m) x = l := ⟨_, rfl⟩
        have hj : F.wout (L.take (m + 1)) x = l ++ [X] := by rw [HX.out, if_neg hk, hl']
        have HJ : Hid (F.wout (L.take (m + 1)) x = l ++ [X]) := hj
        clear hj
        rw [hl'] at HI hlen
        have hwa : Below wr.heap.size wr (wr.alloc (.cells #[.string X.n, .string X.t, .int .i64 X.k] 36)).drew := ((Below.refl _ _).alloc (Nat.le_refl _) _).drew
        have HA1 : Hid (SpW w.heap.size w (wr.alloc (.cells #[.string X.n, .string X.t, .int .i64 X.k] 36)).drew w.heap.size (w.heap.size + 1) (w.heap.size + 1 + 1) (.slice (some ⟨ga, oa, none⟩) n cap) u l) := HI.out.later hwa
        have HRN : Hid ((wr.alloc (.cells #[.string X.n, .string X.t, .int .i64 X.k] 36)).drew.rangeAt wr.heap.size 0 (fcs X)) := range_new wr [.string X.n, .string X.t, .int .i64 X.k] 36
        have d2 := HI.out.2.1.2.2.cell
        have d2' : (wr.alloc (.cells #[.string X.n, .string X.t, .int .i64 X.k] 36)).cell? ⟨w.heap.size + 1 + 1, 0, none⟩ = some u := HA1.out.2.1.2.2.cell
        clear HI HX HA HV hX hk hl' hwa
        go_wp2
        go_region_law ((refine step_file rfl _ _ rfl w.heap.size w u l X (by rfl) HA1.out.1 _ (by rfl) HRN.out (by omega) ?_; intro g8 cap8 w9 ho9 hg9; have hs9 := HA1.out.app ho9 hg9; have e1 := hs9.2.1.2.2.cell; have f1 := hs9.2.1.2.2.fr))
        all_goals
          have HJ2 : Hid (SpW w.heap.size w (w9.setCell ⟨w.heap.size + 1 + 1, 0, none⟩ (.slice (some ⟨g8, 0, none⟩) (l.length + 1) cap8)) w.heap.size (w.heap.size + 1) (w.heap.size + 1 + 1) (.slice (some ⟨ga, oa, none⟩) n cap) (.slice (some ⟨g8, 0, none⟩) (l.length + 1) cap8) (F.wout (L.take (m + 1)) x)) := by rw [HJ.out]; exact hs9.set
          clear hs9 e1 f1 ho9 hg9 HA1 HRN HJ d2 d2' d0 c0 c1 c2
          go_wp2
          go_roundw
          case rel => exact ⟨m + 1, _, by omega, by go_num, HJ2⟩
          case measure => simp [intOf]; omega
    · have hme : m = n := by omega
      have e : F.wout (L.take m) x = F.wout L x := by rw [List.take_of_length_le (by omega)]
      rw [e] at HI
      subst hme
      have hlen := F.len_wout_le L x
      have d2 := HI.out.2.1.2.2.cell
      have d1 := HI.out.2.1.2.1.cell
      have f1 := HI.out.2.1.2.1.fr
      have HF : Hid ((wr.setCell ⟨w.heap.size + 1, 0, none⟩ u).rangeAt (w.heap.size + 1) 0 [u] ∧ DkIn (wr.setCell ⟨w.heap.size + 1, 0, none⟩ u) w.heap.size (.agg #[u]) (F.wout L x) ∧ Below w.heap.size w (wr.setCell ⟨w.heap.size + 1, 0, none⟩ u)) := SpW.ret HI.out (by omega)
      obtain ⟨au, cu, hu⟩ := HI.out.1.shape
      subst hu
      clear HI HA HV
      go_wp2
      refine ret_rec 4 (w.heap.size + 1) 26 [_] _ rfl rfl rfl Try.underlying26 rfl sizeDisk HF.out.1 ?_
      exact ⟨_, rfl, HF.out.2.1, HF.out.2.2⟩

end Go.Proofs.Ytbmlphlknolieaa
