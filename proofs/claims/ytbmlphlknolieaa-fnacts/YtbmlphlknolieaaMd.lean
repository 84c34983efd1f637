/-
  An act of any kind on files behind pointers in a map.
-/
import Derived.Test.YtbmlphlknolieaaMo
namespace Go.Proofs.Ytbmlphlknolieaa
open Go.RowKit Go.BigFrame Go.Sort Go.Maps
set_option linter.unusedVariables false
set_option linter.unusedSimpArgs false

theorem empty_of {t : ByteArray} (h : t.size = 0) : t = ⟨#[]⟩ := by
  obtain ⟨d⟩ := t
  have : d.size = 0 := h
  rw [Array.eq_empty_of_size_eq_zero this]
theorem some_of {t : ByteArray} (h : t.size ≠ 0) : (t.toList == []) = false ∧ t.toList ≠ [] ∧ t.toList.isEmpty = false := by
  have h1 : t.toList ≠ [] := by
    rw [F.toList_data]
    intro e
    apply h
    have : t.data.toList.length = 0 := by rw [e]; rfl
    simpa using this
  refine ⟨by cases hb : (t.toList == [])
             · rfl
             · exact absurd (by simpa using hb) h1, h1, by cases hc : t.toList with
             | nil => exact absurd hc h1
             | cons _ _ => rfl⟩

set_option maxRecDepth 100000 in
set_option maxHeartbeats 1000000 in
theorem do_any (B : Nat) (w0 w : World) (b : Nat) (L : List Fl) (p : ByteArray → Nat) (a : Ac) (hS : OpS B w0 w b L p) (hL : F.DOk L) (hx : a.n.size ≤ 1048576) (ht : a.t.size ≤ 1048576) (ho : a.o.size ≤ 1048576) :
    Calls Try.prog 62 #[.map (some b), .agg #[.int .i64 a.k, .string a.n, .string a.t, .string a.o]] w fun e w' => e = .returned (.bool (F.doL L a).isSome) ∧ ∃ p', OpS B w0 w' b ((F.doL L a).getD L) p' := by
  obtain ⟨k, x, t, o⟩ := a
  simp only at hx ht ho
  have hS1 : OpS B w0 (w.alloc (.cells #[.int .i64 k, .string x, .string t, .string o] 45)) b L p := hS.later ((Below.refl _ _).alloc (Nat.le_refl _) _)
  have HS : Hid (OpS B w0 (w.alloc (.cells #[.int .i64 k, .string x, .string t, .string o] 45)) b L p) := hS1
  clear hS
  by_cases h1 : k = 1
  · subst h1
    by_cases h3 : o.size = 0
    · obtain rfl := empty_of h3
      have hc := add_any B w0 _ b L p x t hS1 hL hx ht
      have ek : F.doL L ⟨1, x, t, ⟨#[]⟩⟩ = F.addL L x t := by
        unfold F.doL
        rw [if_neg (by rintro (⟨h, _⟩ | ⟨_, h⟩); exact h rfl; exact h rfl), if_pos rfl]
      rw [ek]
      clear ek hS1 h3
      go_enter Try.func62, Try.ntmps62
      go_wp2_with fail
      refine hc.mono ?_
      rintro e w1 ⟨p', rfl, h⟩
      go_wp2
      go_ret
      exact ⟨rfl, p', h⟩
    · obtain ⟨n1, n2, n3⟩ := some_of h3
      have ek : F.doL L ⟨1, x, t, o⟩ = none := by unfold F.doL; exact if_pos (.inr ⟨by simp, h3⟩)
      rw [ek]
      clear ek hS1 h3
      go_enter Try.func62, Try.ntmps62
      go_wp2
      go_ret
      exact ⟨rfl, p, HS.out⟩
  have k1 : (k == 1) = false := by simpa using h1
  by_cases h2 : t.size = 0
  · obtain rfl := empty_of h2
    clear h2
    by_cases h3 : k = 3
    · subst h3
      have hc := move_any B w0 _ b L p x o hS1 hL hx ho
      have ek : F.doL L ⟨3, x, ⟨#[]⟩, o⟩ = F.moveL L x o := by
        unfold F.doL
        rw [if_neg (by rintro (⟨_, h⟩ | ⟨h, _⟩); exact h rfl; exact h rfl), if_neg (by simp), if_neg (by simp), if_pos rfl]
      rw [ek]
      clear ek hS1
      go_enter Try.func62, Try.ntmps62
      go_wp2_with fail
      refine hc.mono ?_
      rintro e w1 ⟨rfl, h⟩
      go_wp2
      go_ret
      exact ⟨rfl, h⟩
    have k3 : (k == 3) = false := by simpa using h3
    by_cases h4 : o.size = 0
    · obtain rfl := empty_of h4
      clear h4
      by_cases h5 : k = 2
      · subst h5
        have hc := keep_any B w0 _ b L p x hS1 hL hx
        have ek : F.doL L ⟨2, x, ⟨#[]⟩, ⟨#[]⟩⟩ = F.keepL L x := by
          unfold F.doL
          rw [if_neg (by rintro (⟨_, h⟩ | ⟨_, h⟩); exact h rfl; exact h rfl), if_neg (by simp), if_pos rfl]
        rw [ek]
        clear ek hS1
        go_enter Try.func62, Try.ntmps62
        go_wp2_with fail
        refine hc.mono ?_
        rintro e w1 ⟨p', rfl, h⟩
        go_wp2
        go_ret
        exact ⟨rfl, p', h⟩
      have k2 : (k == 2) = false := by simpa using h5
      by_cases h6 : k = 4
      · subst h6
        have hc := drop_any B w0 _ b L p x hS1 hL hx
        have ek : F.doL L ⟨4, x, ⟨#[]⟩, ⟨#[]⟩⟩ = F.dropL L x := by
          unfold F.doL
          rw [if_neg (by rintro (⟨_, h⟩ | ⟨_, h⟩); exact h rfl; exact h rfl), if_neg (by simp), if_neg (by simp), if_neg (by simp), if_pos rfl]
        rw [ek]
        clear ek hS1
        go_enter Try.func62, Try.ntmps62
        go_wp2_with fail
        refine hc.mono ?_
        rintro e w1 ⟨p', rfl, h⟩
        go_wp2
        go_ret
        exact ⟨rfl, p', h⟩
      have k4 : (k == 4) = false := by simpa using h6
      have ek : F.doL L ⟨k, x, ⟨#[]⟩, ⟨#[]⟩⟩ = none := by
        unfold F.doL
        rw [if_neg (by rintro (⟨_, h⟩ | ⟨_, h⟩); exact h rfl; exact h rfl), if_neg h1, if_neg h5, if_neg h3, if_neg h6]
      rw [ek]
      clear ek hS1
      go_enter Try.func62, Try.ntmps62
      go_wp2
      go_ret
      exact ⟨rfl, p, HS.out⟩
    · obtain ⟨n1, n2, n3⟩ := some_of h4
      have ek : F.doL L ⟨k, x, ⟨#[]⟩, o⟩ = none := by unfold F.doL; exact if_pos (.inr ⟨h3, h4⟩)
      rw [ek]
      clear ek hS1 h4
      go_enter Try.func62, Try.ntmps62
      go_wp2
      go_ret
      exact ⟨rfl, p, HS.out⟩
  · obtain ⟨n1, n2, n3⟩ := some_of h2
    have ek : F.doL L ⟨k, x, t, o⟩ = none := by unfold F.doL; exact if_pos (.inl ⟨h1, h2⟩)
    rw [ek]
    clear ek hS1 h2
    go_enter Try.func62, Try.ntmps62
    go_wp2
    go_ret
    exact ⟨rfl, p, HS.out⟩

namespace F
theorem ok_take {L : List Fl} (h : DOk L) (m : Nat) : DOk (L.take m) := ⟨by have := h.1; simp; omega, fun f hf => h.2.1 f (List.mem_of_mem_take hf), List.Pairwise.sublist (List.take_sublist m L) h.2.2⟩
theorem put_take {L : List Fl} (h : DOk L) {m : Nat} (hm : m < L.length) : put (L.take m) L[m] = L.take (m + 1) := by
  refine srt_ext (srt_put (ok_take h m).2.2 _) (ok_take h (m + 1)).2.2 (fun f => ?_)
  rw [mem_put, List.take_succ_eq_append_getElem hm, List.mem_append, List.mem_singleton]
  constructor
  · rintro (h1 | ⟨h1, _⟩)
    · exact .inr h1
    · exact .inl h1
  · rintro (h1 | h1)
    · refine .inr ⟨h1, ?_⟩
      obtain ⟨j, hj, rfl⟩ := List.getElem_of_mem h1
      have hj' : j < m := by simp at hj; omega
      rw [List.getElem_take]
      exact ltN_ne (DOk.srt_at h.2.2 j m (by omega) hm hj')
    · exact .inl h1
end F

theorem run_makeHint (n : Nat) (w : World) : (Instr.makeMap 84 (some (.int .i64 (n : Int)))).run Try.prog w = .ok (.map (some w.heap.size)) (w.alloc (.map #[] 0)) := by
  simp [Instr.makeMap, asInt, asIntOf, Result.andThen]

def FoR (w : World) (b : Nat) (L : List Fl) (i : Value) (wr : World) : Prop := ∃ (m : Nat) (p : ByteArray → Nat), m ≤ L.length ∧ i = .int .i64 m ∧ Hid (OpS w.heap.size w wr b (L.take m) p)

set_option maxRecDepth 100000 in
set_option maxHeartbeats 1000000 in
theorem filesOf_yes (v : Value) (ga oa : Nat) (L : List Fl) (w : World) (hv : RS 3 fcs w v ga oa L) (hd : F.diskB L = true) :
    Calls Try.prog 60 #[.agg #[v]] w fun e w' => ∃ b, e = .returned (.tuple #[.map (some b), .bool true]) ∧ ∃ p, OpS w.heap.size w w' b L p := by
  have hb0 : Below w.heap.size w (w.alloc (.cells #[v] 26)) := (Below.refl _ _).alloc (Nat.le_refl _) _
  have HC := DiskOk_any v ga oa L _ (hv.later hb0)
  rw [hd] at HC
  have HVW := hv
  obtain ⟨a, cap, rfl, hl, hA, _⟩ := hv
  obtain ⟨n, hn⟩ : ∃ n, L.length = n := ⟨_, rfl⟩
  rw [hn] at HVW HC hb0 ⊢
  have HV : Hid (RS 3 fcs w (.slice a n cap) ga oa L ∧ Below w.heap.size w (w.alloc (.cells #[.slice a n cap] 26))) := ⟨HVW, hb0⟩
  have HA : Hid (0 < n → a = some ⟨ga, oa, none⟩) := fun h => (hA (by omega)).1
  have HD : Hid (F.DOk L) := F.diskB_iff.1 hd
  have hmm := run_makeHint n
  clear HVW hA hb0 hd
  go_enter Try.func60, Try.ntmps60
  go_wp2_with fail
  refine HC.mono ?_
  rintro e w1 ⟨rfl, hb1⟩
  have d1 : w1.cell? ⟨w.heap.size, 0, none⟩ = some (.slice a n cap) := (hb1.cell (p := ⟨w.heap.size, 0, none⟩) (by simp)).trans (by simp)
  have hbw := HV.out.2.trans (hb1.mono HV.out.2.size)
  have d2 : (w1.alloc (.map #[] 0)).cell? ⟨w.heap.size, 0, none⟩ = some (.slice a n cap) := (cell_kept (Below.heap_alloc _ _ w.heap.size (lt_of_cell d1))).trans d1
  have HST : Hid (FoR w w1.heap.size L (.int .i64 0) (w1.alloc (.map #[] 0))) := by
    refine ⟨0, fun _ => 0, by omega, rfl, ⟨⟨.map [], World.ownsMap_made w1 _ _ _, fun x => ?_, fun f hf => ?_, by rw [Maps.size_eq]; simp⟩, fun f hf => ?_, hbw.size, hbw.alloc hbw.size _, by have := hbw.size; simp; omega⟩, fun f hf => ?_⟩
    · rw [Maps.has_eq]
      simp
    · simp at hf
    · simp at hf
    · simp at hf
  clear HC hb1 hbw
  go_wp2
  clear hmm d1 d2
  go_loopw [17] (fun i wr => FoR w w1.heap.size L i wr) (fun i _ => n - (intOf i).toNat)
  case atStart => exact HST.out
  case round =>
    obtain ⟨m, p, hm, rfl, HI⟩ := hrel
    clear HST
    rw [hn] at hm
    by_cases hlt : m < n
    · have ea := HA.out (by omega)
      subst ea
      obtain ⟨c0, c1, c2⟩ := (HV.out.1.later HI.out.1.2.2.2.1).file m (by omega)
      obtain ⟨X, hX⟩ : ∃ X, L[m]'(by omega) = X := ⟨_, rfl⟩
      rw [hX] at c0 c1 c2
      have hfl := F.flB_iff.1 (HD.out.2.1 X (by rw [← hX]; exact List.getElem_mem _))
      have hxs : X.n.size ≤ 8 := by have := hfl.1; unfold F.nmB at this; simp at this; omega
      have hpt : F.put (L.take m) X = L.take (m + 1) := by rw [← hX]; exact F.put_take HD.out (by omega)
      have HF : Hid (OpS w.heap.size w (wr.alloc (.cells #[.string X.n, .string X.t, .int .i64 X.k] 36)) w1.heap.size (L.take m) p ∧ F.DOk (L.take m) ∧ (∀ h ∈ L.take m, h.n ≠ X.n → p h.n ≠ wr.heap.size) ∧ w.heap.size ≤ wr.heap.size ∧ F.put (L.take m) X = L.take (m + 1)) :=
        ⟨HI.out.later ((Below.refl _ _).alloc (Nat.le_refl _) _), F.ok_take HD.out m, fun h hh _ e => by
          have := (Array.getElem?_eq_some_iff.1 (HI.out.2 h hh).1).1
          omega, HI.out.1.2.2.2.1.size, hpt⟩
      have i1 : (m : Int) < (n : Int) := by omega
      have i2 : (0 : Int) ≤ (m : Int) := by omega
      clear HI HA HV HD hX hfl hpt
      go_wp2_with (at_mapUpdate; refine wp_mapStore rfl _ _ _ rfl w1.heap.size wr.heap.size X rfl rfl rfl w.heap.size w (L.take m) p HF.out.1.1 HF.out.2.1 (by omega) HF.out.2.2.1 ?_; intro w2 hm2 hg2)
      have hnew := alloc_fst wr (.cells #[.string X.n, .string X.t, .int .i64 X.k] 36) rfl
      have HG : Hid (OpS w.heap.size w w2 w1.heap.size (L.take (m + 1)) (upd p X.n wr.heap.size)) := by
        have h := FF.put (f := X) (g := wr.heap.size) (w' := w2) HF.out.1.2 (fun h hh _ => hg2.block _ (Array.getElem?_eq_some_iff.1 (HF.out.1.2 h hh).1).1 (HF.out.1.1.iff (HF.out.1.2 h hh).1)) ((hg2.block _ (by simp) (HF.out.1.1.iff hnew)).trans hnew) HF.out.2.2.2.1
        rw [HF.out.2.2.2.2] at hm2 h
        exact ⟨hm2, h⟩
      clear hm2 hg2 hnew HF c0 c1 c2
      go_wp2
      go_roundw
      case rel => exact ⟨m + 1, _, by omega, by go_num, HG⟩
      case measure => simp [intOf]; omega
    · have hme : n = m := by omega
      have e1 : L.take m = L := List.take_of_length_le (by omega)
      rw [e1] at HI
      subst hme
      clear HA HV HD
      go_wp2
      go_ret2
      exact ⟨_, rfl, p, HI.out⟩

set_option maxRecDepth 100000 in
set_option maxHeartbeats 1000000 in
theorem filesOf_no (v : Value) (ga oa : Nat) (L : List Fl) (w : World) (hv : RS 3 fcs w v ga oa L) (hd : F.diskB L = false) :
    Calls Try.prog 60 #[.agg #[v]] w fun e w' => e = .returned (.tuple #[.map none, .bool false]) ∧ Below w.heap.size w w' := by
  have hb0 : Below w.heap.size w (w.alloc (.cells #[v] 26)) := (Below.refl _ _).alloc (Nat.le_refl _) _
  have HC := DiskOk_any v ga oa L _ (hv.later hb0)
  rw [hd] at HC
  obtain ⟨a, cap, rfl⟩ := hv.shape
  clear hv
  go_enter Try.func60, Try.ntmps60
  go_wp2_with fail
  refine HC.mono ?_
  rintro e w1 ⟨rfl, hb1⟩
  have hb2 := hb0.trans (hb1.mono hb0.size)
  go_wp2
  go_ret2
  exact ⟨rfl, hb2⟩

end Go.Proofs.Ytbmlphlknolieaa
