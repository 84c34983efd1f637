/-
  Texts laid together: Lcp.
-/
import Derived.Test.YtaejeemjndmjcaaDoorPkS4
import Derived.Test.YtaejeemjndmjcaaDoorPkS12
import Derived.Maps.AppendAt
/-
  A signature copied by the specification.
-/
namespace Go.Proofs.YtaejeemjndmjcaaDoor
open Go.RowKit Go.BigFrame Go.Sort
set_option linter.unusedVariables false
set_option linter.unusedSimpArgs false

abbrev U3 := Nat → Option (Nat × Value × List ByteArray)
def upd3 (f : U3) (j : Nat) (x : Nat × Value × List ByteArray) : U3 := fun i => if i = j then some x else f i
/-- rows of texts that a call owns, each in a block of its own -/
def Rws (B : Nat) (w0 W : World) (f : U3) : Prop := Below B w0 W ∧ B ≤ W.heap.size ∧ (∀ j g v l, f j = some (g, v, l) → W.ownsRow B 9 1 v l.length (svs l) ∧ v.ownBlock = some g ∧ g < W.heap.size) ∧ ∀ i j a b, i ≠ j → f i = some a → f j = some b → a.1 ≠ b.1
theorem Rws.none {B : Nat} {w0 W : World} (h : Below B w0 W) (hB : B ≤ W.heap.size) : Rws B w0 W (fun _ => none) := ⟨h, hB, (fun j g v l e => by cases e), (fun i j a b _ e => by cases e)⟩
theorem Rws.os {B : Nat} {w0 W : World} {f : U3} (h : Rws B w0 W f) (j : Nat) {g : Nat} {v : Value} {l : List ByteArray} (e : f j = some (g, v, l)) : OS B w0 W v l := ⟨(h.2.2.1 j g v l e).1, h.1, h.2.1⟩
theorem Rws.one {B : Nat} {w0 W : World} {f : U3} (h : Rws B w0 W f) (j : Nat) {g : Nat} {v : Value} {l : List ByteArray} (e : f j = some (g, v, l)) (hl : l.length ≤ 1000000) : v.oneCell' = true := by
  rcases (h.2.2.1 j g v l e).1.2 with ⟨hv, _⟩ | ⟨g', cap, cur, hv, _⟩
  · rw [hv]; rfl
  · rw [hv]; rfl
theorem Rws.made {B : Nat} {w0 W : World} {f : U3} (h : Rws B w0 W f) (j : Nat) (hj : f j = Option.none) : Rws B w0 (W.alloc (.cells #[] 9)) (upd3 f j (W.heap.size, .slice (some ⟨W.heap.size, 0, Option.none⟩) 0 0, [])) := by
  obtain ⟨h1, h2, h3, h4⟩ := h
  refine ⟨h1.alloc h2 _, by simp; omega, fun i g v l e => ?_, fun i k a b hne e1 e2 => ?_⟩
  · unfold upd3 at e
    split at e
    · cases e
      exact ⟨World.ownsRow_made W #[] 0 h2 (by decide) (by simp), rfl, by simp⟩
    · obtain ⟨k1, k2, k3⟩ := h3 i g v l e
      exact ⟨k1.alloc _, k2, by simp; omega⟩
  · unfold upd3 at e1 e2
    split at e1
    · split at e2
      · omega
      · cases e1
        have := (h3 k b.1 b.2.1 b.2.2 e2).2.2
        simp only
        omega
    · split at e2
      · cases e2
        have := (h3 i a.1 a.2.1 a.2.2 e1).2.2
        simp only
        omega
      · exact h4 i k a b hne e1 e2
theorem Rws.grow {B : Nat} {w0 W W' : World} {f : U3} (h : Rws B w0 W f) (j g g' : Nat) (v v' : Value) (l r : List ByteArray) (hj : f j = some (g, v, l)) (hg : W.grownBy W' (some g)) (ho : W'.ownsRow B 9 1 v' r.length (svs r)) (hv : v'.ownBlock = some g') (hg' : g' = g ∨ g' = W.heap.size) (hlt : g' < W'.heap.size) : Rws B w0 W' (upd3 f j (g', v', r)) := by
  obtain ⟨h1, h2, h3, h4⟩ := h
  obtain ⟨q1, q2, q3⟩ := h3 j g v l hj
  have hBg : B ≤ g := (q1.lt g q2).1
  refine ⟨h1.grown hg h2 (fun k hk => by cases hk; exact hBg), Nat.le_trans h2 hg.size, fun i gi vi li e => ?_, fun i k a b hne e1 e2 => ?_⟩
  · unfold upd3 at e
    split at e
    · cases e
      exact ⟨ho, hv, hlt⟩
    · rename_i hij
      obtain ⟨k1, k2, k3⟩ := h3 i gi vi li e
      exact ⟨World.ownsRow.kept k1 hg (.inr (by rw [k2]; intro he; exact h4 i j _ _ hij e hj (Option.some.inj he))), k2, Nat.lt_of_lt_of_le k3 hg.size⟩
  · unfold upd3 at e1 e2
    split at e1
    · rename_i hi
      split at e2
      · omega
      · rename_i hk
        cases e1
        have h5 := (h3 k b.1 b.2.1 b.2.2 e2).2.2
        have h6 := h4 k j b _ hk e2 hj
        simp only at h6 ⊢
        rcases hg' with rfl | rfl
        · exact fun he => h6 he.symm
        · omega
    · rename_i hi
      split at e2
      · cases e2
        have h5 := (h3 i a.1 a.2.1 a.2.2 e1).2.2
        have h6 := h4 i j a _ hi e1 hj
        simp only at h6 ⊢
        rcases hg' with rfl | rfl
        · exact h6
        · omega
      · exact h4 i k a b hne e1 e2
section
variable {w : World} {ops : Array Oper} {o : Oper} {a : Act} {K : Act → World → Prop} {Q : Exit → Act → World → Prop}
/-- an empty row laid, beside others -/
theorem step_lay3 {E : Prop} (hgd : o.guard = none) (ho : o.op = .buildSlice 26 0 #[]) {B : Nat} {w0 : World} {f : U3} (h : Rws B w0 w f) (j : Nat) (hj : f j = Option.none)
    (hk : ∀ w' n, Rws B w0 w' (upd3 f j (n, .slice (some ⟨n, 0, Option.none⟩) 0 0, [])) → K (a.put o.dst (.slice (some ⟨n, 0, Option.none⟩) 0 0)) w') : if Region.wanted o (yielded ops a.tmps) = true then Oper.wp Tryd.prog o a w K Q else E := by
  have hw : Region.wanted o (yielded ops a.tmps) = true := by simp [Region.wanted, hgd]
  rw [if_pos hw]
  have hk2 := hk _ _ (h.made j hj)
  clear hk
  unfold Oper.wp
  unfold execOp
  rw [ho]
  go_simp
  exact hk2
/-- a whole row appended to an empty one, beside others -/
theorem step_app3 {E : Prop} (hgd : o.guard = none) (s x : Nat)
    (ho : o.op = .call { callee := .builtin .append, args := #[.tmp s, .tmp x], argTypes := #[26, 26] }) {B : Nat} {w0 : World} {f : U3} (h : Rws B w0 w f) (j gj : Nat) {v : Value} (hj : f j = some (gj, v, [])) (p : Option Addr) {cap : Nat} (g : Nat) (r : List ByteArray) (hr : SS w (.slice p r.length cap) g 0 r) (hnil : p = none → cap = 0) (hlen : r.length ≤ 1000000)
    (hs : a.tmps[s]?.getD undef = v) (hx : a.tmps[x]?.getD undef = .slice p r.length cap)
    (hk : ∀ w' n c, Rws B w0 w' (upd3 f j (n, .slice (some ⟨n, 0, Option.none⟩) r.length c, r)) → K (a.put o.dst (.slice (some ⟨n, 0, Option.none⟩) r.length c)) w') : if Region.wanted o (yielded ops a.tmps) = true then Oper.wp Tryd.prog o a w K Q else E := by
  obtain ⟨i0, hi, hz0, hz1, hz2⟩ := info_parts Tryd.info9
  obtain ⟨q1, q2, q3⟩ := h.2.2.1 j gj v [] hj
  have ev : ∀ t v, a.tmps[t]?.getD undef = v → a.eval (.tmp t) = v := fun t v h => by
    show a.tmps.getD t undef = v
    rw [Array.getD_eq_getD_getElem?]
    exact h
  have hs' := ev _ _ hs
  have hx' := ev _ _ hx
  have key : ∃ v' w' n, (Builtin.append_ #[26, 26] o.type #[v, .slice p r.length cap]).run Tryd.prog w = .ok v' w' ∧ Rws B w0 w' (upd3 f j (n, v', r)) := by
    obtain ⟨p', cap', ev', _, hA, hc⟩ := hr
    obtain ⟨rfl, rfl⟩ : p = p' ∧ cap = cap' := by simpa using ev'
    cases p with
    | none =>
      have h0 : r.length = 0 := by
        rcases Nat.eq_zero_or_pos r.length with h0 | h0
        · exact h0
        · exact absurd (hA h0) (by simp)
      have hr0 : r = [] := List.length_eq_zero_iff.1 h0
      subst hr0
      have := hnil rfl
      subst this
      refine ⟨v, w, gj, run_append_owned_none (P := Tryd.prog) w B 26 o.type 9 i0 1 Tryd.underlying26 hi v 0 [] q1, ?_⟩
      exact h.grow j gj gj v v [] [] hj (World.grownBy.refl _ _) q1 q2 (.inl rfl) q3
    | some ad =>
      obtain ⟨v', w', hrun, h1, h2, _, h3⟩ := run_append_own_at (P := Tryd.prog) w B 26 o.type 9 i0 (.string ByteArray.empty) 1 16 Tryd.underlying26 hi hz0 hz1 hz2 rfl (by decide) v 0 (svs []) q1 ad r.length cap (svs r) (by simp [svs]) (by
          intro j u hj
          have hj2 : j < r.length := by
            have := (List.getElem?_eq_some_iff.1 hj).1
            simpa [svs] using this
          have ea := hA (by omega)
          simp only [Option.some.injEq] at ea
          subst ea
          have e : (⟨g, 0, Option.none⟩ : Addr).add j = ⟨g, 0 + j, Option.none⟩ := by unfold Addr.add; split <;> simp_all
          rw [e, hc j hj2]
          simp [svs, List.getElem?_eq_getElem hj2] at hj
          rw [hj])
        (fun u hu => by simp [svs] at hu; obtain ⟨b, _, rfl⟩ := hu; rfl) (by unfold maxLen; omega) (by omega) h.2.1
      rw [Nat.zero_add] at h1
      have e1 : svs ([] : List ByteArray) ++ svs r = svs r := by simp [svs]
      rw [e1] at h1
      rw [q2] at h2 h3
      rcases h3 with h3 | h3
      · exact ⟨v', w', gj, hrun, h.grow j gj gj v v' [] r hj h2 h1 h3 (.inl rfl) (h1.lt gj h3).2⟩
      · exact ⟨v', w', w.heap.size, hrun, h.grow j gj w.heap.size v v' [] r hj h2 h1 h3 (.inr rfl) (h1.lt _ h3).2⟩
  obtain ⟨v', w', n, hrun, h1⟩ := key
  have hsh : ∃ c, v' = .slice (some ⟨n, 0, Option.none⟩) r.length c := by
    obtain ⟨k1, k2, _⟩ := h1.2.2.1 j n v' r (by simp [upd3])
    rcases k1.2 with ⟨hv, _⟩ | ⟨g', cap', cur, hv, _⟩
    · rw [hv] at k2; cases k2
    · rw [hv] at k2
      obtain rfl : g' = n := by simpa [Value.ownBlock] using k2
      exact ⟨cap', hv⟩
  obtain ⟨c, rfl⟩ := hsh
  have hw : Region.wanted o (yielded ops a.tmps) = true := by simp [Region.wanted, hgd]
  rw [if_pos hw]
  unfold Oper.wp
  simp [execOp, ho, resolve, invoke, builtin, hs', hx', hrun, Result.andThen]
  exact hk _ _ _ h1
end
/-- a signature answered out of its box -/
theorem ret_sig1 {fn : Func} {Rp : Ending → World → Prop} {a : Act} {w : World} (c g : Nat) (x : Int) (v1 v2 v3 : Value) (hres : fn.results = #[.cell c 28]) (hd : a.defers = []) (hp : a.tmps.getD c undef = .pointer (some ⟨g, 0, none⟩))
    (hA : SgM w g x v1 v2 v3) (h : Rp (.returned (.agg #[.int .i64 x, v1, v2, v3])) w) : bodyPost Tryd.prog fn Rp .ret a w := by
  have hr := load_sig hA
  refine bodyPost_ret (v := .agg #[.int .i64 x, v1, v2, v3]) ?_ hd h
  have hp' : a.tmps[c]?.getD undef = .pointer (some ⟨g, 0, none⟩) := by simpa using hp
  simp [results, hres, asAddr, hr, hp']
theorem grown_setRS (w : World) (g : Nat) (R : Array Value) : w.grownBy (w.setRow g R) (some g) :=
  ⟨rfl, rfl, rfl, by simp [World.setRow], fun k _ hk => setRow_other w g k R (fun e => hk (by simp [e]))⟩

/-- a copied signature: rows of its own -/
def LcP (w : World) (x : Int) (o s d : List ByteArray) (e : Ending) (w' : World) : Prop := ∃ f k1 k2 k3 q1 q2 q3, e = .returned (.agg #[.int .i64 x, .slice (some ⟨k1, 0, none⟩) o.length q1, .slice (some ⟨k2, 0, none⟩) s.length q2, .slice (some ⟨k3, 0, none⟩) d.length q3]) ∧ Rws w.heap.size w w' f ∧ f 1 = some (k1, .slice (some ⟨k1, 0, none⟩) o.length q1, o) ∧ f 2 = some (k2, .slice (some ⟨k2, 0, none⟩) s.length q2, s) ∧ f 3 = some (k3, .slice (some ⟨k3, 0, none⟩) d.length q3, d)

set_option maxRecDepth 100000 in
set_option maxHeartbeats 4000000 in
theorem l05Copy_any (x : Int) (a1 a2 a3 : Option Addr) (c1 c2 c3 g1 g2 g3 : Nat) (o s d : List ByteArray) (w : World) (h1 : SS w (.slice a1 o.length c1) g1 0 o) (h2 : SS w (.slice a2 s.length c2) g2 0 s) (h3 : SS w (.slice a3 d.length c3) g3 0 d) (hn1 : a1 = none → c1 = 0) (hn2 : a2 = none → c2 = 0) (hn3 : a3 = none → c3 = 0) (l1 : o.length ≤ 1000) (l2 : s.length ≤ 1000) (l3 : d.length ≤ 1000) :
    Calls Tryd.prog 57 #[.agg #[.int .i64 x, .slice a1 o.length c1, .slice a2 s.length c2, .slice a3 d.length c3]] w (LcP w x o s d) := by
  obtain ⟨wS, hwS⟩ : ∃ W, ((w.alloc (.cells #[.int .i64 x, .slice a1 o.length c1, .slice a2 s.length c2, .slice a3 d.length c3] 28)).alloc (.cells #[.int .i64 0, .slice none 0 0, .slice none 0 0, .slice none 0 0] 28)) = W := ⟨_, rfl⟩
  have hba : Below w.heap.size w wS := by rw [← hwS]; exact ((Below.refl _ _).alloc (Nat.le_refl _) _).alloc (by simp) _
  have hsz : wS.heap.size = w.heap.size + 2 := by rw [← hwS]; simp
  have hp : SgM wS w.heap.size x (.slice a1 o.length c1) (.slice a2 s.length c2) (.slice a3 d.length c3) := by rw [← hwS]; exact (SgM.new w x _ _ _).later ((Below.refl _ _).alloc (Nat.le_refl _) _)
  have hz : SgM wS (w.heap.size + 1) 0 (.slice none 0 0) (.slice none 0 0) (.slice none 0 0) := by rw [← hwS]; exact alloc_fst _ _ (by simp)
  have rng : ∀ W, SgM W w.heap.size x (.slice a1 o.length c1) (.slice a2 s.length c2) (.slice a3 d.length c3) → W.rangeAt w.heap.size 0 [.int .i64 x, .slice a1 o.length c1, .slice a2 s.length c2, .slice a3 d.length c3] := fun W h j v hv => by
    rw [cell_of_row W w.heap.size (0 + j) _ _ _ h, Nat.zero_add]
    simpa using hv
  have HSS : Hid (∀ W, Below wS.heap.size wS W → W.rangeAt w.heap.size 0 [.int .i64 x, .slice a1 o.length c1, .slice a2 s.length c2, .slice a3 d.length c3]) := fun W hW => rng W (hp.later hW)
  have HSK : Hid (∀ W R', Below wS.heap.size wS W → (W.setRow (w.heap.size + 1) R').rangeAt w.heap.size 0 [.int .i64 x, .slice a1 o.length c1, .slice a2 s.length c2, .slice a3 d.length c3]) := fun W R' hW => rng _ ((hp.later hW).keptG (grown_setRS W (w.heap.size + 1) R') (by simp))
  have HZ : Hid (∀ W, Below wS.heap.size wS W → SgM W (w.heap.size + 1) 0 (.slice none 0 0) (.slice none 0 0) (.slice none 0 0)) := fun W hW => hz.later hW
  have HS1 : Hid (∀ W, Below wS.heap.size wS W → SS W (.slice a1 o.length c1) g1 0 o) := fun W hW => h1.below (hba.trans (hW.mono hba.size)) h1.lt
  have HS2 : Hid (∀ W, Below wS.heap.size wS W → SS W (.slice a2 s.length c2) g2 0 s) := fun W hW => h2.below (hba.trans (hW.mono hba.size)) h2.lt
  have HS3 : Hid (∀ W, Below wS.heap.size wS W → SS W (.slice a3 d.length c3) g3 0 d) := fun W hW => h3.below (hba.trans (hW.mono hba.size)) h3.lt
  have HN1 : Hid (a1 = none → c1 = 0) := hn1
  have HN2 : Hid (a2 = none → c2 = 0) := hn2
  have HN3 : Hid (a3 = none → c3 = 0) := hn3
  have HEND : Hid (∀ W f k1 k2 k3 q1 q2 q3, Rws wS.heap.size wS W f → f 1 = some (k1, .slice (some ⟨k1, 0, none⟩) o.length q1, o) → f 2 = some (k2, .slice (some ⟨k2, 0, none⟩) s.length q2, s) → f 3 = some (k3, .slice (some ⟨k3, 0, none⟩) d.length q3, d) → LcP w x o s d (.returned (.agg #[.int .i64 x, .slice (some ⟨k1, 0, none⟩) o.length q1, .slice (some ⟨k2, 0, none⟩) s.length q2, .slice (some ⟨k3, 0, none⟩) d.length q3])) (W.setRow (w.heap.size + 1) #[.int .i64 x, .slice (some ⟨k1, 0, none⟩) o.length q1, .slice (some ⟨k2, 0, none⟩) s.length q2, .slice (some ⟨k3, 0, none⟩) d.length q3])) := fun W f k1 k2 k3 q1 q2 q3 hR e1 e2 e3 => by
    refine ⟨f, k1, k2, k3, q1, q2, q3, rfl, ?_, e1, e2, e3⟩
    have hg := grown_setRS W (w.heap.size + 1) #[.int .i64 x, .slice (some ⟨k1, 0, none⟩) o.length q1, .slice (some ⟨k2, 0, none⟩) s.length q2, .slice (some ⟨k3, 0, none⟩) d.length q3]
    obtain ⟨r1, r2, r3, r4⟩ := hR
    have hb : Below w.heap.size w W := hba.trans (r1.mono hba.size)
    refine ⟨hb.grown hg hb.size (fun k hk => by simp at hk; omega), Nat.le_trans hb.size hg.size, fun j g v l e => ?_, r4⟩
    obtain ⟨q1, q2, q3⟩ := r3 j g v l e
    have hBg : wS.heap.size ≤ g := (q1.lt g q2).1
    refine ⟨?_, q2, Nat.lt_of_lt_of_le q3 hg.size⟩
    have q4 := World.ownsRow.kept q1 hg (.inr (by rw [q2]; simp; omega))
    refine ⟨q4.1, ?_⟩
    rcases q4.2 with h0 | ⟨g', cap, cur, hv, hbg, rest⟩
    · exact .inl h0
    · exact .inr ⟨g', cap, cur, hv, Nat.le_trans hba.size hbg, rest⟩
  have r0 : Rws wS.heap.size wS wS.drew (fun _ => none) := Rws.none (Below.refl _ _).drew (Nat.le_refl _)
  clear h1 h2 h3 hn1 hn2 hn3 hp hz rng hba hsz
  go_enter Tryd.func57, Tryd.ntmps57
  go_wp2_with fail
  clear hwS
  refine wp_abs (fun a => FR 18 a [(1, .pointer (some ⟨w.heap.size, 0, none⟩)), (2, .pointer (some ⟨w.heap.size + 1, 0, none⟩))]) ⟨rfl, rfl, fun p hp => by simp only [List.mem_cons, List.not_mem_nil, or_false] at hp; rcases hp with rfl | rfl <;> rfl⟩ (fun a F => ?_)
  refine wp_region_held_drew (S := fun W => W.rangeAt w.heap.size 0 [.int .i64 x, .slice a1 o.length c1, .slice a2 s.length c2, .slice a3 d.length c3]) (by kernel_rfl) (HSS.out _ r0.1) (fun hH => ?_)
  have r1 := F.get 1 (.pointer (some ⟨w.heap.size, 0, none⟩)) (by simp)
  refine takeF (i := 0) (v := .pointer (some ⟨w.heap.size, 0, none⟩)) rfl (by kernel_rfl) (by kernel_rfl) (by kernel_rfl) (fun _ _ _ h => h) (Or.inl ⟨by rfl, fun w hw => by go_simp⟩) hH 3 rfl F (by decide) (by simp) (fun a F => ?_)
  clear r1
  have r3 := F.get 3 (.pointer (some ⟨w.heap.size, 0, none⟩)) (by simp)
  refine takeF (i := 1) (v := .int .i64 x) rfl (by kernel_rfl) (by kernel_rfl) (by kernel_rfl) (fun _ _ _ h => h) (Or.inl ⟨by rfl, fun w hw => by have hw2 := hw 0 _ rfl; simp only [Nat.zero_add] at hw2; go_simp⟩) hH 4 rfl F (by decide) (by simp) (fun a F => ?_)
  clear r3
  have r1 := F.get 1 (.pointer (some ⟨w.heap.size, 0, none⟩)) (by simp)
  refine takeF (i := 3) (v := .pointer (some ⟨w.heap.size, 1, none⟩)) rfl (by kernel_rfl) (by kernel_rfl) (by kernel_rfl) (fun _ _ _ h => h) (Or.inl ⟨by rfl, fun w hw => by go_simp⟩) hH 6 rfl F (by decide) (by simp) (fun a F => ?_)
  clear r1
  have r6 := F.get 6 (.pointer (some ⟨w.heap.size, 1, none⟩)) (by simp)
  refine takeF (i := 4) (v := .slice a1 o.length c1) rfl (by kernel_rfl) (by kernel_rfl) (by kernel_rfl) (fun _ _ _ h => h) (Or.inl ⟨by rfl, fun w hw => by have hw2 := hw 1 _ rfl; simp only [Nat.zero_add] at hw2; go_simp⟩) hH 7 rfl F (by decide) (by simp) (fun a F => ?_)
  clear r6
  have r1 := F.get 1 (.pointer (some ⟨w.heap.size, 0, none⟩)) (by simp)
  refine takeF (i := 7) (v := .pointer (some ⟨w.heap.size, 2, none⟩)) rfl (by kernel_rfl) (by kernel_rfl) (by kernel_rfl) (fun _ _ _ h => h) (Or.inl ⟨by rfl, fun w hw => by go_simp⟩) hH 10 rfl F (by decide) (by simp) (fun a F => ?_)
  clear r1
  have r10 := F.get 10 (.pointer (some ⟨w.heap.size, 2, none⟩)) (by simp)
  refine takeF (i := 8) (v := .slice a2 s.length c2) rfl (by kernel_rfl) (by kernel_rfl) (by kernel_rfl) (fun _ _ _ h => h) (Or.inl ⟨by rfl, fun w hw => by have hw2 := hw 2 _ rfl; simp only [Nat.zero_add] at hw2; go_simp⟩) hH 11 rfl F (by decide) (by simp) (fun a F => ?_)
  clear r10
  have r1 := F.get 1 (.pointer (some ⟨w.heap.size, 0, none⟩)) (by simp)
  refine takeF (i := 11) (v := .pointer (some ⟨w.heap.size, 3, none⟩)) rfl (by kernel_rfl) (by kernel_rfl) (by kernel_rfl) (fun _ _ _ h => h) (Or.inl ⟨by rfl, fun w hw => by go_simp⟩) hH 14 rfl F (by decide) (by simp) (fun a F => ?_)
  clear r1
  have r14 := F.get 14 (.pointer (some ⟨w.heap.size, 3, none⟩)) (by simp)
  refine takeF (i := 12) (v := .slice a3 d.length c3) rfl (by kernel_rfl) (by kernel_rfl) (by kernel_rfl) (fun _ _ _ h => h) (Or.inl ⟨by rfl, fun w hw => by have hw2 := hw 3 _ rfl; simp only [Nat.zero_add] at hw2; go_simp⟩) hH 15 rfl F (by decide) (by simp) (fun a F => ?_)
  clear r14
  refine wpAnyH_ready (rs := [2, 6, 10]) (by kernel_rfl) (by simp) ?_
  refine AllReadyH.cons rfl (fun K' hK' => ?_) (AllReadyH.cons rfl (fun K' hK' => ?_) (AllReadyH.cons rfl (fun K' hK' => ?_) AllReadyH.nil))
  · refine step_lay3 rfl rfl r0 1 (by simp [upd3]) ?_
    rintro xw1 n1 r1
    refine openK (v := .slice (some ⟨n1, 0, none⟩) 0 0) 5 rfl F (by decide) (by simp) (fun a F => ?_)
    refine hK'.out _ _ (HSS.out _ r1.1) (fun hH => ?_)
    refine wpAnyH_ready (rs := [5, 6, 10]) (by kernel_rfl) (by simp) ?_
    refine AllReadyH.cons rfl (fun K' hK' => ?_) (AllReadyH.cons rfl (fun K' hK' => ?_) (AllReadyH.cons rfl (fun K' hK' => ?_) AllReadyH.nil))
    · refine step_app3 rfl 5 7 rfl r1 1 n1 (v := .slice (some ⟨n1, 0, none⟩) 0 0) (by simp [upd3]) _ g1 o (HS1.out _ r1.1) HN1.out (by omega) (F.get 5 _ (by simp)) (F.get 7 _ (by simp)) ?_
      rintro xw2 n2 q2 r2
      refine openK (v := .slice (some ⟨n2, 0, none⟩) o.length q2) 8 rfl F (by decide) (by simp) (fun a F => ?_)
      refine hK'.out _ _ (HSS.out _ r2.1) (fun hH => ?_)
      refine wpAnyH_ready (rs := [6, 10]) (by kernel_rfl) (by simp) ?_
      refine AllReadyH.cons rfl (fun K' hK' => ?_) (AllReadyH.cons rfl (fun K' hK' => ?_) AllReadyH.nil)
      · refine step_lay3 rfl rfl r2 2 (by simp [upd3]) ?_
        rintro xw3 n3 r3
        refine openK (v := .slice (some ⟨n3, 0, none⟩) 0 0) 9 rfl F (by decide) (by simp) (fun a F => ?_)
        refine hK'.out _ _ (HSS.out _ r3.1) (fun hH => ?_)
        refine wpAnyH_ready (rs := [9, 10]) (by kernel_rfl) (by simp) ?_
        refine AllReadyH.cons rfl (fun K' hK' => ?_) (AllReadyH.cons rfl (fun K' hK' => ?_) AllReadyH.nil)
        · refine step_app3 rfl 9 11 rfl r3 2 n3 (v := .slice (some ⟨n3, 0, none⟩) 0 0) (by simp [upd3]) _ g2 s (HS2.out _ r3.1) HN2.out (by omega) (F.get 9 _ (by simp)) (F.get 11 _ (by simp)) ?_
          rintro xw4 n4 q4 r4
          refine openK (v := .slice (some ⟨n4, 0, none⟩) s.length q4) 12 rfl F (by decide) (by simp) (fun a F => ?_)
          refine hK'.out _ _ (HSS.out _ r4.1) (fun hH => ?_)
          refine wpAnyH_ready (rs := [10]) (by kernel_rfl) (by simp) ?_
          refine AllReadyH.cons rfl (fun K' hK' => ?_) AllReadyH.nil
          refine step_lay3 rfl rfl r4 3 (by simp [upd3]) ?_
          rintro xw5 n5 r5
          refine openK (v := .slice (some ⟨n5, 0, none⟩) 0 0) 13 rfl F (by decide) (by simp) (fun a F => ?_)
          refine hK'.out _ _ (HSS.out _ r5.1) (fun hH => ?_)
          refine wpAnyH_ready (rs := [13]) (by kernel_rfl) (by simp) ?_
          refine AllReadyH.cons rfl (fun K' hK' => ?_) AllReadyH.nil
          refine step_app3 rfl 13 15 rfl r5 3 n5 (v := .slice (some ⟨n5, 0, none⟩) 0 0) (by simp [upd3]) _ g3 d (HS3.out _ r5.1) HN3.out (by omega) (F.get 13 _ (by simp)) (F.get 15 _ (by simp)) ?_
          rintro xw6 n6 q6 r6
          refine openK (v := .slice (some ⟨n6, 0, none⟩) d.length q6) 16 rfl F (by decide) (by simp) (fun a F => ?_)
          refine hK'.out _ _ (HSS.out _ r6.1) (fun hH => ?_)
          have r4 := F.get 4 (.int .i64 x) (by simp)
          have r8 := F.get 8 (.slice (some ⟨n2, 0, none⟩) o.length q2) (by simp)
          have r12 := F.get 12 (.slice (some ⟨n4, 0, none⟩) s.length q4) (by simp)
          have r16 := F.get 16 (.slice (some ⟨n6, 0, none⟩) d.length q6) (by simp)
          refine takeF (i := 14) (v := .agg #[.int .i64 x, .slice (some ⟨n2, 0, none⟩) o.length q2, .slice (some ⟨n4, 0, none⟩) s.length q4, .slice (some ⟨n6, 0, none⟩) d.length q6]) rfl (by kernel_rfl) (by kernel_rfl) (by kernel_rfl) (fun _ _ _ h => h) (Or.inl ⟨by rfl, fun w hw => by go_simp⟩) hH 17 rfl F (by decide) (by simp) (fun a F => ?_)
          clear r4 r8 r12 r16
          refine wpAnyH_ready (rs := [15]) (by kernel_rfl) (by simp) ?_
          refine AllReadyH.cons rfl (fun K' hK' => ?_) AllReadyH.nil
          have e1 := r6.one 1 (g := n2) (v := .slice (some ⟨n2, 0, none⟩) o.length q2) (l := o) (by simp [upd3]) (by omega)
          have e2 := r6.one 2 (g := n4) (v := .slice (some ⟨n4, 0, none⟩) s.length q4) (l := s) (by simp [upd3]) (by omega)
          have e3 := r6.one 3 (g := n6) (v := .slice (some ⟨n6, 0, none⟩) d.length q6) (l := d) (by simp [upd3]) (by omega)
          refine step_store_Sig (by rfl) 2 17 rfl rfl (w.heap.size + 1) 0 x _ _ _ _ _ _ (HZ.out _ r6.1) (F.get 2 _ (by simp)) (F.get 17 _ (by simp)) e1 e2 e3 ?_
          intro hst
          have hend := HEND.out _ _ n2 n4 n6 q2 q4 q6 r6 (by simp [upd3]) (by simp [upd3]) (by simp [upd3])
          refine hK'.out _ _ (HSK.out _ _ r6.1) (fun hH => ?_)
          refine wpAnyH_done (by kernel_rfl) ?_ _
          have hd := F.2.1
          have e0 : a.tmps.getD 2 undef = .pointer (some ⟨w.heap.size + 1, 0, none⟩) := F.eval 2 _ (by simp)
          clear HSS HSK HZ HEND HS1 HS2 HS3 HN1 HN2 HN3 hH F
          go_wp2
          exact ret_sig1 2 (w.heap.size + 1) x _ _ _ rfl hd e0 hst hend
        · refine step_lay3 rfl rfl r3 3 (by simp [upd3]) ?_
          rintro xw8 n8 r8
          refine openK (v := .slice (some ⟨n8, 0, none⟩) 0 0) 13 rfl F (by decide) (by simp) (fun a F => ?_)
          refine hK'.out _ _ (HSS.out _ r8.1) (fun hH => ?_)
          refine wpAnyH_ready (rs := [9]) (by kernel_rfl) (by simp) ?_
          refine AllReadyH.cons rfl (fun K' hK' => ?_) AllReadyH.nil
          refine step_app3 rfl 9 11 rfl r8 2 n3 (v := .slice (some ⟨n3, 0, none⟩) 0 0) (by simp [upd3]) _ g2 s (HS2.out _ r8.1) HN2.out (by omega) (F.get 9 _ (by simp)) (F.get 11 _ (by simp)) ?_
          rintro xw9 n9 q9 r9
          refine openK (v := .slice (some ⟨n9, 0, none⟩) s.length q9) 12 rfl F (by decide) (by simp) (fun a F => ?_)
          refine hK'.out _ _ (HSS.out _ r9.1) (fun hH => ?_)
          refine wpAnyH_ready (rs := [13]) (by kernel_rfl) (by simp) ?_
          refine AllReadyH.cons rfl (fun K' hK' => ?_) AllReadyH.nil
          refine step_app3 rfl 13 15 rfl r9 3 n8 (v := .slice (some ⟨n8, 0, none⟩) 0 0) (by simp [upd3]) _ g3 d (HS3.out _ r9.1) HN3.out (by omega) (F.get 13 _ (by simp)) (F.get 15 _ (by simp)) ?_
          rintro xw10 n10 q10 r10
          refine openK (v := .slice (some ⟨n10, 0, none⟩) d.length q10) 16 rfl F (by decide) (by simp) (fun a F => ?_)
          refine hK'.out _ _ (HSS.out _ r10.1) (fun hH => ?_)
          have r4 := F.get 4 (.int .i64 x) (by simp)
          have r8 := F.get 8 (.slice (some ⟨n2, 0, none⟩) o.length q2) (by simp)
          have r12 := F.get 12 (.slice (some ⟨n9, 0, none⟩) s.length q9) (by simp)
          have r16 := F.get 16 (.slice (some ⟨n10, 0, none⟩) d.length q10) (by simp)
          refine takeF (i := 14) (v := .agg #[.int .i64 x, .slice (some ⟨n2, 0, none⟩) o.length q2, .slice (some ⟨n9, 0, none⟩) s.length q9, .slice (some ⟨n10, 0, none⟩) d.length q10]) rfl (by kernel_rfl) (by kernel_rfl) (by kernel_rfl) (fun _ _ _ h => h) (Or.inl ⟨by rfl, fun w hw => by go_simp⟩) hH 17 rfl F (by decide) (by simp) (fun a F => ?_)
          clear r4 r8 r12 r16
          refine wpAnyH_ready (rs := [15]) (by kernel_rfl) (by simp) ?_
          refine AllReadyH.cons rfl (fun K' hK' => ?_) AllReadyH.nil
          have e1 := r10.one 1 (g := n2) (v := .slice (some ⟨n2, 0, none⟩) o.length q2) (l := o) (by simp [upd3]) (by omega)
          have e2 := r10.one 2 (g := n9) (v := .slice (some ⟨n9, 0, none⟩) s.length q9) (l := s) (by simp [upd3]) (by omega)
          have e3 := r10.one 3 (g := n10) (v := .slice (some ⟨n10, 0, none⟩) d.length q10) (l := d) (by simp [upd3]) (by omega)
          refine step_store_Sig (by rfl) 2 17 rfl rfl (w.heap.size + 1) 0 x _ _ _ _ _ _ (HZ.out _ r10.1) (F.get 2 _ (by simp)) (F.get 17 _ (by simp)) e1 e2 e3 ?_
          intro hst
          have hend := HEND.out _ _ n2 n9 n10 q2 q9 q10 r10 (by simp [upd3]) (by simp [upd3]) (by simp [upd3])
          refine hK'.out _ _ (HSK.out _ _ r10.1) (fun hH => ?_)
          refine wpAnyH_done (by kernel_rfl) ?_ _
          have hd := F.2.1
          have e0 : a.tmps.getD 2 undef = .pointer (some ⟨w.heap.size + 1, 0, none⟩) := F.eval 2 _ (by simp)
          clear HSS HSK HZ HEND HS1 HS2 HS3 HN1 HN2 HN3 hH F
          go_wp2
          exact ret_sig1 2 (w.heap.size + 1) x _ _ _ rfl hd e0 hst hend
      · refine step_lay3 rfl rfl r2 3 (by simp [upd3]) ?_
        rintro xw12 n12 r12
        refine openK (v := .slice (some ⟨n12, 0, none⟩) 0 0) 13 rfl F (by decide) (by simp) (fun a F => ?_)
        refine hK'.out _ _ (HSS.out _ r12.1) (fun hH => ?_)
        refine wpAnyH_ready (rs := [6]) (by kernel_rfl) (by simp) ?_
        refine AllReadyH.cons rfl (fun K' hK' => ?_) AllReadyH.nil
        refine step_lay3 rfl rfl r12 2 (by simp [upd3]) ?_
        rintro xw13 n13 r13
        refine openK (v := .slice (some ⟨n13, 0, none⟩) 0 0) 9 rfl F (by decide) (by simp) (fun a F => ?_)
        refine hK'.out _ _ (HSS.out _ r13.1) (fun hH => ?_)
        refine wpAnyH_ready (rs := [9]) (by kernel_rfl) (by simp) ?_
        refine AllReadyH.cons rfl (fun K' hK' => ?_) AllReadyH.nil
        refine step_app3 rfl 9 11 rfl r13 2 n13 (v := .slice (some ⟨n13, 0, none⟩) 0 0) (by simp [upd3]) _ g2 s (HS2.out _ r13.1) HN2.out (by omega) (F.get 9 _ (by simp)) (F.get 11 _ (by simp)) ?_
        rintro xw14 n14 q14 r14
        refine openK (v := .slice (some ⟨n14, 0, none⟩) s.length q14) 12 rfl F (by decide) (by simp) (fun a F => ?_)
        refine hK'.out _ _ (HSS.out _ r14.1) (fun hH => ?_)
        refine wpAnyH_ready (rs := [13]) (by kernel_rfl) (by simp) ?_
        refine AllReadyH.cons rfl (fun K' hK' => ?_) AllReadyH.nil
        refine step_app3 rfl 13 15 rfl r14 3 n12 (v := .slice (some ⟨n12, 0, none⟩) 0 0) (by simp [upd3]) _ g3 d (HS3.out _ r14.1) HN3.out (by omega) (F.get 13 _ (by simp)) (F.get 15 _ (by simp)) ?_
        rintro xw15 n15 q15 r15
        refine openK (v := .slice (some ⟨n15, 0, none⟩) d.length q15) 16 rfl F (by decide) (by simp) (fun a F => ?_)
        refine hK'.out _ _ (HSS.out _ r15.1) (fun hH => ?_)
        have r4 := F.get 4 (.int .i64 x) (by simp)
        have r8 := F.get 8 (.slice (some ⟨n2, 0, none⟩) o.length q2) (by simp)
        have r12 := F.get 12 (.slice (some ⟨n14, 0, none⟩) s.length q14) (by simp)
        have r16 := F.get 16 (.slice (some ⟨n15, 0, none⟩) d.length q15) (by simp)
        refine takeF (i := 14) (v := .agg #[.int .i64 x, .slice (some ⟨n2, 0, none⟩) o.length q2, .slice (some ⟨n14, 0, none⟩) s.length q14, .slice (some ⟨n15, 0, none⟩) d.length q15]) rfl (by kernel_rfl) (by kernel_rfl) (by kernel_rfl) (fun _ _ _ h => h) (Or.inl ⟨by rfl, fun w hw => by go_simp⟩) hH 17 rfl F (by decide) (by simp) (fun a F => ?_)
        clear r4 r8 r12 r16
        refine wpAnyH_ready (rs := [15]) (by kernel_rfl) (by simp) ?_
        refine AllReadyH.cons rfl (fun K' hK' => ?_) AllReadyH.nil
        have e1 := r15.one 1 (g := n2) (v := .slice (some ⟨n2, 0, none⟩) o.length q2) (l := o) (by simp [upd3]) (by omega)
        have e2 := r15.one 2 (g := n14) (v := .slice (some ⟨n14, 0, none⟩) s.length q14) (l := s) (by simp [upd3]) (by omega)
        have e3 := r15.one 3 (g := n15) (v := .slice (some ⟨n15, 0, none⟩) d.length q15) (l := d) (by simp [upd3]) (by omega)
        refine step_store_Sig (by rfl) 2 17 rfl rfl (w.heap.size + 1) 0 x _ _ _ _ _ _ (HZ.out _ r15.1) (F.get 2 _ (by simp)) (F.get 17 _ (by simp)) e1 e2 e3 ?_
        intro hst
        have hend := HEND.out _ _ n2 n14 n15 q2 q14 q15 r15 (by simp [upd3]) (by simp [upd3]) (by simp [upd3])
        refine hK'.out _ _ (HSK.out _ _ r15.1) (fun hH => ?_)
        refine wpAnyH_done (by kernel_rfl) ?_ _
        have hd := F.2.1
        have e0 : a.tmps.getD 2 undef = .pointer (some ⟨w.heap.size + 1, 0, none⟩) := F.eval 2 _ (by simp)
        clear HSS HSK HZ HEND HS1 HS2 HS3 HN1 HN2 HN3 hH F
        go_wp2
        exact ret_sig1 2 (w.heap.size + 1) x _ _ _ rfl hd e0 hst hend
    · refine step_lay3 rfl rfl r1 2 (by simp [upd3]) ?_
      rintro xw17 n17 r17
      refine openK (v := .slice (some ⟨n17, 0, none⟩) 0 0) 9 rfl F (by decide) (by simp) (fun a F => ?_)
      refine hK'.out _ _ (HSS.out _ r17.1) (fun hH => ?_)
      refine wpAnyH_ready (rs := [5, 10]) (by kernel_rfl) (by simp) ?_
      refine AllReadyH.cons rfl (fun K' hK' => ?_) (AllReadyH.cons rfl (fun K' hK' => ?_) AllReadyH.nil)
      · refine step_app3 rfl 5 7 rfl r17 1 n1 (v := .slice (some ⟨n1, 0, none⟩) 0 0) (by simp [upd3]) _ g1 o (HS1.out _ r17.1) HN1.out (by omega) (F.get 5 _ (by simp)) (F.get 7 _ (by simp)) ?_
        rintro xw18 n18 q18 r18
        refine openK (v := .slice (some ⟨n18, 0, none⟩) o.length q18) 8 rfl F (by decide) (by simp) (fun a F => ?_)
        refine hK'.out _ _ (HSS.out _ r18.1) (fun hH => ?_)
        refine wpAnyH_ready (rs := [9, 10]) (by kernel_rfl) (by simp) ?_
        refine AllReadyH.cons rfl (fun K' hK' => ?_) (AllReadyH.cons rfl (fun K' hK' => ?_) AllReadyH.nil)
        · refine step_app3 rfl 9 11 rfl r18 2 n17 (v := .slice (some ⟨n17, 0, none⟩) 0 0) (by simp [upd3]) _ g2 s (HS2.out _ r18.1) HN2.out (by omega) (F.get 9 _ (by simp)) (F.get 11 _ (by simp)) ?_
          rintro xw19 n19 q19 r19
          refine openK (v := .slice (some ⟨n19, 0, none⟩) s.length q19) 12 rfl F (by decide) (by simp) (fun a F => ?_)
          refine hK'.out _ _ (HSS.out _ r19.1) (fun hH => ?_)
          refine wpAnyH_ready (rs := [10]) (by kernel_rfl) (by simp) ?_
          refine AllReadyH.cons rfl (fun K' hK' => ?_) AllReadyH.nil
          refine step_lay3 rfl rfl r19 3 (by simp [upd3]) ?_
          rintro xw20 n20 r20
          refine openK (v := .slice (some ⟨n20, 0, none⟩) 0 0) 13 rfl F (by decide) (by simp) (fun a F => ?_)
          refine hK'.out _ _ (HSS.out _ r20.1) (fun hH => ?_)
          refine wpAnyH_ready (rs := [13]) (by kernel_rfl) (by simp) ?_
          refine AllReadyH.cons rfl (fun K' hK' => ?_) AllReadyH.nil
          refine step_app3 rfl 13 15 rfl r20 3 n20 (v := .slice (some ⟨n20, 0, none⟩) 0 0) (by simp [upd3]) _ g3 d (HS3.out _ r20.1) HN3.out (by omega) (F.get 13 _ (by simp)) (F.get 15 _ (by simp)) ?_
          rintro xw21 n21 q21 r21
          refine openK (v := .slice (some ⟨n21, 0, none⟩) d.length q21) 16 rfl F (by decide) (by simp) (fun a F => ?_)
          refine hK'.out _ _ (HSS.out _ r21.1) (fun hH => ?_)
          have r4 := F.get 4 (.int .i64 x) (by simp)
          have r8 := F.get 8 (.slice (some ⟨n18, 0, none⟩) o.length q18) (by simp)
          have r12 := F.get 12 (.slice (some ⟨n19, 0, none⟩) s.length q19) (by simp)
          have r16 := F.get 16 (.slice (some ⟨n21, 0, none⟩) d.length q21) (by simp)
          refine takeF (i := 14) (v := .agg #[.int .i64 x, .slice (some ⟨n18, 0, none⟩) o.length q18, .slice (some ⟨n19, 0, none⟩) s.length q19, .slice (some ⟨n21, 0, none⟩) d.length q21]) rfl (by kernel_rfl) (by kernel_rfl) (by kernel_rfl) (fun _ _ _ h => h) (Or.inl ⟨by rfl, fun w hw => by go_simp⟩) hH 17 rfl F (by decide) (by simp) (fun a F => ?_)
          clear r4 r8 r12 r16
          refine wpAnyH_ready (rs := [15]) (by kernel_rfl) (by simp) ?_
          refine AllReadyH.cons rfl (fun K' hK' => ?_) AllReadyH.nil
          have e1 := r21.one 1 (g := n18) (v := .slice (some ⟨n18, 0, none⟩) o.length q18) (l := o) (by simp [upd3]) (by omega)
          have e2 := r21.one 2 (g := n19) (v := .slice (some ⟨n19, 0, none⟩) s.length q19) (l := s) (by simp [upd3]) (by omega)
          have e3 := r21.one 3 (g := n21) (v := .slice (some ⟨n21, 0, none⟩) d.length q21) (l := d) (by simp [upd3]) (by omega)
          refine step_store_Sig (by rfl) 2 17 rfl rfl (w.heap.size + 1) 0 x _ _ _ _ _ _ (HZ.out _ r21.1) (F.get 2 _ (by simp)) (F.get 17 _ (by simp)) e1 e2 e3 ?_
          intro hst
          have hend := HEND.out _ _ n18 n19 n21 q18 q19 q21 r21 (by simp [upd3]) (by simp [upd3]) (by simp [upd3])
          refine hK'.out _ _ (HSK.out _ _ r21.1) (fun hH => ?_)
          refine wpAnyH_done (by kernel_rfl) ?_ _
          have hd := F.2.1
          have e0 : a.tmps.getD 2 undef = .pointer (some ⟨w.heap.size + 1, 0, none⟩) := F.eval 2 _ (by simp)
          clear HSS HSK HZ HEND HS1 HS2 HS3 HN1 HN2 HN3 hH F
          go_wp2
          exact ret_sig1 2 (w.heap.size + 1) x _ _ _ rfl hd e0 hst hend
        · refine step_lay3 rfl rfl r18 3 (by simp [upd3]) ?_
          rintro xw23 n23 r23
          refine openK (v := .slice (some ⟨n23, 0, none⟩) 0 0) 13 rfl F (by decide) (by simp) (fun a F => ?_)
          refine hK'.out _ _ (HSS.out _ r23.1) (fun hH => ?_)
          refine wpAnyH_ready (rs := [9]) (by kernel_rfl) (by simp) ?_
          refine AllReadyH.cons rfl (fun K' hK' => ?_) AllReadyH.nil
          refine step_app3 rfl 9 11 rfl r23 2 n17 (v := .slice (some ⟨n17, 0, none⟩) 0 0) (by simp [upd3]) _ g2 s (HS2.out _ r23.1) HN2.out (by omega) (F.get 9 _ (by simp)) (F.get 11 _ (by simp)) ?_
          rintro xw24 n24 q24 r24
          refine openK (v := .slice (some ⟨n24, 0, none⟩) s.length q24) 12 rfl F (by decide) (by simp) (fun a F => ?_)
          refine hK'.out _ _ (HSS.out _ r24.1) (fun hH => ?_)
          refine wpAnyH_ready (rs := [13]) (by kernel_rfl) (by simp) ?_
          refine AllReadyH.cons rfl (fun K' hK' => ?_) AllReadyH.nil
          refine step_app3 rfl 13 15 rfl r24 3 n23 (v := .slice (some ⟨n23, 0, none⟩) 0 0) (by simp [upd3]) _ g3 d (HS3.out _ r24.1) HN3.out (by omega) (F.get 13 _ (by simp)) (F.get 15 _ (by simp)) ?_
          rintro xw25 n25 q25 r25
          refine openK (v := .slice (some ⟨n25, 0, none⟩) d.length q25) 16 rfl F (by decide) (by simp) (fun a F => ?_)
          refine hK'.out _ _ (HSS.out _ r25.1) (fun hH => ?_)
          have r4 := F.get 4 (.int .i64 x) (by simp)
          have r8 := F.get 8 (.slice (some ⟨n18, 0, none⟩) o.length q18) (by simp)
          have r12 := F.get 12 (.slice (some ⟨n24, 0, none⟩) s.length q24) (by simp)
          have r16 := F.get 16 (.slice (some ⟨n25, 0, none⟩) d.length q25) (by simp)
          refine takeF (i := 14) (v := .agg #[.int .i64 x, .slice (some ⟨n18, 0, none⟩) o.length q18, .slice (some ⟨n24, 0, none⟩) s.length q24, .slice (some ⟨n25, 0, none⟩) d.length q25]) rfl (by kernel_rfl) (by kernel_rfl) (by kernel_rfl) (fun _ _ _ h => h) (Or.inl ⟨by rfl, fun w hw => by go_simp⟩) hH 17 rfl F (by decide) (by simp) (fun a F => ?_)
          clear r4 r8 r12 r16
          refine wpAnyH_ready (rs := [15]) (by kernel_rfl) (by simp) ?_
          refine AllReadyH.cons rfl (fun K' hK' => ?_) AllReadyH.nil
          have e1 := r25.one 1 (g := n18) (v := .slice (some ⟨n18, 0, none⟩) o.length q18) (l := o) (by simp [upd3]) (by omega)
          have e2 := r25.one 2 (g := n24) (v := .slice (some ⟨n24, 0, none⟩) s.length q24) (l := s) (by simp [upd3]) (by omega)
          have e3 := r25.one 3 (g := n25) (v := .slice (some ⟨n25, 0, none⟩) d.length q25) (l := d) (by simp [upd3]) (by omega)
          refine step_store_Sig (by rfl) 2 17 rfl rfl (w.heap.size + 1) 0 x _ _ _ _ _ _ (HZ.out _ r25.1) (F.get 2 _ (by simp)) (F.get 17 _ (by simp)) e1 e2 e3 ?_
          intro hst
          have hend := HEND.out _ _ n18 n24 n25 q18 q24 q25 r25 (by simp [upd3]) (by simp [upd3]) (by simp [upd3])
          refine hK'.out _ _ (HSK.out _ _ r25.1) (fun hH => ?_)
          refine wpAnyH_done (by kernel_rfl) ?_ _
          have hd := F.2.1
          have e0 : a.tmps.getD 2 undef = .pointer (some ⟨w.heap.size + 1, 0, none⟩) := F.eval 2 _ (by simp)
          clear HSS HSK HZ HEND HS1 HS2 HS3 HN1 HN2 HN3 hH F
          go_wp2
          exact ret_sig1 2 (w.heap.size + 1) x _ _ _ rfl hd e0 hst hend
      · refine step_lay3 rfl rfl r17 3 (by simp [upd3]) ?_
        rintro xw27 n27 r27
        refine openK (v := .slice (some ⟨n27, 0, none⟩) 0 0) 13 rfl F (by decide) (by simp) (fun a F => ?_)
        refine hK'.out _ _ (HSS.out _ r27.1) (fun hH => ?_)
        refine wpAnyH_ready (rs := [5]) (by kernel_rfl) (by simp) ?_
        refine AllReadyH.cons rfl (fun K' hK' => ?_) AllReadyH.nil
        refine step_app3 rfl 5 7 rfl r27 1 n1 (v := .slice (some ⟨n1, 0, none⟩) 0 0) (by simp [upd3]) _ g1 o (HS1.out _ r27.1) HN1.out (by omega) (F.get 5 _ (by simp)) (F.get 7 _ (by simp)) ?_
        rintro xw28 n28 q28 r28
        refine openK (v := .slice (some ⟨n28, 0, none⟩) o.length q28) 8 rfl F (by decide) (by simp) (fun a F => ?_)
        refine hK'.out _ _ (HSS.out _ r28.1) (fun hH => ?_)
        refine wpAnyH_ready (rs := [9]) (by kernel_rfl) (by simp) ?_
        refine AllReadyH.cons rfl (fun K' hK' => ?_) AllReadyH.nil
        refine step_app3 rfl 9 11 rfl r28 2 n17 (v := .slice (some ⟨n17, 0, none⟩) 0 0) (by simp [upd3]) _ g2 s (HS2.out _ r28.1) HN2.out (by omega) (F.get 9 _ (by simp)) (F.get 11 _ (by simp)) ?_
        rintro xw29 n29 q29 r29
        refine openK (v := .slice (some ⟨n29, 0, none⟩) s.length q29) 12 rfl F (by decide) (by simp) (fun a F => ?_)
        refine hK'.out _ _ (HSS.out _ r29.1) (fun hH => ?_)
        refine wpAnyH_ready (rs := [13]) (by kernel_rfl) (by simp) ?_
        refine AllReadyH.cons rfl (fun K' hK' => ?_) AllReadyH.nil
        refine step_app3 rfl 13 15 rfl r29 3 n27 (v := .slice (some ⟨n27, 0, none⟩) 0 0) (by simp [upd3]) _ g3 d (HS3.out _ r29.1) HN3.out (by omega) (F.get 13 _ (by simp)) (F.get 15 _ (by simp)) ?_
        rintro xw30 n30 q30 r30
        refine openK (v := .slice (some ⟨n30, 0, none⟩) d.length q30) 16 rfl F (by decide) (by simp) (fun a F => ?_)
        refine hK'.out _ _ (HSS.out _ r30.1) (fun hH => ?_)
        have r4 := F.get 4 (.int .i64 x) (by simp)
        have r8 := F.get 8 (.slice (some ⟨n28, 0, none⟩) o.length q28) (by simp)
        have r12 := F.get 12 (.slice (some ⟨n29, 0, none⟩) s.length q29) (by simp)
        have r16 := F.get 16 (.slice (some ⟨n30, 0, none⟩) d.length q30) (by simp)
        refine takeF (i := 14) (v := .agg #[.int .i64 x, .slice (some ⟨n28, 0, none⟩) o.length q28, .slice (some ⟨n29, 0, none⟩) s.length q29, .slice (some ⟨n30, 0, none⟩) d.length q30]) rfl (by kernel_rfl) (by kernel_rfl) (by kernel_rfl) (fun _ _ _ h => h) (Or.inl ⟨by rfl, fun w hw => by go_simp⟩) hH 17 rfl F (by decide) (by simp) (fun a F => ?_)
        clear r4 r8 r12 r16
        refine wpAnyH_ready (rs := [15]) (by kernel_rfl) (by simp) ?_
        refine AllReadyH.cons rfl (fun K' hK' => ?_) AllReadyH.nil
        have e1 := r30.one 1 (g := n28) (v := .slice (some ⟨n28, 0, none⟩) o.length q28) (l := o) (by simp [upd3]) (by omega)
        have e2 := r30.one 2 (g := n29) (v := .slice (some ⟨n29, 0, none⟩) s.length q29) (l := s) (by simp [upd3]) (by omega)
        have e3 := r30.one 3 (g := n30) (v := .slice (some ⟨n30, 0, none⟩) d.length q30) (l := d) (by simp [upd3]) (by omega)
        refine step_store_Sig (by rfl) 2 17 rfl rfl (w.heap.size + 1) 0 x _ _ _ _ _ _ (HZ.out _ r30.1) (F.get 2 _ (by simp)) (F.get 17 _ (by simp)) e1 e2 e3 ?_
        intro hst
        have hend := HEND.out _ _ n28 n29 n30 q28 q29 q30 r30 (by simp [upd3]) (by simp [upd3]) (by simp [upd3])
        refine hK'.out _ _ (HSK.out _ _ r30.1) (fun hH => ?_)
        refine wpAnyH_done (by kernel_rfl) ?_ _
        have hd := F.2.1
        have e0 : a.tmps.getD 2 undef = .pointer (some ⟨w.heap.size + 1, 0, none⟩) := F.eval 2 _ (by simp)
        clear HSS HSK HZ HEND HS1 HS2 HS3 HN1 HN2 HN3 hH F
        go_wp2
        exact ret_sig1 2 (w.heap.size + 1) x _ _ _ rfl hd e0 hst hend
    · refine step_lay3 rfl rfl r1 3 (by simp [upd3]) ?_
      rintro xw32 n32 r32
      refine openK (v := .slice (some ⟨n32, 0, none⟩) 0 0) 13 rfl F (by decide) (by simp) (fun a F => ?_)
      refine hK'.out _ _ (HSS.out _ r32.1) (fun hH => ?_)
      refine wpAnyH_ready (rs := [5, 6]) (by kernel_rfl) (by simp) ?_
      refine AllReadyH.cons rfl (fun K' hK' => ?_) (AllReadyH.cons rfl (fun K' hK' => ?_) AllReadyH.nil)
      · refine step_app3 rfl 5 7 rfl r32 1 n1 (v := .slice (some ⟨n1, 0, none⟩) 0 0) (by simp [upd3]) _ g1 o (HS1.out _ r32.1) HN1.out (by omega) (F.get 5 _ (by simp)) (F.get 7 _ (by simp)) ?_
        rintro xw33 n33 q33 r33
        refine openK (v := .slice (some ⟨n33, 0, none⟩) o.length q33) 8 rfl F (by decide) (by simp) (fun a F => ?_)
        refine hK'.out _ _ (HSS.out _ r33.1) (fun hH => ?_)
        refine wpAnyH_ready (rs := [6]) (by kernel_rfl) (by simp) ?_
        refine AllReadyH.cons rfl (fun K' hK' => ?_) AllReadyH.nil
        refine step_lay3 rfl rfl r33 2 (by simp [upd3]) ?_
        rintro xw34 n34 r34
        refine openK (v := .slice (some ⟨n34, 0, none⟩) 0 0) 9 rfl F (by decide) (by simp) (fun a F => ?_)
        refine hK'.out _ _ (HSS.out _ r34.1) (fun hH => ?_)
        refine wpAnyH_ready (rs := [9]) (by kernel_rfl) (by simp) ?_
        refine AllReadyH.cons rfl (fun K' hK' => ?_) AllReadyH.nil
        refine step_app3 rfl 9 11 rfl r34 2 n34 (v := .slice (some ⟨n34, 0, none⟩) 0 0) (by simp [upd3]) _ g2 s (HS2.out _ r34.1) HN2.out (by omega) (F.get 9 _ (by simp)) (F.get 11 _ (by simp)) ?_
        rintro xw35 n35 q35 r35
        refine openK (v := .slice (some ⟨n35, 0, none⟩) s.length q35) 12 rfl F (by decide) (by simp) (fun a F => ?_)
        refine hK'.out _ _ (HSS.out _ r35.1) (fun hH => ?_)
        refine wpAnyH_ready (rs := [13]) (by kernel_rfl) (by simp) ?_
        refine AllReadyH.cons rfl (fun K' hK' => ?_) AllReadyH.nil
        refine step_app3 rfl 13 15 rfl r35 3 n32 (v := .slice (some ⟨n32, 0, none⟩) 0 0) (by simp [upd3]) _ g3 d (HS3.out _ r35.1) HN3.out (by omega) (F.get 13 _ (by simp)) (F.get 15 _ (by simp)) ?_
        rintro xw36 n36 q36 r36
        refine openK (v := .slice (some ⟨n36, 0, none⟩) d.length q36) 16 rfl F (by decide) (by simp) (fun a F => ?_)
        refine hK'.out _ _ (HSS.out _ r36.1) (fun hH => ?_)
        have r4 := F.get 4 (.int .i64 x) (by simp)
        have r8 := F.get 8 (.slice (some ⟨n33, 0, none⟩) o.length q33) (by simp)
        have r12 := F.get 12 (.slice (some ⟨n35, 0, none⟩) s.length q35) (by simp)
        have r16 := F.get 16 (.slice (some ⟨n36, 0, none⟩) d.length q36) (by simp)
        refine takeF (i := 14) (v := .agg #[.int .i64 x, .slice (some ⟨n33, 0, none⟩) o.length q33, .slice (some ⟨n35, 0, none⟩) s.length q35, .slice (some ⟨n36, 0, none⟩) d.length q36]) rfl (by kernel_rfl) (by kernel_rfl) (by kernel_rfl) (fun _ _ _ h => h) (Or.inl ⟨by rfl, fun w hw => by go_simp⟩) hH 17 rfl F (by decide) (by simp) (fun a F => ?_)
        clear r4 r8 r12 r16
        refine wpAnyH_ready (rs := [15]) (by kernel_rfl) (by simp) ?_
        refine AllReadyH.cons rfl (fun K' hK' => ?_) AllReadyH.nil
        have e1 := r36.one 1 (g := n33) (v := .slice (some ⟨n33, 0, none⟩) o.length q33) (l := o) (by simp [upd3]) (by omega)
        have e2 := r36.one 2 (g := n35) (v := .slice (some ⟨n35, 0, none⟩) s.length q35) (l := s) (by simp [upd3]) (by omega)
        have e3 := r36.one 3 (g := n36) (v := .slice (some ⟨n36, 0, none⟩) d.length q36) (l := d) (by simp [upd3]) (by omega)
        refine step_store_Sig (by rfl) 2 17 rfl rfl (w.heap.size + 1) 0 x _ _ _ _ _ _ (HZ.out _ r36.1) (F.get 2 _ (by simp)) (F.get 17 _ (by simp)) e1 e2 e3 ?_
        intro hst
        have hend := HEND.out _ _ n33 n35 n36 q33 q35 q36 r36 (by simp [upd3]) (by simp [upd3]) (by simp [upd3])
        refine hK'.out _ _ (HSK.out _ _ r36.1) (fun hH => ?_)
        refine wpAnyH_done (by kernel_rfl) ?_ _
        have hd := F.2.1
        have e0 : a.tmps.getD 2 undef = .pointer (some ⟨w.heap.size + 1, 0, none⟩) := F.eval 2 _ (by simp)
        clear HSS HSK HZ HEND HS1 HS2 HS3 HN1 HN2 HN3 hH F
        go_wp2
        exact ret_sig1 2 (w.heap.size + 1) x _ _ _ rfl hd e0 hst hend
      · refine step_lay3 rfl rfl r32 2 (by simp [upd3]) ?_
        rintro xw38 n38 r38
        refine openK (v := .slice (some ⟨n38, 0, none⟩) 0 0) 9 rfl F (by decide) (by simp) (fun a F => ?_)
        refine hK'.out _ _ (HSS.out _ r38.1) (fun hH => ?_)
        refine wpAnyH_ready (rs := [5]) (by kernel_rfl) (by simp) ?_
        refine AllReadyH.cons rfl (fun K' hK' => ?_) AllReadyH.nil
        refine step_app3 rfl 5 7 rfl r38 1 n1 (v := .slice (some ⟨n1, 0, none⟩) 0 0) (by simp [upd3]) _ g1 o (HS1.out _ r38.1) HN1.out (by omega) (F.get 5 _ (by simp)) (F.get 7 _ (by simp)) ?_
        rintro xw39 n39 q39 r39
        refine openK (v := .slice (some ⟨n39, 0, none⟩) o.length q39) 8 rfl F (by decide) (by simp) (fun a F => ?_)
        refine hK'.out _ _ (HSS.out _ r39.1) (fun hH => ?_)
        refine wpAnyH_ready (rs := [9]) (by kernel_rfl) (by simp) ?_
        refine AllReadyH.cons rfl (fun K' hK' => ?_) AllReadyH.nil
        refine step_app3 rfl 9 11 rfl r39 2 n38 (v := .slice (some ⟨n38, 0, none⟩) 0 0) (by simp [upd3]) _ g2 s (HS2.out _ r39.1) HN2.out (by omega) (F.get 9 _ (by simp)) (F.get 11 _ (by simp)) ?_
        rintro xw40 n40 q40 r40
        refine openK (v := .slice (some ⟨n40, 0, none⟩) s.length q40) 12 rfl F (by decide) (by simp) (fun a F => ?_)
        refine hK'.out _ _ (HSS.out _ r40.1) (fun hH => ?_)
        refine wpAnyH_ready (rs := [13]) (by kernel_rfl) (by simp) ?_
        refine AllReadyH.cons rfl (fun K' hK' => ?_) AllReadyH.nil
        refine step_app3 rfl 13 15 rfl r40 3 n32 (v := .slice (some ⟨n32, 0, none⟩) 0 0) (by simp [upd3]) _ g3 d (HS3.out _ r40.1) HN3.out (by omega) (F.get 13 _ (by simp)) (F.get 15 _ (by simp)) ?_
        rintro xw41 n41 q41 r41
        refine openK (v := .slice (some ⟨n41, 0, none⟩) d.length q41) 16 rfl F (by decide) (by simp) (fun a F => ?_)
        refine hK'.out _ _ (HSS.out _ r41.1) (fun hH => ?_)
        have r4 := F.get 4 (.int .i64 x) (by simp)
        have r8 := F.get 8 (.slice (some ⟨n39, 0, none⟩) o.length q39) (by simp)
        have r12 := F.get 12 (.slice (some ⟨n40, 0, none⟩) s.length q40) (by simp)
        have r16 := F.get 16 (.slice (some ⟨n41, 0, none⟩) d.length q41) (by simp)
        refine takeF (i := 14) (v := .agg #[.int .i64 x, .slice (some ⟨n39, 0, none⟩) o.length q39, .slice (some ⟨n40, 0, none⟩) s.length q40, .slice (some ⟨n41, 0, none⟩) d.length q41]) rfl (by kernel_rfl) (by kernel_rfl) (by kernel_rfl) (fun _ _ _ h => h) (Or.inl ⟨by rfl, fun w hw => by go_simp⟩) hH 17 rfl F (by decide) (by simp) (fun a F => ?_)
        clear r4 r8 r12 r16
        refine wpAnyH_ready (rs := [15]) (by kernel_rfl) (by simp) ?_
        refine AllReadyH.cons rfl (fun K' hK' => ?_) AllReadyH.nil
        have e1 := r41.one 1 (g := n39) (v := .slice (some ⟨n39, 0, none⟩) o.length q39) (l := o) (by simp [upd3]) (by omega)
        have e2 := r41.one 2 (g := n40) (v := .slice (some ⟨n40, 0, none⟩) s.length q40) (l := s) (by simp [upd3]) (by omega)
        have e3 := r41.one 3 (g := n41) (v := .slice (some ⟨n41, 0, none⟩) d.length q41) (l := d) (by simp [upd3]) (by omega)
        refine step_store_Sig (by rfl) 2 17 rfl rfl (w.heap.size + 1) 0 x _ _ _ _ _ _ (HZ.out _ r41.1) (F.get 2 _ (by simp)) (F.get 17 _ (by simp)) e1 e2 e3 ?_
        intro hst
        have hend := HEND.out _ _ n39 n40 n41 q39 q40 q41 r41 (by simp [upd3]) (by simp [upd3]) (by simp [upd3])
        refine hK'.out _ _ (HSK.out _ _ r41.1) (fun hH => ?_)
        refine wpAnyH_done (by kernel_rfl) ?_ _
        have hd := F.2.1
        have e0 : a.tmps.getD 2 undef = .pointer (some ⟨w.heap.size + 1, 0, none⟩) := F.eval 2 _ (by simp)
        clear HSS HSK HZ HEND HS1 HS2 HS3 HN1 HN2 HN3 hH F
        go_wp2
        exact ret_sig1 2 (w.heap.size + 1) x _ _ _ rfl hd e0 hst hend
  · refine step_lay3 rfl rfl r0 2 (by simp [upd3]) ?_
    rintro xw43 n43 r43
    refine openK (v := .slice (some ⟨n43, 0, none⟩) 0 0) 9 rfl F (by decide) (by simp) (fun a F => ?_)
    refine hK'.out _ _ (HSS.out _ r43.1) (fun hH => ?_)
    refine wpAnyH_ready (rs := [2, 10]) (by kernel_rfl) (by simp) ?_
    refine AllReadyH.cons rfl (fun K' hK' => ?_) (AllReadyH.cons rfl (fun K' hK' => ?_) AllReadyH.nil)
    · refine step_lay3 rfl rfl r43 1 (by simp [upd3]) ?_
      rintro xw44 n44 r44
      refine openK (v := .slice (some ⟨n44, 0, none⟩) 0 0) 5 rfl F (by decide) (by simp) (fun a F => ?_)
      refine hK'.out _ _ (HSS.out _ r44.1) (fun hH => ?_)
      refine wpAnyH_ready (rs := [5, 10]) (by kernel_rfl) (by simp) ?_
      refine AllReadyH.cons rfl (fun K' hK' => ?_) (AllReadyH.cons rfl (fun K' hK' => ?_) AllReadyH.nil)
      · refine step_app3 rfl 5 7 rfl r44 1 n44 (v := .slice (some ⟨n44, 0, none⟩) 0 0) (by simp [upd3]) _ g1 o (HS1.out _ r44.1) HN1.out (by omega) (F.get 5 _ (by simp)) (F.get 7 _ (by simp)) ?_
        rintro xw45 n45 q45 r45
        refine openK (v := .slice (some ⟨n45, 0, none⟩) o.length q45) 8 rfl F (by decide) (by simp) (fun a F => ?_)
        refine hK'.out _ _ (HSS.out _ r45.1) (fun hH => ?_)
        refine wpAnyH_ready (rs := [9, 10]) (by kernel_rfl) (by simp) ?_
        refine AllReadyH.cons rfl (fun K' hK' => ?_) (AllReadyH.cons rfl (fun K' hK' => ?_) AllReadyH.nil)
        · refine step_app3 rfl 9 11 rfl r45 2 n43 (v := .slice (some ⟨n43, 0, none⟩) 0 0) (by simp [upd3]) _ g2 s (HS2.out _ r45.1) HN2.out (by omega) (F.get 9 _ (by simp)) (F.get 11 _ (by simp)) ?_
          rintro xw46 n46 q46 r46
          refine openK (v := .slice (some ⟨n46, 0, none⟩) s.length q46) 12 rfl F (by decide) (by simp) (fun a F => ?_)
          refine hK'.out _ _ (HSS.out _ r46.1) (fun hH => ?_)
          refine wpAnyH_ready (rs := [10]) (by kernel_rfl) (by simp) ?_
          refine AllReadyH.cons rfl (fun K' hK' => ?_) AllReadyH.nil
          refine step_lay3 rfl rfl r46 3 (by simp [upd3]) ?_
          rintro xw47 n47 r47
          refine openK (v := .slice (some ⟨n47, 0, none⟩) 0 0) 13 rfl F (by decide) (by simp) (fun a F => ?_)
          refine hK'.out _ _ (HSS.out _ r47.1) (fun hH => ?_)
          refine wpAnyH_ready (rs := [13]) (by kernel_rfl) (by simp) ?_
          refine AllReadyH.cons rfl (fun K' hK' => ?_) AllReadyH.nil
          refine step_app3 rfl 13 15 rfl r47 3 n47 (v := .slice (some ⟨n47, 0, none⟩) 0 0) (by simp [upd3]) _ g3 d (HS3.out _ r47.1) HN3.out (by omega) (F.get 13 _ (by simp)) (F.get 15 _ (by simp)) ?_
          rintro xw48 n48 q48 r48
          refine openK (v := .slice (some ⟨n48, 0, none⟩) d.length q48) 16 rfl F (by decide) (by simp) (fun a F => ?_)
          refine hK'.out _ _ (HSS.out _ r48.1) (fun hH => ?_)
          have r4 := F.get 4 (.int .i64 x) (by simp)
          have r8 := F.get 8 (.slice (some ⟨n45, 0, none⟩) o.length q45) (by simp)
          have r12 := F.get 12 (.slice (some ⟨n46, 0, none⟩) s.length q46) (by simp)
          have r16 := F.get 16 (.slice (some ⟨n48, 0, none⟩) d.length q48) (by simp)
          refine takeF (i := 14) (v := .agg #[.int .i64 x, .slice (some ⟨n45, 0, none⟩) o.length q45, .slice (some ⟨n46, 0, none⟩) s.length q46, .slice (some ⟨n48, 0, none⟩) d.length q48]) rfl (by kernel_rfl) (by kernel_rfl) (by kernel_rfl) (fun _ _ _ h => h) (Or.inl ⟨by rfl, fun w hw => by go_simp⟩) hH 17 rfl F (by decide) (by simp) (fun a F => ?_)
          clear r4 r8 r12 r16
          refine wpAnyH_ready (rs := [15]) (by kernel_rfl) (by simp) ?_
          refine AllReadyH.cons rfl (fun K' hK' => ?_) AllReadyH.nil
          have e1 := r48.one 1 (g := n45) (v := .slice (some ⟨n45, 0, none⟩) o.length q45) (l := o) (by simp [upd3]) (by omega)
          have e2 := r48.one 2 (g := n46) (v := .slice (some ⟨n46, 0, none⟩) s.length q46) (l := s) (by simp [upd3]) (by omega)
          have e3 := r48.one 3 (g := n48) (v := .slice (some ⟨n48, 0, none⟩) d.length q48) (l := d) (by simp [upd3]) (by omega)
          refine step_store_Sig (by rfl) 2 17 rfl rfl (w.heap.size + 1) 0 x _ _ _ _ _ _ (HZ.out _ r48.1) (F.get 2 _ (by simp)) (F.get 17 _ (by simp)) e1 e2 e3 ?_
          intro hst
          have hend := HEND.out _ _ n45 n46 n48 q45 q46 q48 r48 (by simp [upd3]) (by simp [upd3]) (by simp [upd3])
          refine hK'.out _ _ (HSK.out _ _ r48.1) (fun hH => ?_)
          refine wpAnyH_done (by kernel_rfl) ?_ _
          have hd := F.2.1
          have e0 : a.tmps.getD 2 undef = .pointer (some ⟨w.heap.size + 1, 0, none⟩) := F.eval 2 _ (by simp)
          clear HSS HSK HZ HEND HS1 HS2 HS3 HN1 HN2 HN3 hH F
          go_wp2
          exact ret_sig1 2 (w.heap.size + 1) x _ _ _ rfl hd e0 hst hend
        · refine step_lay3 rfl rfl r45 3 (by simp [upd3]) ?_
          rintro xw50 n50 r50
          refine openK (v := .slice (some ⟨n50, 0, none⟩) 0 0) 13 rfl F (by decide) (by simp) (fun a F => ?_)
          refine hK'.out _ _ (HSS.out _ r50.1) (fun hH => ?_)
          refine wpAnyH_ready (rs := [9]) (by kernel_rfl) (by simp) ?_
          refine AllReadyH.cons rfl (fun K' hK' => ?_) AllReadyH.nil
          refine step_app3 rfl 9 11 rfl r50 2 n43 (v := .slice (some ⟨n43, 0, none⟩) 0 0) (by simp [upd3]) _ g2 s (HS2.out _ r50.1) HN2.out (by omega) (F.get 9 _ (by simp)) (F.get 11 _ (by simp)) ?_
          rintro xw51 n51 q51 r51
          refine openK (v := .slice (some ⟨n51, 0, none⟩) s.length q51) 12 rfl F (by decide) (by simp) (fun a F => ?_)
          refine hK'.out _ _ (HSS.out _ r51.1) (fun hH => ?_)
          refine wpAnyH_ready (rs := [13]) (by kernel_rfl) (by simp) ?_
          refine AllReadyH.cons rfl (fun K' hK' => ?_) AllReadyH.nil
          refine step_app3 rfl 13 15 rfl r51 3 n50 (v := .slice (some ⟨n50, 0, none⟩) 0 0) (by simp [upd3]) _ g3 d (HS3.out _ r51.1) HN3.out (by omega) (F.get 13 _ (by simp)) (F.get 15 _ (by simp)) ?_
          rintro xw52 n52 q52 r52
          refine openK (v := .slice (some ⟨n52, 0, none⟩) d.length q52) 16 rfl F (by decide) (by simp) (fun a F => ?_)
          refine hK'.out _ _ (HSS.out _ r52.1) (fun hH => ?_)
          have r4 := F.get 4 (.int .i64 x) (by simp)
          have r8 := F.get 8 (.slice (some ⟨n45, 0, none⟩) o.length q45) (by simp)
          have r12 := F.get 12 (.slice (some ⟨n51, 0, none⟩) s.length q51) (by simp)
          have r16 := F.get 16 (.slice (some ⟨n52, 0, none⟩) d.length q52) (by simp)
          refine takeF (i := 14) (v := .agg #[.int .i64 x, .slice (some ⟨n45, 0, none⟩) o.length q45, .slice (some ⟨n51, 0, none⟩) s.length q51, .slice (some ⟨n52, 0, none⟩) d.length q52]) rfl (by kernel_rfl) (by kernel_rfl) (by kernel_rfl) (fun _ _ _ h => h) (Or.inl ⟨by rfl, fun w hw => by go_simp⟩) hH 17 rfl F (by decide) (by simp) (fun a F => ?_)
          clear r4 r8 r12 r16
          refine wpAnyH_ready (rs := [15]) (by kernel_rfl) (by simp) ?_
          refine AllReadyH.cons rfl (fun K' hK' => ?_) AllReadyH.nil
          have e1 := r52.one 1 (g := n45) (v := .slice (some ⟨n45, 0, none⟩) o.length q45) (l := o) (by simp [upd3]) (by omega)
          have e2 := r52.one 2 (g := n51) (v := .slice (some ⟨n51, 0, none⟩) s.length q51) (l := s) (by simp [upd3]) (by omega)
          have e3 := r52.one 3 (g := n52) (v := .slice (some ⟨n52, 0, none⟩) d.length q52) (l := d) (by simp [upd3]) (by omega)
          refine step_store_Sig (by rfl) 2 17 rfl rfl (w.heap.size + 1) 0 x _ _ _ _ _ _ (HZ.out _ r52.1) (F.get 2 _ (by simp)) (F.get 17 _ (by simp)) e1 e2 e3 ?_
          intro hst
          have hend := HEND.out _ _ n45 n51 n52 q45 q51 q52 r52 (by simp [upd3]) (by simp [upd3]) (by simp [upd3])
          refine hK'.out _ _ (HSK.out _ _ r52.1) (fun hH => ?_)
          refine wpAnyH_done (by kernel_rfl) ?_ _
          have hd := F.2.1
          have e0 : a.tmps.getD 2 undef = .pointer (some ⟨w.heap.size + 1, 0, none⟩) := F.eval 2 _ (by simp)
          clear HSS HSK HZ HEND HS1 HS2 HS3 HN1 HN2 HN3 hH F
          go_wp2
          exact ret_sig1 2 (w.heap.size + 1) x _ _ _ rfl hd e0 hst hend
      · refine step_lay3 rfl rfl r44 3 (by simp [upd3]) ?_
        rintro xw54 n54 r54
        refine openK (v := .slice (some ⟨n54, 0, none⟩) 0 0) 13 rfl F (by decide) (by simp) (fun a F => ?_)
        refine hK'.out _ _ (HSS.out _ r54.1) (fun hH => ?_)
        refine wpAnyH_ready (rs := [5]) (by kernel_rfl) (by simp) ?_
        refine AllReadyH.cons rfl (fun K' hK' => ?_) AllReadyH.nil
        refine step_app3 rfl 5 7 rfl r54 1 n44 (v := .slice (some ⟨n44, 0, none⟩) 0 0) (by simp [upd3]) _ g1 o (HS1.out _ r54.1) HN1.out (by omega) (F.get 5 _ (by simp)) (F.get 7 _ (by simp)) ?_
        rintro xw55 n55 q55 r55
        refine openK (v := .slice (some ⟨n55, 0, none⟩) o.length q55) 8 rfl F (by decide) (by simp) (fun a F => ?_)
        refine hK'.out _ _ (HSS.out _ r55.1) (fun hH => ?_)
        refine wpAnyH_ready (rs := [9]) (by kernel_rfl) (by simp) ?_
        refine AllReadyH.cons rfl (fun K' hK' => ?_) AllReadyH.nil
        refine step_app3 rfl 9 11 rfl r55 2 n43 (v := .slice (some ⟨n43, 0, none⟩) 0 0) (by simp [upd3]) _ g2 s (HS2.out _ r55.1) HN2.out (by omega) (F.get 9 _ (by simp)) (F.get 11 _ (by simp)) ?_
        rintro xw56 n56 q56 r56
        refine openK (v := .slice (some ⟨n56, 0, none⟩) s.length q56) 12 rfl F (by decide) (by simp) (fun a F => ?_)
        refine hK'.out _ _ (HSS.out _ r56.1) (fun hH => ?_)
        refine wpAnyH_ready (rs := [13]) (by kernel_rfl) (by simp) ?_
        refine AllReadyH.cons rfl (fun K' hK' => ?_) AllReadyH.nil
        refine step_app3 rfl 13 15 rfl r56 3 n54 (v := .slice (some ⟨n54, 0, none⟩) 0 0) (by simp [upd3]) _ g3 d (HS3.out _ r56.1) HN3.out (by omega) (F.get 13 _ (by simp)) (F.get 15 _ (by simp)) ?_
        rintro xw57 n57 q57 r57
        refine openK (v := .slice (some ⟨n57, 0, none⟩) d.length q57) 16 rfl F (by decide) (by simp) (fun a F => ?_)
        refine hK'.out _ _ (HSS.out _ r57.1) (fun hH => ?_)
        have r4 := F.get 4 (.int .i64 x) (by simp)
        have r8 := F.get 8 (.slice (some ⟨n55, 0, none⟩) o.length q55) (by simp)
        have r12 := F.get 12 (.slice (some ⟨n56, 0, none⟩) s.length q56) (by simp)
        have r16 := F.get 16 (.slice (some ⟨n57, 0, none⟩) d.length q57) (by simp)
        refine takeF (i := 14) (v := .agg #[.int .i64 x, .slice (some ⟨n55, 0, none⟩) o.length q55, .slice (some ⟨n56, 0, none⟩) s.length q56, .slice (some ⟨n57, 0, none⟩) d.length q57]) rfl (by kernel_rfl) (by kernel_rfl) (by kernel_rfl) (fun _ _ _ h => h) (Or.inl ⟨by rfl, fun w hw => by go_simp⟩) hH 17 rfl F (by decide) (by simp) (fun a F => ?_)
        clear r4 r8 r12 r16
        refine wpAnyH_ready (rs := [15]) (by kernel_rfl) (by simp) ?_
        refine AllReadyH.cons rfl (fun K' hK' => ?_) AllReadyH.nil
        have e1 := r57.one 1 (g := n55) (v := .slice (some ⟨n55, 0, none⟩) o.length q55) (l := o) (by simp [upd3]) (by omega)
        have e2 := r57.one 2 (g := n56) (v := .slice (some ⟨n56, 0, none⟩) s.length q56) (l := s) (by simp [upd3]) (by omega)
        have e3 := r57.one 3 (g := n57) (v := .slice (some ⟨n57, 0, none⟩) d.length q57) (l := d) (by simp [upd3]) (by omega)
        refine step_store_Sig (by rfl) 2 17 rfl rfl (w.heap.size + 1) 0 x _ _ _ _ _ _ (HZ.out _ r57.1) (F.get 2 _ (by simp)) (F.get 17 _ (by simp)) e1 e2 e3 ?_
        intro hst
        have hend := HEND.out _ _ n55 n56 n57 q55 q56 q57 r57 (by simp [upd3]) (by simp [upd3]) (by simp [upd3])
        refine hK'.out _ _ (HSK.out _ _ r57.1) (fun hH => ?_)
        refine wpAnyH_done (by kernel_rfl) ?_ _
        have hd := F.2.1
        have e0 : a.tmps.getD 2 undef = .pointer (some ⟨w.heap.size + 1, 0, none⟩) := F.eval 2 _ (by simp)
        clear HSS HSK HZ HEND HS1 HS2 HS3 HN1 HN2 HN3 hH F
        go_wp2
        exact ret_sig1 2 (w.heap.size + 1) x _ _ _ rfl hd e0 hst hend
    · refine step_lay3 rfl rfl r43 3 (by simp [upd3]) ?_
      rintro xw59 n59 r59
      refine openK (v := .slice (some ⟨n59, 0, none⟩) 0 0) 13 rfl F (by decide) (by simp) (fun a F => ?_)
      refine hK'.out _ _ (HSS.out _ r59.1) (fun hH => ?_)
      refine wpAnyH_ready (rs := [2]) (by kernel_rfl) (by simp) ?_
      refine AllReadyH.cons rfl (fun K' hK' => ?_) AllReadyH.nil
      refine step_lay3 rfl rfl r59 1 (by simp [upd3]) ?_
      rintro xw60 n60 r60
      refine openK (v := .slice (some ⟨n60, 0, none⟩) 0 0) 5 rfl F (by decide) (by simp) (fun a F => ?_)
      refine hK'.out _ _ (HSS.out _ r60.1) (fun hH => ?_)
      refine wpAnyH_ready (rs := [5]) (by kernel_rfl) (by simp) ?_
      refine AllReadyH.cons rfl (fun K' hK' => ?_) AllReadyH.nil
      refine step_app3 rfl 5 7 rfl r60 1 n60 (v := .slice (some ⟨n60, 0, none⟩) 0 0) (by simp [upd3]) _ g1 o (HS1.out _ r60.1) HN1.out (by omega) (F.get 5 _ (by simp)) (F.get 7 _ (by simp)) ?_
      rintro xw61 n61 q61 r61
      refine openK (v := .slice (some ⟨n61, 0, none⟩) o.length q61) 8 rfl F (by decide) (by simp) (fun a F => ?_)
      refine hK'.out _ _ (HSS.out _ r61.1) (fun hH => ?_)
      refine wpAnyH_ready (rs := [9]) (by kernel_rfl) (by simp) ?_
      refine AllReadyH.cons rfl (fun K' hK' => ?_) AllReadyH.nil
      refine step_app3 rfl 9 11 rfl r61 2 n43 (v := .slice (some ⟨n43, 0, none⟩) 0 0) (by simp [upd3]) _ g2 s (HS2.out _ r61.1) HN2.out (by omega) (F.get 9 _ (by simp)) (F.get 11 _ (by simp)) ?_
      rintro xw62 n62 q62 r62
      refine openK (v := .slice (some ⟨n62, 0, none⟩) s.length q62) 12 rfl F (by decide) (by simp) (fun a F => ?_)
      refine hK'.out _ _ (HSS.out _ r62.1) (fun hH => ?_)
      refine wpAnyH_ready (rs := [13]) (by kernel_rfl) (by simp) ?_
      refine AllReadyH.cons rfl (fun K' hK' => ?_) AllReadyH.nil
      refine step_app3 rfl 13 15 rfl r62 3 n59 (v := .slice (some ⟨n59, 0, none⟩) 0 0) (by simp [upd3]) _ g3 d (HS3.out _ r62.1) HN3.out (by omega) (F.get 13 _ (by simp)) (F.get 15 _ (by simp)) ?_
      rintro xw63 n63 q63 r63
      refine openK (v := .slice (some ⟨n63, 0, none⟩) d.length q63) 16 rfl F (by decide) (by simp) (fun a F => ?_)
      refine hK'.out _ _ (HSS.out _ r63.1) (fun hH => ?_)
      have r4 := F.get 4 (.int .i64 x) (by simp)
      have r8 := F.get 8 (.slice (some ⟨n61, 0, none⟩) o.length q61) (by simp)
      have r12 := F.get 12 (.slice (some ⟨n62, 0, none⟩) s.length q62) (by simp)
      have r16 := F.get 16 (.slice (some ⟨n63, 0, none⟩) d.length q63) (by simp)
      refine takeF (i := 14) (v := .agg #[.int .i64 x, .slice (some ⟨n61, 0, none⟩) o.length q61, .slice (some ⟨n62, 0, none⟩) s.length q62, .slice (some ⟨n63, 0, none⟩) d.length q63]) rfl (by kernel_rfl) (by kernel_rfl) (by kernel_rfl) (fun _ _ _ h => h) (Or.inl ⟨by rfl, fun w hw => by go_simp⟩) hH 17 rfl F (by decide) (by simp) (fun a F => ?_)
      clear r4 r8 r12 r16
      refine wpAnyH_ready (rs := [15]) (by kernel_rfl) (by simp) ?_
      refine AllReadyH.cons rfl (fun K' hK' => ?_) AllReadyH.nil
      have e1 := r63.one 1 (g := n61) (v := .slice (some ⟨n61, 0, none⟩) o.length q61) (l := o) (by simp [upd3]) (by omega)
      have e2 := r63.one 2 (g := n62) (v := .slice (some ⟨n62, 0, none⟩) s.length q62) (l := s) (by simp [upd3]) (by omega)
      have e3 := r63.one 3 (g := n63) (v := .slice (some ⟨n63, 0, none⟩) d.length q63) (l := d) (by simp [upd3]) (by omega)
      refine step_store_Sig (by rfl) 2 17 rfl rfl (w.heap.size + 1) 0 x _ _ _ _ _ _ (HZ.out _ r63.1) (F.get 2 _ (by simp)) (F.get 17 _ (by simp)) e1 e2 e3 ?_
      intro hst
      have hend := HEND.out _ _ n61 n62 n63 q61 q62 q63 r63 (by simp [upd3]) (by simp [upd3]) (by simp [upd3])
      refine hK'.out _ _ (HSK.out _ _ r63.1) (fun hH => ?_)
      refine wpAnyH_done (by kernel_rfl) ?_ _
      have hd := F.2.1
      have e0 : a.tmps.getD 2 undef = .pointer (some ⟨w.heap.size + 1, 0, none⟩) := F.eval 2 _ (by simp)
      clear HSS HSK HZ HEND HS1 HS2 HS3 HN1 HN2 HN3 hH F
      go_wp2
      exact ret_sig1 2 (w.heap.size + 1) x _ _ _ rfl hd e0 hst hend
  · refine step_lay3 rfl rfl r0 3 (by simp [upd3]) ?_
    rintro xw65 n65 r65
    refine openK (v := .slice (some ⟨n65, 0, none⟩) 0 0) 13 rfl F (by decide) (by simp) (fun a F => ?_)
    refine hK'.out _ _ (HSS.out _ r65.1) (fun hH => ?_)
    refine wpAnyH_ready (rs := [2, 6]) (by kernel_rfl) (by simp) ?_
    refine AllReadyH.cons rfl (fun K' hK' => ?_) (AllReadyH.cons rfl (fun K' hK' => ?_) AllReadyH.nil)
    · refine step_lay3 rfl rfl r65 1 (by simp [upd3]) ?_
      rintro xw66 n66 r66
      refine openK (v := .slice (some ⟨n66, 0, none⟩) 0 0) 5 rfl F (by decide) (by simp) (fun a F => ?_)
      refine hK'.out _ _ (HSS.out _ r66.1) (fun hH => ?_)
      refine wpAnyH_ready (rs := [5, 6]) (by kernel_rfl) (by simp) ?_
      refine AllReadyH.cons rfl (fun K' hK' => ?_) (AllReadyH.cons rfl (fun K' hK' => ?_) AllReadyH.nil)
      · refine step_app3 rfl 5 7 rfl r66 1 n66 (v := .slice (some ⟨n66, 0, none⟩) 0 0) (by simp [upd3]) _ g1 o (HS1.out _ r66.1) HN1.out (by omega) (F.get 5 _ (by simp)) (F.get 7 _ (by simp)) ?_
        rintro xw67 n67 q67 r67
        refine openK (v := .slice (some ⟨n67, 0, none⟩) o.length q67) 8 rfl F (by decide) (by simp) (fun a F => ?_)
        refine hK'.out _ _ (HSS.out _ r67.1) (fun hH => ?_)
        refine wpAnyH_ready (rs := [6]) (by kernel_rfl) (by simp) ?_
        refine AllReadyH.cons rfl (fun K' hK' => ?_) AllReadyH.nil
        refine step_lay3 rfl rfl r67 2 (by simp [upd3]) ?_
        rintro xw68 n68 r68
        refine openK (v := .slice (some ⟨n68, 0, none⟩) 0 0) 9 rfl F (by decide) (by simp) (fun a F => ?_)
        refine hK'.out _ _ (HSS.out _ r68.1) (fun hH => ?_)
        refine wpAnyH_ready (rs := [9]) (by kernel_rfl) (by simp) ?_
        refine AllReadyH.cons rfl (fun K' hK' => ?_) AllReadyH.nil
        refine step_app3 rfl 9 11 rfl r68 2 n68 (v := .slice (some ⟨n68, 0, none⟩) 0 0) (by simp [upd3]) _ g2 s (HS2.out _ r68.1) HN2.out (by omega) (F.get 9 _ (by simp)) (F.get 11 _ (by simp)) ?_
        rintro xw69 n69 q69 r69
        refine openK (v := .slice (some ⟨n69, 0, none⟩) s.length q69) 12 rfl F (by decide) (by simp) (fun a F => ?_)
        refine hK'.out _ _ (HSS.out _ r69.1) (fun hH => ?_)
        refine wpAnyH_ready (rs := [13]) (by kernel_rfl) (by simp) ?_
        refine AllReadyH.cons rfl (fun K' hK' => ?_) AllReadyH.nil
        refine step_app3 rfl 13 15 rfl r69 3 n65 (v := .slice (some ⟨n65, 0, none⟩) 0 0) (by simp [upd3]) _ g3 d (HS3.out _ r69.1) HN3.out (by omega) (F.get 13 _ (by simp)) (F.get 15 _ (by simp)) ?_
        rintro xw70 n70 q70 r70
        refine openK (v := .slice (some ⟨n70, 0, none⟩) d.length q70) 16 rfl F (by decide) (by simp) (fun a F => ?_)
        refine hK'.out _ _ (HSS.out _ r70.1) (fun hH => ?_)
        have r4 := F.get 4 (.int .i64 x) (by simp)
        have r8 := F.get 8 (.slice (some ⟨n67, 0, none⟩) o.length q67) (by simp)
        have r12 := F.get 12 (.slice (some ⟨n69, 0, none⟩) s.length q69) (by simp)
        have r16 := F.get 16 (.slice (some ⟨n70, 0, none⟩) d.length q70) (by simp)
        refine takeF (i := 14) (v := .agg #[.int .i64 x, .slice (some ⟨n67, 0, none⟩) o.length q67, .slice (some ⟨n69, 0, none⟩) s.length q69, .slice (some ⟨n70, 0, none⟩) d.length q70]) rfl (by kernel_rfl) (by kernel_rfl) (by kernel_rfl) (fun _ _ _ h => h) (Or.inl ⟨by rfl, fun w hw => by go_simp⟩) hH 17 rfl F (by decide) (by simp) (fun a F => ?_)
        clear r4 r8 r12 r16
        refine wpAnyH_ready (rs := [15]) (by kernel_rfl) (by simp) ?_
        refine AllReadyH.cons rfl (fun K' hK' => ?_) AllReadyH.nil
        have e1 := r70.one 1 (g := n67) (v := .slice (some ⟨n67, 0, none⟩) o.length q67) (l := o) (by simp [upd3]) (by omega)
        have e2 := r70.one 2 (g := n69) (v := .slice (some ⟨n69, 0, none⟩) s.length q69) (l := s) (by simp [upd3]) (by omega)
        have e3 := r70.one 3 (g := n70) (v := .slice (some ⟨n70, 0, none⟩) d.length q70) (l := d) (by simp [upd3]) (by omega)
        refine step_store_Sig (by rfl) 2 17 rfl rfl (w.heap.size + 1) 0 x _ _ _ _ _ _ (HZ.out _ r70.1) (F.get 2 _ (by simp)) (F.get 17 _ (by simp)) e1 e2 e3 ?_
        intro hst
        have hend := HEND.out _ _ n67 n69 n70 q67 q69 q70 r70 (by simp [upd3]) (by simp [upd3]) (by simp [upd3])
        refine hK'.out _ _ (HSK.out _ _ r70.1) (fun hH => ?_)
        refine wpAnyH_done (by kernel_rfl) ?_ _
        have hd := F.2.1
        have e0 : a.tmps.getD 2 undef = .pointer (some ⟨w.heap.size + 1, 0, none⟩) := F.eval 2 _ (by simp)
        clear HSS HSK HZ HEND HS1 HS2 HS3 HN1 HN2 HN3 hH F
        go_wp2
        exact ret_sig1 2 (w.heap.size + 1) x _ _ _ rfl hd e0 hst hend
      · refine step_lay3 rfl rfl r66 2 (by simp [upd3]) ?_
        rintro xw72 n72 r72
        refine openK (v := .slice (some ⟨n72, 0, none⟩) 0 0) 9 rfl F (by decide) (by simp) (fun a F => ?_)
        refine hK'.out _ _ (HSS.out _ r72.1) (fun hH => ?_)
        refine wpAnyH_ready (rs := [5]) (by kernel_rfl) (by simp) ?_
        refine AllReadyH.cons rfl (fun K' hK' => ?_) AllReadyH.nil
        refine step_app3 rfl 5 7 rfl r72 1 n66 (v := .slice (some ⟨n66, 0, none⟩) 0 0) (by simp [upd3]) _ g1 o (HS1.out _ r72.1) HN1.out (by omega) (F.get 5 _ (by simp)) (F.get 7 _ (by simp)) ?_
        rintro xw73 n73 q73 r73
        refine openK (v := .slice (some ⟨n73, 0, none⟩) o.length q73) 8 rfl F (by decide) (by simp) (fun a F => ?_)
        refine hK'.out _ _ (HSS.out _ r73.1) (fun hH => ?_)
        refine wpAnyH_ready (rs := [9]) (by kernel_rfl) (by simp) ?_
        refine AllReadyH.cons rfl (fun K' hK' => ?_) AllReadyH.nil
        refine step_app3 rfl 9 11 rfl r73 2 n72 (v := .slice (some ⟨n72, 0, none⟩) 0 0) (by simp [upd3]) _ g2 s (HS2.out _ r73.1) HN2.out (by omega) (F.get 9 _ (by simp)) (F.get 11 _ (by simp)) ?_
        rintro xw74 n74 q74 r74
        refine openK (v := .slice (some ⟨n74, 0, none⟩) s.length q74) 12 rfl F (by decide) (by simp) (fun a F => ?_)
        refine hK'.out _ _ (HSS.out _ r74.1) (fun hH => ?_)
        refine wpAnyH_ready (rs := [13]) (by kernel_rfl) (by simp) ?_
        refine AllReadyH.cons rfl (fun K' hK' => ?_) AllReadyH.nil
        refine step_app3 rfl 13 15 rfl r74 3 n65 (v := .slice (some ⟨n65, 0, none⟩) 0 0) (by simp [upd3]) _ g3 d (HS3.out _ r74.1) HN3.out (by omega) (F.get 13 _ (by simp)) (F.get 15 _ (by simp)) ?_
        rintro xw75 n75 q75 r75
        refine openK (v := .slice (some ⟨n75, 0, none⟩) d.length q75) 16 rfl F (by decide) (by simp) (fun a F => ?_)
        refine hK'.out _ _ (HSS.out _ r75.1) (fun hH => ?_)
        have r4 := F.get 4 (.int .i64 x) (by simp)
        have r8 := F.get 8 (.slice (some ⟨n73, 0, none⟩) o.length q73) (by simp)
        have r12 := F.get 12 (.slice (some ⟨n74, 0, none⟩) s.length q74) (by simp)
        have r16 := F.get 16 (.slice (some ⟨n75, 0, none⟩) d.length q75) (by simp)
        refine takeF (i := 14) (v := .agg #[.int .i64 x, .slice (some ⟨n73, 0, none⟩) o.length q73, .slice (some ⟨n74, 0, none⟩) s.length q74, .slice (some ⟨n75, 0, none⟩) d.length q75]) rfl (by kernel_rfl) (by kernel_rfl) (by kernel_rfl) (fun _ _ _ h => h) (Or.inl ⟨by rfl, fun w hw => by go_simp⟩) hH 17 rfl F (by decide) (by simp) (fun a F => ?_)
        clear r4 r8 r12 r16
        refine wpAnyH_ready (rs := [15]) (by kernel_rfl) (by simp) ?_
        refine AllReadyH.cons rfl (fun K' hK' => ?_) AllReadyH.nil
        have e1 := r75.one 1 (g := n73) (v := .slice (some ⟨n73, 0, none⟩) o.length q73) (l := o) (by simp [upd3]) (by omega)
        have e2 := r75.one 2 (g := n74) (v := .slice (some ⟨n74, 0, none⟩) s.length q74) (l := s) (by simp [upd3]) (by omega)
        have e3 := r75.one 3 (g := n75) (v := .slice (some ⟨n75, 0, none⟩) d.length q75) (l := d) (by simp [upd3]) (by omega)
        refine step_store_Sig (by rfl) 2 17 rfl rfl (w.heap.size + 1) 0 x _ _ _ _ _ _ (HZ.out _ r75.1) (F.get 2 _ (by simp)) (F.get 17 _ (by simp)) e1 e2 e3 ?_
        intro hst
        have hend := HEND.out _ _ n73 n74 n75 q73 q74 q75 r75 (by simp [upd3]) (by simp [upd3]) (by simp [upd3])
        refine hK'.out _ _ (HSK.out _ _ r75.1) (fun hH => ?_)
        refine wpAnyH_done (by kernel_rfl) ?_ _
        have hd := F.2.1
        have e0 : a.tmps.getD 2 undef = .pointer (some ⟨w.heap.size + 1, 0, none⟩) := F.eval 2 _ (by simp)
        clear HSS HSK HZ HEND HS1 HS2 HS3 HN1 HN2 HN3 hH F
        go_wp2
        exact ret_sig1 2 (w.heap.size + 1) x _ _ _ rfl hd e0 hst hend
    · refine step_lay3 rfl rfl r65 2 (by simp [upd3]) ?_
      rintro xw77 n77 r77
      refine openK (v := .slice (some ⟨n77, 0, none⟩) 0 0) 9 rfl F (by decide) (by simp) (fun a F => ?_)
      refine hK'.out _ _ (HSS.out _ r77.1) (fun hH => ?_)
      refine wpAnyH_ready (rs := [2]) (by kernel_rfl) (by simp) ?_
      refine AllReadyH.cons rfl (fun K' hK' => ?_) AllReadyH.nil
      refine step_lay3 rfl rfl r77 1 (by simp [upd3]) ?_
      rintro xw78 n78 r78
      refine openK (v := .slice (some ⟨n78, 0, none⟩) 0 0) 5 rfl F (by decide) (by simp) (fun a F => ?_)
      refine hK'.out _ _ (HSS.out _ r78.1) (fun hH => ?_)
      refine wpAnyH_ready (rs := [5]) (by kernel_rfl) (by simp) ?_
      refine AllReadyH.cons rfl (fun K' hK' => ?_) AllReadyH.nil
      refine step_app3 rfl 5 7 rfl r78 1 n78 (v := .slice (some ⟨n78, 0, none⟩) 0 0) (by simp [upd3]) _ g1 o (HS1.out _ r78.1) HN1.out (by omega) (F.get 5 _ (by simp)) (F.get 7 _ (by simp)) ?_
      rintro xw79 n79 q79 r79
      refine openK (v := .slice (some ⟨n79, 0, none⟩) o.length q79) 8 rfl F (by decide) (by simp) (fun a F => ?_)
      refine hK'.out _ _ (HSS.out _ r79.1) (fun hH => ?_)
      refine wpAnyH_ready (rs := [9]) (by kernel_rfl) (by simp) ?_
      refine AllReadyH.cons rfl (fun K' hK' => ?_) AllReadyH.nil
      refine step_app3 rfl 9 11 rfl r79 2 n77 (v := .slice (some ⟨n77, 0, none⟩) 0 0) (by simp [upd3]) _ g2 s (HS2.out _ r79.1) HN2.out (by omega) (F.get 9 _ (by simp)) (F.get 11 _ (by simp)) ?_
      rintro xw80 n80 q80 r80
      refine openK (v := .slice (some ⟨n80, 0, none⟩) s.length q80) 12 rfl F (by decide) (by simp) (fun a F => ?_)
      refine hK'.out _ _ (HSS.out _ r80.1) (fun hH => ?_)
      refine wpAnyH_ready (rs := [13]) (by kernel_rfl) (by simp) ?_
      refine AllReadyH.cons rfl (fun K' hK' => ?_) AllReadyH.nil
      refine step_app3 rfl 13 15 rfl r80 3 n65 (v := .slice (some ⟨n65, 0, none⟩) 0 0) (by simp [upd3]) _ g3 d (HS3.out _ r80.1) HN3.out (by omega) (F.get 13 _ (by simp)) (F.get 15 _ (by simp)) ?_
      rintro xw81 n81 q81 r81
      refine openK (v := .slice (some ⟨n81, 0, none⟩) d.length q81) 16 rfl F (by decide) (by simp) (fun a F => ?_)
      refine hK'.out _ _ (HSS.out _ r81.1) (fun hH => ?_)
      have r4 := F.get 4 (.int .i64 x) (by simp)
      have r8 := F.get 8 (.slice (some ⟨n79, 0, none⟩) o.length q79) (by simp)
      have r12 := F.get 12 (.slice (some ⟨n80, 0, none⟩) s.length q80) (by simp)
      have r16 := F.get 16 (.slice (some ⟨n81, 0, none⟩) d.length q81) (by simp)
      refine takeF (i := 14) (v := .agg #[.int .i64 x, .slice (some ⟨n79, 0, none⟩) o.length q79, .slice (some ⟨n80, 0, none⟩) s.length q80, .slice (some ⟨n81, 0, none⟩) d.length q81]) rfl (by kernel_rfl) (by kernel_rfl) (by kernel_rfl) (fun _ _ _ h => h) (Or.inl ⟨by rfl, fun w hw => by go_simp⟩) hH 17 rfl F (by decide) (by simp) (fun a F => ?_)
      clear r4 r8 r12 r16
      refine wpAnyH_ready (rs := [15]) (by kernel_rfl) (by simp) ?_
      refine AllReadyH.cons rfl (fun K' hK' => ?_) AllReadyH.nil
      have e1 := r81.one 1 (g := n79) (v := .slice (some ⟨n79, 0, none⟩) o.length q79) (l := o) (by simp [upd3]) (by omega)
      have e2 := r81.one 2 (g := n80) (v := .slice (some ⟨n80, 0, none⟩) s.length q80) (l := s) (by simp [upd3]) (by omega)
      have e3 := r81.one 3 (g := n81) (v := .slice (some ⟨n81, 0, none⟩) d.length q81) (l := d) (by simp [upd3]) (by omega)
      refine step_store_Sig (by rfl) 2 17 rfl rfl (w.heap.size + 1) 0 x _ _ _ _ _ _ (HZ.out _ r81.1) (F.get 2 _ (by simp)) (F.get 17 _ (by simp)) e1 e2 e3 ?_
      intro hst
      have hend := HEND.out _ _ n79 n80 n81 q79 q80 q81 r81 (by simp [upd3]) (by simp [upd3]) (by simp [upd3])
      refine hK'.out _ _ (HSK.out _ _ r81.1) (fun hH => ?_)
      refine wpAnyH_done (by kernel_rfl) ?_ _
      have hd := F.2.1
      have e0 : a.tmps.getD 2 undef = .pointer (some ⟨w.heap.size + 1, 0, none⟩) := F.eval 2 _ (by simp)
      clear HSS HSK HZ HEND HS1 HS2 HS3 HN1 HN2 HN3 hH F
      go_wp2
      exact ret_sig1 2 (w.heap.size + 1) x _ _ _ rfl hd e0 hst hend

end Go.Proofs.YtaejeemjndmjcaaDoor
