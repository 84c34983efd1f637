/-
  Texts laid together: Jg, Short, Tag, Sha.
-/
import Derived.Test.YthlgohplljcgfaaGreatDoorPkESN13
import Derived.Test.YthlgohplljcgfaaGreatDoorPkESN17
import Derived.Test.YthlgohplljcgfaaGreatDoorPkESN1
import Derived.Test.YthlgohplljcgfaaGreatDoorPkESN5
import Derived.Lib.AppendStr
import Derived.Deep.RegionHeld3
import Derived.Test.YthlgohplljcgfaaGreatDoorRows
import Derived.WalkKit
import Derived.Below
import Derived.Laws.BitsAllLaws
/-
  What a server is ready with: the program's and the specification's answers.
-/
namespace Go.Proofs.YthlgohplljcgfaaGreatDoor
open Go.RowKit Go.BigFrame Go.Sort
set_option linter.unusedVariables false
set_option linter.unusedSimpArgs false

/-- how many are the first x of n -/
def tkN (x : Int) (n : Nat) : Nat := (min (max x 0) (n : Int)).toNat
theorem tkN_le (x : Int) (n : Nat) : tkN x n ≤ n := by unfold tkN; omega
theorem tkN_int (x : Int) (n : Nat) : ((tkN x n : Nat) : Int) = min (max x 0) (n : Int) := by unfold tkN; omega
theorem RS.takeU {w : World} {a : Option Addr} {c g o : Nat} {l : List Ug} (h : RS 3 ucs w (.slice a l.length c) g o l) (k : Nat) (hk : k ≤ l.length) : RS 3 ucs w (.slice a k c) g o (l.take k) := by
  have e1 : (l.take k).length = k := by simp; omega
  obtain ⟨a', c', hv, h2, h3, h4⟩ := h
  simp only [Value.slice.injEq] at hv
  obtain ⟨rfl, _, rfl⟩ := hv
  refine ⟨a, c, by rw [e1], by omega, fun h0 => h3 (by omega), fun j hj => ?_⟩
  have := h4 j (by omega)
  rw [List.getElem_take]
  exact this

theorem firstOfAll_any (x : Int) (p : Nat) (x0 x1 x2 x3 x4 x5 x6 x8 x9 x10 : Value) (aa : Option Addr) (na ca : Nat) (w : World) (h : Box 35 w p [x0, x1, x2, x3, x4, x5, x6, .slice aa na ca, x8, x9, x10]) :
    Calls Tryz.prog 168 #[.pointer (some ⟨p, 0, none⟩), .int .i64 x] w fun e w' => e = .returned (.int .i64 (tkN x na : Nat)) ∧ w' = w := by
  have z7 := h.at 7 _ rfl
  have hx := tkN_int x na
  go_enter Tryz.func168, Tryz.ntmps168
  go_wp2
  go_ret
  exact ⟨by rw [hx]; rfl, rfl⟩

/-- what is ready of these changes -/
noncomputable def rlA (x : Int) (U : List Ug) : List Le := UV.apA [] (U.take (tkN x U.length))

set_option maxRecDepth 100000 in
set_option maxHeartbeats 2000000 in
theorem ReadyLeaves_any (n : Sn) (vd vv vt : Value) (aa : Option Addr) (ca gu ou : Nat) (U : List Ug) (w : World) (hs : vd.oneCell' = true ∧ vv.oneCell' = true ∧ vt.oneCell' = true) (hU : RS 3 ucs w (.slice aa U.length ca) gu ou U) (hc : U.length ≤ ca) (hsm : SmallUs U) :
    Calls Tryz.prog 144 #[.agg #[.int .i64 n.a, .int .i64 n.k, .bool n.u, vd, .int .i64 n.e, vv, vt, .slice aa U.length ca, .int .i64 n.r0, .int .i64 n.r1, .int .i64 n.r2]] w (ApP (rlA n.r2 U) w) := by
  obtain ⟨a, k, u, e, r0, r1, r2⟩ := n
  simp only
  have hle := tkN_le r2 U.length
  have HAA : Hid (∀ W, Below w.heap.size w W → Calls Tryz.prog 167 #[.slice none 0 0, .slice aa (tkN r2 U.length) ca] W (ApP (rlA r2 U) W)) := fun W hW => ApplyAll_any (.slice none 0 0) 0 0 [] _ gu ou _ W (RS.nil W 0 0) (fun f hf => by simp at hf) ((hU.later hW).takeU _ hle) (fun x hx => hsm x (List.mem_of_mem_take hx))
  unfold ApP at HAA ⊢
  have HFO : Hid (∀ W p x0 x1 x2 x3 x4 x5 x6 x8 x9 x10, Box 35 W p [x0, x1, x2, x3, x4, x5, x6, .slice aa U.length ca, x8, x9, x10] → Calls Tryz.prog 168 #[.pointer (some ⟨p, 0, none⟩), .int .i64 r2] W fun e w' => e = .returned (.int .i64 (tkN r2 U.length : Nat)) ∧ Below W.heap.size W w') := fun W p x0 x1 x2 x3 x4 x5 x6 x8 x9 x10 h => (firstOfAll_any r2 p x0 x1 x2 x3 x4 x5 x6 x8 x9 x10 aa U.length ca W h).mono fun e w' ⟨h1, h2⟩ => ⟨h1, by rw [h2]; exact Below.refl _ _⟩
  generalize rlA r2 U = M at *
  generalize tkN r2 U.length = m at *
  generalize U.length = nu at *
  have hm : (m : Int) ≤ (ca : Int) := by omega
  clear hU hsm
  have HB : Hid (Below w.heap.size w (w.alloc (.cells #[.int .i64 a, .int .i64 k, .bool u, vd, .int .i64 e, vv, vt, .slice aa nu ca, .int .i64 r0, .int .i64 r1, .int .i64 r2] 35)) ∧ Box 35 (w.alloc (.cells #[.int .i64 a, .int .i64 k, .bool u, vd, .int .i64 e, vv, vt, .slice aa nu ca, .int .i64 r0, .int .i64 r1, .int .i64 r2] 35)) w.heap.size [.int .i64 a, .int .i64 k, .bool u, vd, .int .i64 e, vv, vt, .slice aa nu ca, .int .i64 r0, .int .i64 r1, .int .i64 r2]) := ⟨below_alloc _ _, Box.new _ _ _⟩
  go_enter Tryz.func144, Tryz.ntmps144
  go_wp2
  generalize hW1 : (w.alloc (.cells #[.int .i64 a, .int .i64 k, .bool u, vd, .int .i64 e, vv, vt, .slice aa nu ca, .int .i64 r0, .int .i64 r1, .int .i64 r2] 35)) = W1 at *
  have HK : Hid (∀ W, Below W1.heap.size W1 W → (W.cell? ⟨w.heap.size, 7, none⟩ = some (.slice aa nu ca) ∧ W.cell? ⟨w.heap.size, 10, none⟩ = some (.int .i64 r2))) := fun W hW => ⟨(HB.out.2.later hW).at 7 _ rfl, (HB.out.2.later hW).at 10 _ rfl⟩
  have HFB : Hid (∀ W, Below W1.heap.size W1 W → Calls Tryz.prog 168 #[.pointer (some ⟨w.heap.size, 0, none⟩), .int .i64 r2] W fun e w' => e = .returned (.int .i64 (m : Nat)) ∧ Below W.heap.size W w') := fun W hW => HFO.out W w.heap.size _ _ _ _ _ _ _ _ _ _ (HB.out.2.later hW)
  have HAB : Hid (∀ W, Below W1.heap.size W1 W → Calls Tryz.prog 167 #[.slice none 0 0, .slice aa m ca] W fun e w' => ∃ a cap g, e = .returned (.slice a M.length cap) ∧ RW 2 lcs w' (.slice a M.length cap) g M ∧ W.heap.size ≤ g ∧ Below W.heap.size W w') := fun W hW => HAA.out W (HB.out.1.trans (hW.mono HB.out.1.size))
  have HB1 : Hid (Below w.heap.size w W1) := HB.out.1
  have hb0 : Below W1.heap.size W1 W1.drew := (Below.refl _ _).drew
  clear HB HFO HAA hW1
  generalize hp0 : w.heap.size = p0 at *
  go_region_held3 (fun W => (W.cell? ⟨p0, 7, none⟩ = some (.slice aa nu ca) ∧ W.cell? ⟨p0, 10, none⟩ = some (.int .i64 r2))) (first | (go_keep; done) | exact HK.out _ hb0) (first | (go_at_call 168; refine (HFB.out _ hb0).mono ?_; rintro e w2 ⟨rfl, hb2⟩; have hb0 := hb0.trans (hb2.mono hb0.size)) | (go_at_call 167; refine (HAB.out _ hb0).mono ?_; rintro e w3 ⟨a3, c3, g3, rfl, hr3, hg3, hb3⟩; have hq3 := Nat.le_trans hb0.size hg3; have hb0 := hb0.trans (hb3.mono hb0.size)) | fail)
  try rename_i hHeld
  try clear hHeld
  subst hp0
  have HF : Hid (w.heap.size ≤ g3 ∧ Below w.heap.size w w3) := ⟨by have := HB1.out.size; omega, HB1.out.trans (hb0.mono HB1.out.size)⟩
  clear hb0 HK HFB HAB
  go_wp2
  go_ret
  exact ⟨a3, c3, g3, rfl, hr3, HF.out.1, HF.out.2⟩

set_option maxRecDepth 100000 in
set_option maxHeartbeats 2000000 in
theorem sReadyLeaves_any (n : Sn) (vd vv vt : Value) (aa : Option Addr) (ca gu ou : Nat) (U : List Ug) (w : World) (hU : RS 3 ucs w (.slice aa U.length ca) gu ou U) (hc : U.length ≤ ca) (hsm : SmallUs U) :
    Calls Tryz.prog 109 #[.agg #[.int .i64 n.a, .int .i64 n.k, .bool n.u, vd, .int .i64 n.e, vv, vt, .slice aa U.length ca, .int .i64 n.r0, .int .i64 n.r1, .int .i64 n.r2]] w (ApP (rlA n.r2 U) w) := by
  obtain ⟨a, k, u, e, r0, r1, r2⟩ := n
  simp only
  have hle := tkN_le r2 U.length
  have hti := tkN_int r2 U.length
  have HAA : Hid (∀ W g, Below w.heap.size w W → Calls Tryz.prog 135 #[.slice (some ⟨g, 0, none⟩) 0 0, .slice aa (tkN r2 U.length) ca] W (ApP (rlA r2 U) W)) := fun W g hW => (sApplyAll_any (some ⟨g, 0, none⟩) 0 g 0 [] _ gu ou _ W ⟨_, _, rfl, by simp, fun h => by simp at h, fun j h => by simp at h⟩ (fun h => by cases h) (fun f hf => by simp at hf) (by simp) ((hU.later hW).takeU _ hle) (fun x hx => hsm x (List.mem_of_mem_take hx))).mono fun _ _ h => h.plain
  unfold ApP at HAA ⊢
  generalize rlA r2 U = M at *
  generalize htk : tkN r2 U.length = m at *
  generalize U.length = nu at *
  have hm : (m : Int) ≤ (ca : Int) := by omega
  have hm0 : (0 : Int) ≤ (m : Int) := by omega
  clear hU hsm htk
  have HB : Hid (Below w.heap.size w ((w.alloc (.cells #[.int .i64 a, .int .i64 k, .bool u, vd, .int .i64 e, vv, vt, .slice aa nu ca, .int .i64 r0, .int .i64 r1, .int .i64 r2] 35)).alloc (.cells #[] 134)) ∧ Box 35 ((w.alloc (.cells #[.int .i64 a, .int .i64 k, .bool u, vd, .int .i64 e, vv, vt, .slice aa nu ca, .int .i64 r0, .int .i64 r1, .int .i64 r2] 35)).alloc (.cells #[] 134)) w.heap.size [.int .i64 a, .int .i64 k, .bool u, vd, .int .i64 e, vv, vt, .slice aa nu ca, .int .i64 r0, .int .i64 r1, .int .i64 r2]) := ⟨(below_alloc _ _).alloc (by simp) _, (Box.new _ _ _).later (below_alloc _ _)⟩
  by_cases hbig : (nu : Int) < r2
  · obtain rfl : m = nu := by omega
    have hn0 : ¬ (m : Int) < 0 := by omega
    clear hti hle
    go_enter Tryz.func109, Tryz.ntmps109
    go_wp2_with fail
    refine (HAA.out _ _ HB.out.1).mono ?_
    rintro e w3 ⟨a3, c3, g3, rfl, hr3, hg3, hb3⟩
    have HF : Hid (w.heap.size ≤ g3 ∧ Below w.heap.size w w3) := ⟨by have := HB.out.1.size; omega, HB.out.1.trans (hb3.mono HB.out.1.size)⟩
    clear HAA HB hb3 hg3
    go_wp2
    go_ret
    exact ⟨a3, c3, g3, rfl, hr3, HF.out.1, HF.out.2⟩
  by_cases hneg : r2 < 0
  · obtain rfl : m = 0 := by omega
    clear hti hle
    go_enter Tryz.func109, Tryz.ntmps109
    go_wp2_with fail
    refine (HAA.out _ _ HB.out.1).mono ?_
    rintro e w3 ⟨a3, c3, g3, rfl, hr3, hg3, hb3⟩
    have HF : Hid (w.heap.size ≤ g3 ∧ Below w.heap.size w w3) := ⟨by have := HB.out.1.size; omega, HB.out.1.trans (hb3.mono HB.out.1.size)⟩
    clear HAA HB hb3 hg3
    go_wp2
    go_ret
    exact ⟨a3, c3, g3, rfl, hr3, HF.out.1, HF.out.2⟩
  · obtain rfl : r2 = (m : Int) := by omega
    clear hti hle
    go_enter Tryz.func109, Tryz.ntmps109
    go_wp2_with fail
    refine (HAA.out _ _ HB.out.1).mono ?_
    rintro e w3 ⟨a3, c3, g3, rfl, hr3, hg3, hb3⟩
    have HF : Hid (w.heap.size ≤ g3 ∧ Below w.heap.size w w3) := ⟨by have := HB.out.1.size; omega, HB.out.1.trans (hb3.mono HB.out.1.size)⟩
    clear HAA HB hb3 hg3
    go_wp2
    go_ret
    exact ⟨a3, c3, g3, rfl, hr3, HF.out.1, HF.out.2⟩

end Go.Proofs.YthlgohplljcgfaaGreatDoor
/-
  What ShortText answers, the program's and the specification's: varL of the length, and the text.
-/
namespace Go.Proofs.YthlgohplljcgfaaGreatDoor
open Go.RowKit

theorem varA_size (n : Nat) : (⟨(M.varL n).toArray⟩ : ByteArray).size ≤ 10 := by
  have := M.varL_len n
  show (M.varL n).toArray.size ≤ 10
  simpa using this

end Go.Proofs.YthlgohplljcgfaaGreatDoor
/-
  What TagText answers, the program's and the specification's.
-/
namespace Go.Proofs.YthlgohplljcgfaaGreatDoor
open Go.RowKit
set_option linter.unusedVariables false

/-- a part behind its length -/
def tagP (p : ByteArray) : List UInt8 := M.varL p.size ++ p.data.toList
def tagL (k : Nat) (l : List ByteArray) : List UInt8 := UInt8.ofNat k :: l.flatMap tagP
def tagOk (k : Int) (l : List ByteArray) : Bool := decide ((1 ≤ k ∧ k ≤ 8) ∧ l.length ≤ 60) && l.all (fun p => decide (p.size ≤ 200))
def tagB (k : Int) (l : List ByteArray) : ByteArray := if tagOk k l then ⟨(tagL k.toNat l).toArray⟩ else ⟨#[]⟩
def tagS (k : Nat) (l : List ByteArray) : ByteArray := ⟨(tagL k l).toArray⟩

theorem tagOk_head (k : Int) (l : List ByteArray) (h : ¬ ((1 ≤ k ∧ k ≤ 8) ∧ l.length ≤ 60)) : tagOk k l = false := by
  unfold tagOk
  rw [decide_eq_false h, Bool.false_and]
theorem tagOk_part (k : Int) (l : List ByteArray) (m : Nat) (h : m < l.length) (hb : 200 < l[m].size) : tagOk k l = false := by
  unfold tagOk
  have : l.all (fun p => decide (p.size ≤ 200)) = false := by
    rw [List.all_eq_false]
    exact ⟨l[m], List.getElem_mem _, by simp; omega⟩
  rw [this, Bool.and_false]
theorem tagOk_yes (k : Int) (l : List ByteArray) (h : (1 ≤ k ∧ k ≤ 8) ∧ l.length ≤ 60) (hp : ∀ m (h : m < l.length), l[m].size ≤ 200) : tagOk k l = true := by
  unfold tagOk
  have : l.all (fun p => decide (p.size ≤ 200)) = true := by
    rw [List.all_eq_true]
    intro x hx
    obtain ⟨j, hj, rfl⟩ := List.getElem_of_mem hx
    simpa using hp j hj
  rw [this, decide_eq_true h]
  rfl
theorem tagB_no {k : Int} {l : List ByteArray} (h : tagOk k l = false) : tagB k l = ⟨#[]⟩ := by
  unfold tagB
  rw [h]
  rfl
theorem tagB_yes {k : Nat} {l : List ByteArray} (h : tagOk (k : Int) l = true) : tagB (k : Int) l = tagS k l := by
  unfold tagB
  rw [h]
  rfl

theorem tagP_len (p : ByteArray) : (tagP p).length ≤ p.size + 10 := by
  have := M.varL_len p.size
  have e : p.data.toList.length = p.size := Array.length_toList
  unfold tagP
  rw [List.length_append]
  omega
theorem tagL_step (k : Nat) (l : List ByteArray) (m : Nat) (h : m < l.length) : tagL k (l.take (m + 1)) = tagL k (l.take m) ++ tagP l[m] := by
  unfold tagL
  rw [← List.take_append_getElem h, List.flatMap_append]
  simp
theorem tagS_step (k : Nat) (l : List ByteArray) (m : Nat) (h : m < l.length) : (tagS k (l.take m) ++ ⟨(M.varL l[m].size).toArray⟩) ++ l[m] = tagS k (l.take (m + 1)) := by
  apply ByteArray.ext
  apply Array.toList_inj.1
  unfold tagS
  rw [tagL_step k l m h]
  simp [tagP, ByteArray.data_append]
theorem tagL_len (k : Nat) (l : List ByteArray) (m : Nat) (hm : m ≤ l.length) (hp : ∀ j (h : j < l.length), j < m → l[j].size ≤ 200) : (tagL k (l.take m)).length ≤ 1 + 210 * m := by
  induction m with
  | zero => simp [tagL]
  | succ m ih =>
    have h1 := ih (by omega) (fun j hj hlt => hp j hj (by omega))
    rw [tagL_step k l m (by omega), List.length_append]
    have h2 := tagP_len (l[m]'(by omega))
    have h3 := hp m (by omega) (by omega)
    omega

/-- 'string([]byte{x})' -/
theorem one_s (w : World) (x : Int) (b : UInt8) (h : x = (b.toNat : Int)) : (convert 159 9 (.slice (some ⟨w.heap.size, 0, none⟩) 1 1)).run Tryz.prog (w.alloc (.cells #[.int .u8 x] 5)) = .ok (.string ⟨[b].toArray⟩) (w.alloc (.cells #[.int .u8 x] 5)) := by
  subst h
  refine run_convert_bytes_back _ 159 9 5 ⟨w.heap.size, 0, none⟩ 1 [b] Tryz.underlying159 Tryz.underlying5 Tryz.underlying9 ?_
  intro j hj
  have h0 : j = 0 := by simp at hj; exact hj
  subst h0
  simp [Addr.add]

theorem l01Var_v (n : Nat) (V : ByteArray) (w : World) (hn : n ≤ 1000000000) (hV : (⟨(M.varL n).toArray⟩ : ByteArray) = V) :
    Calls Tryz.prog 129 #[.int .i64 n] w fun e w' => e = .returned (.string V) ∧ Below w.heap.size w w' := by
  subst hV
  exact l01Var_any n w hn

/-- what the loop of the specification's TagText holds at each round's head -/
def TgS (k : Nat) (l : List ByteArray) (w : World) (s i : Value) (wr : World) : Prop :=
  ∃ m : Nat, m ≤ l.length ∧ i = .int .i64 m ∧ s = .string (tagS k (l.take m)) ∧ Hid (∀ j (h : j < l.length), j < m → l[j].size ≤ 200) ∧ Below w.heap.size w wr

theorem pt_step {l : List ByteArray} {m : Nat} (hm : m < l.length) (hp : l[m].size ≤ 200) (h : ∀ j (h : j < l.length), j < m → l[j].size ≤ 200) : Hid (∀ j (h : j < l.length), j < m + 1 → l[j].size ≤ 200) := by
  intro j hj hlt
  rcases Nat.lt_or_ge j m with h1 | h1
  · exact h j hj h1
  · have : j = m := by omega
    subst this
    exact hp

/-- a string appended to what is owned -/
theorem wp_appStr {w : World} {ops : Array Oper} {rest : List Oper} {o : Oper} {a : Act} {Q : Exit → Act → World → Prop} (hgd : o.guard = none) (s x : Operand)
    (ho : o.op = .call { callee := .builtin .append, args := #[s, x], argTypes := #[159, 9] })
    (B : Nat) (w0 : World) (v : Value) (l : List UInt8) (hs : a.eval s = v) (hown : OB B w0 w v l) (t : ByteArray) (hx : a.eval x = .string t) (hlen : l.length + t.size ≤ 1000000000)
    (h : ∀ v' w', OB B w0 w' v' (l ++ t.data.toList) → wpList Tryz.prog ops Q rest (a.put o.dst v') w') : wpList Tryz.prog ops Q (o :: rest) a w := by
  obtain ⟨i0, hi, hz0, hz1, hz2⟩ := info_parts Tryz.info5
  refine Lib.wpList_append_own_string w hgd s x 159 9 ho B 5 i0 Tryz.underlying159 Tryz.underlying9 hi hz0 hz1 hz2 v l.length (bv l) hs hown.1 t hx (by unfold maxLen; omega) (by omega) hown.2.2 ?_
  intro v' w' h1 h2 _
  have e : t.data.toList.length = t.size := Array.length_toList
  refine h v' w' ⟨?_, hown.2.1.grown h2 hown.2.2 (fun k hk => (hown.1.lt k hk).1), Nat.le_trans hown.2.2 h2.size⟩
  rw [List.length_append, bv_append, e]
  exact h1

/-- what is owned stays so behind a call that leaves all that was there as it was -/
theorem OB.later {B : Nat} {w0 w w' : World} {v : Value} {l : List UInt8} (h : OB B w0 w v l) (hb : Below w.heap.size w w') : OB B w0 w' v l := by
  refine ⟨⟨h.1.1, ?_⟩, h.2.1.trans (hb.mono h.2.2), Nat.le_trans h.2.2 hb.size⟩
  rcases h.1.2 with hn | ⟨g, cap, cur, hv, hbg, hg, rest⟩
  · exact .inl hn
  · refine .inr ⟨g, cap, cur, hv, hbg, ?_, rest⟩
    rw [hb.block g (Array.getElem?_eq_some_iff.1 hg).1]
    exact hg

theorem OB.one (w : World) (x : Int) (b : UInt8) (h : x = (b.toNat : Int)) : OB w.heap.size w (w.alloc (.cells #[.int .u8 x] 5)) (.slice (some ⟨w.heap.size, 0, none⟩) 1 1) [b] := by
  subst h
  exact ⟨World.ownsRow_lit w #[.int .u8 (b.toNat : Int)] 1 (Nat.le_refl _) (by decide) (by simp), (Below.refl _ _).alloc (Nat.le_refl _) _, by simp⟩

/-- what the loop of tagged holds at each round's head -/
def TgI (k : Nat) (l : List ByteArray) (w : World) (v i : Value) (wr : World) : Prop :=
  ∃ m : Nat, m ≤ l.length ∧ i = .int .i64 m ∧ OB w.heap.size w wr v (tagL k (l.take m)) ∧ Hid (∀ j (h : j < l.length), j < m → l[j].size ≤ 200)

end Go.Proofs.YthlgohplljcgfaaGreatDoor
/-
  SHA-256 in plain words: rotations, the sixty-four words of a block, the rounds.
-/
namespace Go.Proofs.YthlgohplljcgfaaGreatDoor.H
set_option linter.unusedVariables false

def rotr (x : UInt32) (n : Nat) : UInt32 := UInt32.ofNat (x.toNat / 2 ^ n ||| x.toNat * 2 ^ (32 - n) % 4294967296)
def shr (x : UInt32) (n : Nat) : UInt32 := UInt32.ofNat (x.toNat / 2 ^ n)
def upd (f : Nat → UInt32) (i : Nat) (x : UInt32) : Nat → UInt32 := fun j => if j = i then x else f j

def sig0 (x : UInt32) : UInt32 := (rotr x 7 ^^^ rotr x 18) ^^^ shr x 3
def sig1 (x : UInt32) : UInt32 := (rotr x 17 ^^^ rotr x 19) ^^^ shr x 10
def wStep (f : Nat → UInt32) (i : Nat) : UInt32 := ((f (i - 16) + sig0 (f (i - 15))) + f (i - 7)) + sig1 (f (i - 2))
/-- so many words more than sixteen -/
def wMore (f : Nat → UInt32) : Nat → Nat → UInt32
  | 0 => f
  | k + 1 => upd (wMore f k) (16 + k) (wStep (wMore f k) (16 + k))
def word (b : Nat → Nat) (i : Nat) : UInt32 := UInt32.ofNat (b (4 * i) * 16777216 + b (4 * i + 1) * 65536 + b (4 * i + 2) * 256 + b (4 * i + 3))
/-- the first so many words of a block, zeros behind -/
def wHead (b : Nat → Nat) : Nat → Nat → UInt32
  | 0 => fun _ => 0
  | k + 1 => upd (wHead b k) k (word b k)
def wAll (b : Nat → Nat) : Nat → UInt32 := wMore (wHead b 16) 48

def big1 (e : UInt32) : UInt32 := (rotr e 6 ^^^ rotr e 11) ^^^ rotr e 25
def big0 (a : UInt32) : UInt32 := (rotr a 2 ^^^ rotr a 13) ^^^ rotr a 22
def ch (e f g : UInt32) : UInt32 := (e &&& f) ^^^ ((e ^^^ 4294967295) &&& g)
def maj (a b c : UInt32) : UInt32 := ((a &&& b) ^^^ (a &&& c)) ^^^ (b &&& c)
def one (s : Nat → UInt32) (k w : UInt32) : UInt32 := (((s 7 + big1 (s 4)) + ch (s 4) (s 5) (s 6)) + k) + w
def two (s : Nat → UInt32) : UInt32 := big0 (s 0) + maj (s 0) (s 1) (s 2)
def round (s : Nat → UInt32) (k w : UInt32) : Nat → UInt32
  | 0 => one s k w + two s
  | 4 => s 3 + one s k w
  | j + 1 => s j
def rounds (s : Nat → UInt32) (k w : Nat → UInt32) : Nat → Nat → UInt32
  | 0 => s
  | i + 1 => round (rounds s k w i) (k i) (w i)
def block (h : Nat → UInt32) (k : Nat → UInt32) (b : Nat → Nat) : Nat → UInt32 := fun j => h j + rounds h k (wAll b) 64 j

theorem u32_lt (x : UInt32) : x.toNat < 4294967296 := x.toNat_lt
theorem toNat_of (n : Nat) (h : n < 4294967296) : (UInt32.ofNat n).toNat = n := UInt32.toNat_ofNat_of_lt h
theorem bx (a b : UInt32) : bits .xor .u32 (a.toNat : Int) (b.toNat : Int) = ((a ^^^ b).toNat : Int) := by
  rw [u32_xor_nat _ _ (u32_lt a) (u32_lt b), UInt32.toNat_xor]
theorem ba (a b : UInt32) : bits .and .u32 (a.toNat : Int) (b.toNat : Int) = ((a &&& b).toNat : Int) := by
  rw [u32_and_nat _ _ (u32_lt a) (u32_lt b), UInt32.toNat_and]
theorem bo (a b : UInt32) : bits .or .u32 (a.toNat : Int) (b.toNat : Int) = ((a ||| b).toNat : Int) := by
  rw [u32_or_nat _ _ (u32_lt a) (u32_lt b), UInt32.toNat_or]
theorem bn (a : UInt32) : bits .xor .u32 (a.toNat : Int) 4294967295 = ((a ^^^ 4294967295).toNat : Int) := bx a 4294967295
theorem badd (a b : UInt32) : ((a.toNat : Int) + (b.toNat : Int)) % 4294967296 = ((a + b).toNat : Int) := by
  rw [UInt32.toNat_add]
  simp
theorem bshr (a : UInt32) (n : Nat) : (a.toNat : Int) / ((2 ^ n : Nat) : Int) = ((shr a n).toNat : Int) := by
  unfold shr
  rw [toNat_of]
  · simp
  · exact Nat.lt_of_le_of_lt (Nat.div_le_self _ _) (u32_lt a)
theorem brot (a : UInt32) (n : Nat) (h : n ≤ 32) : bits .or .u32 ((a.toNat : Int) / ((2 ^ n : Nat) : Int)) ((a.toNat : Int) * ((2 ^ (32 - n) : Nat) : Int) % 4294967296) = ((rotr a n).toNat : Int) := by
  have h1 : a.toNat / 2 ^ n < 4294967296 := Nat.lt_of_le_of_lt (Nat.div_le_self _ _) (u32_lt a)
  have h2 : a.toNat * 2 ^ (32 - n) % 4294967296 < 4294967296 := Nat.mod_lt _ (by omega)
  have e := u32_or_nat _ _ h1 h2
  unfold rotr
  rw [toNat_of _ (Nat.or_lt_two_pow (n := 32) h1 h2), ← e]
  simp

theorem word_eq (b0 b1 b2 b3 : Nat) (h0 : b0 < 256) (h1 : b1 < 256) (h2 : b2 < 256) (h3 : b3 < 256) :
    bits .or .u32 (bits .or .u32 (bits .or .u32 ((b0 : Int) * 16777216) ((b1 : Int) * 65536)) ((b2 : Int) * 256)) (b3 : Int) = ((b0 * 16777216 + b1 * 65536 + b2 * 256 + b3 : Nat) : Int) := by
  have e1 := u32_or_nat (b0 * 16777216) (b1 * 65536) (by omega) (by omega)
  have e2 := nat_join 24 (b0 * 16777216) (b1 * 65536) (by omega) (by omega)
  rw [e2] at e1
  have e3 := u32_or_nat (b0 * 16777216 + b1 * 65536) (b2 * 256) (by omega) (by omega)
  rw [nat_join 16 _ _ (by omega) (by omega)] at e3
  have e4 := u32_or_nat (b0 * 16777216 + b1 * 65536 + b2 * 256) b3 (by omega) (by omega)
  rw [nat_join 8 _ _ (by omega) (by omega)] at e4
  simp only [Int.natCast_add, Int.natCast_mul] at e1 e3 e4 ⊢
  simp only [Int.cast_ofNat_Int] at e1 e3 e4 ⊢
  rw [e1, e3, e4]

end Go.Proofs.YthlgohplljcgfaaGreatDoor.H
