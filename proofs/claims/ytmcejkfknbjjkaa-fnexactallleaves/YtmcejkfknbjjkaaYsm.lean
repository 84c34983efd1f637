/-
  Rows of rows of leaves compared and marked by the laws' own helpers.
-/
import Derived.Test.YtmcejkfknbjjkaaYsz
import Derived.Lib.QuietBelow
namespace Go.Proofs.Ytmcejkfknbjjkaa
open Go.RowKit Go.BigFrame Go.Sort
set_option linter.unusedVariables false
set_option linter.unusedSimpArgs false

set_option maxRecDepth 100000 in
set_option maxHeartbeats 1000000 in
theorem eqLeafSS_yes (u v : Value) (ga oa gb ob : Nat) (P : List (List Le)) (w : World) (hu : PS w u ga oa P) (hv : PS w v gb ob P) :
    Calls Try.prog 9 #[u, v] w fun e w' => e = .returned (.bool true) ∧ Below w.heap.size w w' := by
  have HU : Hid (PS w u ga oa P) := hu
  have HV : Hid (PS w v gb ob P) := hv
  obtain ⟨a, cap, rfl, hl, hA, _⟩ := hu
  obtain ⟨b, cap2, rfl, _, hB, _⟩ := hv
  obtain ⟨n, hn⟩ : ∃ n, P.length = n := ⟨_, rfl⟩
  have HA : Hid (0 < n → a = some ⟨ga, oa, none⟩ ∧ b = some ⟨gb, ob, none⟩) := by rw [← hn]; exact fun h => ⟨(hA h).1, (hB h).1⟩
  have HN : Hid (P.length = n) := hn
  rw [hn] at hl HU HV ⊢
  clear hA hB hn
  go_enter Try.func9, Try.ntmps9
  go_wp2
  go_loopw [5] (fun i wr => ElR n w i wr) (fun i _ => n - (intOf i).toNat)
  case atStart => exact ⟨0, by omega, rfl, Below.refl _ _⟩
  case round =>
    obtain ⟨m, hm, rfl, hbel⟩ := hrel
    by_cases hlt : m < n
    · obtain ⟨ea, eb⟩ := HA.out (by omega)
      subst ea
      subst eb
      have hmP : m < P.length := by rw [HN.out]; exact hlt
      obtain ⟨a1, c1, g1, o1, d1, r1⟩ := (HU.out.later hbel).at m hmP
      obtain ⟨a2, c2, g2, o2, d2, r2⟩ := (HV.out.later hbel).at m hmP
      have he : ∀ W, Below wr.heap.size wr W → Calls Try.prog 8 #[.slice a1 P[m].length c1, .slice a2 P[m].length c2] W fun e w' => e = .returned (.bool true) ∧ Below W.heap.size W w' := fun W hW => eqLeafS_yes _ _ g1 o1 g2 o2 P[m] W (r1.later hW) (r2.later hW)
      have i1 : (m : Int) < (n : Int) := by omega
      have i2 : (0 : Int) ≤ (m : Int) := by omega
      generalize P[m] = p at *
      generalize p.length = np at *
      clear HU HV HA r1 r2
      go_wp2
      have kq0 := cell_regrown (w := wr) d1
      have kq1 := cell_regrown (w := wr) d2
      have cq0 := fun d os => Calls.regrown_of (w := wr) (d := d) (os := os) (he _ (below_regrown wr d os))
      refine wp_region_quiet_below (by kernel_rfl) (by kernel_rfl) ?_
      repeat (go_big_quiet_step (first | exact cq0 _ _))
      refine wpQuiet_nil ?_
      rintro _ ⟨⟨dq, osq⟩, rfl⟩
      have hb6 := below_regrown (wr) dq osq
      generalize grow (redrawn (wr) dq) osq = w6 at *
      clear kq0 kq1 cq0
      go_wp2
      go_roundw
      case rel => exact ⟨m + 1, by omega, by go_num, hbel.trans (hb6.mono hbel.size)⟩
      case measure => simp [intOf]; omega
    · have hme : m = n := by omega
      subst hme
      clear HU HV HA
      go_wp2
      go_ret
      exact ⟨rfl, hbel⟩

/-- all but these blocks is as it was -/
def ButG (G : List Nat) (w w' : World) : Prop := w'.os = w.os ∧ w'.tape = w.tape ∧ w'.output = w.output ∧ w.heap.size ≤ w'.heap.size ∧ ∀ i, i < w.heap.size → i ∉ G → w'.heap[i]? = w.heap[i]?

theorem RW.butG {G : List Nat} {w w' : World} {v : Value} {g : Nat} {l : List Le} (h : RW 2 lcs w v g l) (hb : ButG G w w') (hne : 0 < l.length → g ∉ G) : RW 2 lcs w' v g l := by
  obtain ⟨⟨a, c, hv, hl, hA, hc⟩, ht⟩ := h
  have hk : 0 < l.length → w'.heap[g]? = w.heap[g]? := fun hp => hb.2.2.2.2 g (hA hp).2 (hne hp)
  exact ⟨⟨a, c, hv, hl, fun hp => ⟨(hA hp).1, Nat.lt_of_lt_of_le (hA hp).2 hb.2.2.2.1⟩, fun j hj => range_kept (hc j hj) (hk (by omega))⟩, fun j hj => there_kept (ht j hj) (hk (by omega))⟩
theorem ButG.below {G : List Nat} {B : Nat} {w0 w w' : World} (hb : ButG G w w') (h : Below B w0 w) (hB : B ≤ w.heap.size) (hG : ∀ b ∈ G, B ≤ b) : Below B w0 w' :=
  h.trans ⟨hb.1, hb.2.1, hb.2.2.1, hb.2.2.2.1, fun k hk => hb.2.2.2.2 k (by omega) (fun hm => by have := hG k hm; omega)⟩
theorem ButG.grown {G : List Nat} {w w1 w2 : World} {g n : Nat} (h : ButG G w w1) (hg : w1.grownBy w2 (rowF g n)) (hm : g ∈ G) : ButG G w w2 :=
  ⟨hg.os.trans h.1, hg.tape.trans h.2.1, hg.output.trans h.2.2.1, Nat.le_trans h.2.2.2.1 hg.size, fun i hi hn => (hg.block i (Nat.lt_of_lt_of_le hi h.2.2.2.1) (rowF_ne fun _ e => hn (by rw [e]; exact hm))).trans (h.2.2.2.2 i hi hn)⟩

def MpR (w : World) (G : List Nat) (P : List (List Le)) (x i : Value) (wr : World) : Prop := ∃ m : Nat, m ≤ P.length ∧ i = .int .i64 m ∧ x = .int .i64 (1 + 2 * (P.take m).flatten.length : Nat) ∧ Hid (ButG G w wr ∧ ∀ j (h : j < P.length) (hG : j < G.length), m ≤ j → RW 2 lcs wr (.slice (some ⟨G[j], 0, none⟩) P[j].length P[j].length) G[j] P[j])

set_option maxRecDepth 100000 in
set_option maxHeartbeats 1000000 in
theorem markLeafSS_any (B go : Nat) (G : List Nat) (P : List (List Le)) (n : Nat) (w : World) (hx : XW B w go G P) (hn : P.length = n) (hfl : flatN P ≤ 1048576) :
    Calls Try.prog 10 #[.slice (some ⟨go, 0, none⟩) n n, .int .i64 1] w fun e w' => ∃ K : Int, e = .returned (.int .i64 K) ∧ 0 ≤ K ∧ ButG G w w' := by
  have HX : Hid (XW B w go G P ∧ P.length = n ∧ P.flatten.length ≤ 1048576) := ⟨hx, hn, hfl⟩
  have hl : n ≤ 1100000 := by rw [← hn]; exact hx.2.1
  have HST : Hid (MpR w G P (.int .i64 1) (.int .i64 0) w) := ⟨0, by omega, rfl, rfl, ⟨rfl, rfl, rfl, Nat.le_refl _, fun _ _ _ => rfl⟩, fun j h hG _ => (hx.2.2.2.2.2.2 j h hG).2⟩
  clear hx hn hfl
  go_enter Try.func10, Try.ntmps10
  go_wp2
  go_loopw [1, 5] (fun x i wr => MpR w G P x i wr) (fun _ i _ => n - (intOf i).toNat)
  case atStart => exact HST.out
  case round =>
    obtain ⟨m, hm, rfl, rfl, HI⟩ := hrel
    clear HST
    rw [HX.out.2.1] at hm
    by_cases hlt : m < n
    · have hmP : m < P.length := by rw [HX.out.2.1]; exact hlt
      have hmG : m < G.length := by rw [HX.out.1.1]; exact hmP
      have hgo := HX.out.1.2.2.2.1
      have c0 : wr.cell? ⟨go, m, none⟩ = some (.slice (some ⟨G[m], 0, none⟩) P[m].length P[m].length) := by
        have h1 := (HX.out.1.2.2.2.2.2.2 m hmP hmG).1
        refine (World.cell?_of_block (w := w) (w' := wr) (a := ⟨go, m, none⟩) ?_).trans h1
        exact HI.out.1.2.2.2.2 go hgo (fun hm => (HX.out.1.2.2.2.2.2.1 go hm).2.2 rfl)
      have hst := congrArg List.length (parts_step hmP)
      rw [List.length_append] at hst
      have hpl := parts_len hmP
      have hf := HX.out.2.2
      have hmk := markLeafS_any _ G[m] P[m] ((1 + 2 * (P.take m).flatten.length : Nat) : Int) (1 + 2 * (P.take m).flatten.length) wr rfl (HI.out.2 m hmP hmG (Nat.le_refl _)) (by omega) (by omega)
      have HNX : Hid (∀ W, wr.grownBy W (rowF G[m] P[m].length) → MpR w G P (.int .i64 (1 + 2 * (P.take m).flatten.length + 2 * P[m].length : Nat)) (.int .i64 ((m : Int) + 1)) W) := fun W hW => by
        refine ⟨m + 1, by omega, by simp, by rw [hst]; congr 2; omega, HI.out.1.grown hW (List.getElem_mem _), fun j hj hG hmj => ?_⟩
        refine (HI.out.2 j hj hG (by omega)).grown hW (fun _ => rowF_ne fun _ => ?_)
        have := List.pairwise_iff_getElem.1 HX.out.1.2.2.2.2.1 m j hmG hG (by omega)
        omega
      have i1 : (m : Int) < (n : Int) := by omega
      have i2 : (0 : Int) ≤ (m : Int) := by omega
      generalize G[m] = q at *
      generalize P[m] = p at *
      obtain ⟨K0, hK0⟩ : ∃ K0 : Int, ((1 + 2 * (P.take m).flatten.length : Nat) : Int) = K0 := ⟨_, rfl⟩
      obtain ⟨K1, hK1⟩ : ∃ K1 : Int, ((1 + 2 * (P.take m).flatten.length + 2 * p.length : Nat) : Int) = K1 := ⟨_, rfl⟩
      rw [hK1] at HNX
      rw [hK0] at hmk ⊢
      rw [hK1] at hmk
      generalize p.length = np at *
      clear HI hst hK0 hK1 hpl
      go_wp2_with fail
      refine hmk.mono ?_
      rintro e w1 ⟨rfl, hr1, hg1⟩
      have HK : Hid (MpR w G P (.int .i64 K1) (.int .i64 ((m : Int) + 1)) w1) := HNX.out w1 hg1
      clear hmk HNX hr1 hg1
      go_wp2
      go_roundw
      case rel => exact HK.out
      case measure => simp [intOf]; omega
    · have i1 : ¬ (m : Int) < (n : Int) := by omega
      have HF : Hid (∃ K : Int, Ending.returned (.int .i64 (1 + 2 * (P.take m).flatten.length : Nat)) = .returned (.int .i64 K) ∧ 0 ≤ K ∧ ButG G w wr) := ⟨_, rfl, by omega, HI.out.1⟩
      obtain ⟨K0, hK0⟩ : ∃ K0 : Int, ((1 + 2 * (P.take m).flatten.length : Nat) : Int) = K0 := ⟨_, rfl⟩
      rw [hK0] at HF ⊢
      clear HI hK0
      go_wp2
      go_ret
      exact HF.out

end Go.Proofs.Ytmcejkfknbjjkaa
