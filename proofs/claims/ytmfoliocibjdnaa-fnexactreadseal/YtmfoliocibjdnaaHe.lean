/-
  The text of a head: the program's and the specification's answers.
-/
import Derived.Test.YtmfoliocibjdnaaHc
namespace Go.Proofs.Ytmfoliocibjdnaa
open Go.RowKit Go.BigFrame Go.Sort
set_option linter.unusedVariables false
set_option linter.unusedSimpArgs false

theorem two_str (w : World) (b c : UInt8) : (convert 71 9 (.slice (some ⟨w.heap.size, 0, none⟩) 2 2)).run Try.prog (w.alloc (.cells #[.int .u8 (b.toNat : Int), .int .u8 (c.toNat : Int)] 5)) = .ok (.string ⟨#[b, c]⟩) (w.alloc (.cells #[.int .u8 (b.toNat : Int), .int .u8 (c.toNat : Int)] 5)) := by
  refine run_convert_bytes_back (P := Try.prog) _ 71 9 5 ⟨w.heap.size, 0, none⟩ 2 [b, c] Try.underlying71 Try.underlying5 Try.underlying9 ?_
  intro j hj
  have h0 : j = 0 ∨ j = 1 := by simp at hj; omega
  rcases h0 with rfl | rfl <;> simp [Addr.add]
theorem byte_int (x : Int) (n : Nat) (hx : x = (n : Int)) (h : n ≤ 255) : x = ((UInt8.ofNat n).toNat : Int) := by
  rw [hx]
  simp
  omega
/-- what stands as a text: two bytes, and two texts behind them -/
def b2T (b c : UInt8) (r p : ByteArray) : ByteArray := ⟨#[b, c]⟩ ++ r ++ p
theorem b2T_size (b c : UInt8) (r p : ByteArray) : (b2T b c r p).size = 2 + r.size + p.size := by
  unfold b2T
  rw [ByteArray.size_append, ByteArray.size_append]
  rfl
theorem HV.txtH_b2 (x : Hd) : HV.txtH x = b2T (UInt8.ofNat x.h.toNat) (UInt8.ofNat x.e.toNat) x.r x.p := rfl

set_option maxRecDepth 100000 in
set_option maxHeartbeats 1000000 in
theorem HeadText_any (x : Hd) (w : World) : Calls Try.prog 30 #[.agg #[.int .i64 x.h, .int .i64 x.e, .string x.r, .string x.p]] w fun e w' => e = .returned (.tuple #[.string (HV.textH x), .bool (HV.okH x)]) ∧ Below w.heap.size w w' := by
  have HC : Hid (∀ W, Calls Try.prog 47 #[.agg #[.int .i64 x.h, .int .i64 x.e, .string x.r, .string x.p]] W fun e w' => e = .returned (.bool (HV.okH x)) ∧ Below W.heap.size W w') := fun W => HeadOk_any x W
  unfold HV.textH
  cases hk : HV.okH x
  · rw [hk] at HC
    obtain ⟨h, e, r, p⟩ := x
    clear hk
    have HB : Hid (Below w.heap.size w (w.alloc (.cells #[.int .i64 h, .int .i64 e, .string r, .string p] 36))) := (Below.refl _ _).alloc (Nat.le_refl _) _
    have HS : w.heap.size ≤ (w.alloc (.cells #[.int .i64 h, .int .i64 e, .string r, .string p] 36)).heap.size := HB.out.size
    rw [if_neg (by simp)]
    go_enter Try.func30, Try.ntmps30
    go_wp2_with fail
    refine (HC.out _).mono ?_
    rintro e1 w1 ⟨rfl, hb1⟩
    have HB1 := HB.out.trans (hb1.mono HS)
    clear hb1
    go_wp2
    go_ret2
    exact ⟨rfl, HB1⟩
  · rw [hk] at HC
    rw [if_pos rfl, HV.txtH_b2]
    obtain ⟨⟨h0, h1⟩, ⟨h2, h3⟩, h4, h5⟩ := HV.okH_iff.1 hk
    have h6 : x.p.size ≤ 16 := by rw [h5]; unfold HV.pw; split <;> omega
    clear hk h5
    obtain ⟨h, e, r, p⟩ := x
    simp only at *
    obtain ⟨b, hb⟩ : ∃ b, UInt8.ofNat h.toNat = b := ⟨_, rfl⟩
    obtain ⟨c, hc⟩ : ∃ c, UInt8.ofNat e.toNat = c := ⟨_, rfl⟩
    have kb : h = (b.toNat : Int) := by rw [← hb]; exact byte_int h _ (by omega) (by omega)
    have kc : e = (c.toNat : Int) := by rw [← hc]; exact byte_int e _ (by omega) (by omega)
    rw [hb, hc]
    clear hb hc
    subst kb
    subst kc
    have HB : Hid (Below w.heap.size w (w.alloc (.cells #[.int .i64 (b.toNat : Int), .int .i64 (c.toNat : Int), .string r, .string p] 36))) := (Below.refl _ _).alloc (Nat.le_refl _) _
    have HS : w.heap.size ≤ (w.alloc (.cells #[.int .i64 (b.toNat : Int), .int .i64 (c.toNat : Int), .string r, .string p] 36)).heap.size := HB.out.size
    have HZ : Hid ((w.alloc (.cells #[.int .i64 (b.toNat : Int), .int .i64 (c.toNat : Int), .string r, .string p] 36)).rangeAt w.heap.size 0 [.int .i64 (b.toNat : Int), .int .i64 (c.toNat : Int), .string r, .string p]) := range_new w [.int .i64 (b.toNat : Int), .int .i64 (c.toNat : Int), .string r, .string p] _
    have HL : w.heap.size < (w.alloc (.cells #[.int .i64 (b.toNat : Int), .int .i64 (c.toNat : Int), .string r, .string p] 36)).heap.size := by simp
    go_enter Try.func30, Try.ntmps30
    go_wp2_with fail
    refine (HC.out _).mono ?_
    rintro e1 w1 ⟨rfl, hb1⟩
    have HB1 := HB.out.trans (hb1.mono HS)
    have HR := range_kept HZ.out (hb1.block _ HL)
    have z0 : w1.cell? ⟨w.heap.size, 0, none⟩ = some (.int .i64 (b.toNat : Int)) := HR 0 _ rfl
    have z1 : w1.cell? ⟨w.heap.size, 1, none⟩ = some (.int .i64 (c.toNat : Int)) := HR 1 _ rfl
    have z2 : w1.cell? ⟨w.heap.size, 2, none⟩ = some (.string r) := HR 2 _ rfl
    have z3 : w1.cell? ⟨w.heap.size, 3, none⟩ = some (.string p) := HR 3 _ rfl
    have HLT : w.heap.size < w1.heap.size := lt_of_cell z0
    have z2' : (w1.alloc (.cells #[.int .u8 (b.toNat : Int), .int .u8 (c.toNat : Int)] 5)).cell? ⟨w.heap.size, 2, none⟩ = some (.string r) := (cell_kept (Below.heap_alloc _ _ _ HLT)).trans z2
    have z3' : (w1.alloc (.cells #[.int .u8 (b.toNat : Int), .int .u8 (c.toNat : Int)] 5)).cell? ⟨w.heap.size, 3, none⟩ = some (.string p) := (cell_kept (Below.heap_alloc _ _ _ HLT)).trans z3
    have t2 := two_str w1 b c
    have s2 : (⟨#[b, c]⟩ : ByteArray).size = 2 := rfl
    have HB2 : Hid (Below w.heap.size w (w1.alloc (.cells #[.int .u8 (b.toNat : Int), .int .u8 (c.toNat : Int)] 5))) := HB1.alloc HB1.size _
    have HT : Hid (b2T b c r p = ⟨#[b, c]⟩ ++ r ++ p) := rfl
    clear HR HZ hb1 HC HB
    generalize hS : (⟨#[b, c]⟩ : ByteArray) = S2 at *
    clear hS
    go_wp2
    go_ret2
    rw [HT.out]
    exact ⟨rfl, HB2.out⟩

set_option maxRecDepth 100000 in
set_option maxHeartbeats 1000000 in
theorem sHeadText_any (x : Hd) (w : World) : Calls Try.prog 25 #[.agg #[.int .i64 x.h, .int .i64 x.e, .string x.r, .string x.p]] w fun e w' => e = .returned (.tuple #[.string (HV.textH x), .bool (HV.okH x)]) ∧ Below w.heap.size w w' := by
  have HC : Hid (∀ W, Calls Try.prog 44 #[.agg #[.int .i64 x.h, .int .i64 x.e, .string x.r, .string x.p]] W fun e w' => e = .returned (.bool (HV.okH x)) ∧ Below W.heap.size W w') := fun W => sHeadOk_any x W
  unfold HV.textH
  cases hk : HV.okH x
  · rw [hk] at HC
    obtain ⟨h, e, r, p⟩ := x
    clear hk
    have HB : Hid (Below w.heap.size w (w.alloc (.cells #[.int .i64 h, .int .i64 e, .string r, .string p] 36))) := (Below.refl _ _).alloc (Nat.le_refl _) _
    have HS : w.heap.size ≤ (w.alloc (.cells #[.int .i64 h, .int .i64 e, .string r, .string p] 36)).heap.size := HB.out.size
    rw [if_neg (by simp)]
    go_enter Try.func25, Try.ntmps25
    go_wp2_with fail
    refine (HC.out _).mono ?_
    rintro e1 w1 ⟨rfl, hb1⟩
    have HB1 := HB.out.trans (hb1.mono HS)
    clear hb1
    go_wp2
    go_ret2
    exact ⟨rfl, HB1⟩
  · rw [hk] at HC
    rw [if_pos rfl, HV.txtH_b2]
    obtain ⟨⟨h0, h1⟩, ⟨h2, h3⟩, h4, h5⟩ := HV.okH_iff.1 hk
    have h6 : x.p.size ≤ 16 := by rw [h5]; unfold HV.pw; split <;> omega
    clear hk h5
    obtain ⟨h, e, r, p⟩ := x
    simp only at *
    obtain ⟨b, hb⟩ : ∃ b, UInt8.ofNat h.toNat = b := ⟨_, rfl⟩
    obtain ⟨c, hc⟩ : ∃ c, UInt8.ofNat e.toNat = c := ⟨_, rfl⟩
    have kb : h = (b.toNat : Int) := by rw [← hb]; exact byte_int h _ (by omega) (by omega)
    have kc : e = (c.toNat : Int) := by rw [← hc]; exact byte_int e _ (by omega) (by omega)
    rw [hb, hc]
    clear hb hc
    subst kb
    subst kc
    have HB : Hid (Below w.heap.size w (w.alloc (.cells #[.int .i64 (b.toNat : Int), .int .i64 (c.toNat : Int), .string r, .string p] 36))) := (Below.refl _ _).alloc (Nat.le_refl _) _
    have HS : w.heap.size ≤ (w.alloc (.cells #[.int .i64 (b.toNat : Int), .int .i64 (c.toNat : Int), .string r, .string p] 36)).heap.size := HB.out.size
    have HZ : Hid ((w.alloc (.cells #[.int .i64 (b.toNat : Int), .int .i64 (c.toNat : Int), .string r, .string p] 36)).rangeAt w.heap.size 0 [.int .i64 (b.toNat : Int), .int .i64 (c.toNat : Int), .string r, .string p]) := range_new w [.int .i64 (b.toNat : Int), .int .i64 (c.toNat : Int), .string r, .string p] _
    have HL : w.heap.size < (w.alloc (.cells #[.int .i64 (b.toNat : Int), .int .i64 (c.toNat : Int), .string r, .string p] 36)).heap.size := by simp
    go_enter Try.func25, Try.ntmps25
    go_wp2_with fail
    refine (HC.out _).mono ?_
    rintro e1 w1 ⟨rfl, hb1⟩
    have HB1 := HB.out.trans (hb1.mono HS)
    have HR := range_kept HZ.out (hb1.block _ HL)
    have z0 : w1.cell? ⟨w.heap.size, 0, none⟩ = some (.int .i64 (b.toNat : Int)) := HR 0 _ rfl
    have z1 : w1.cell? ⟨w.heap.size, 1, none⟩ = some (.int .i64 (c.toNat : Int)) := HR 1 _ rfl
    have z2 : w1.cell? ⟨w.heap.size, 2, none⟩ = some (.string r) := HR 2 _ rfl
    have z3 : w1.cell? ⟨w.heap.size, 3, none⟩ = some (.string p) := HR 3 _ rfl
    have HLT : w.heap.size < w1.heap.size := lt_of_cell z0
    have z2' : (w1.alloc (.cells #[.int .u8 (b.toNat : Int), .int .u8 (c.toNat : Int)] 5)).cell? ⟨w.heap.size, 2, none⟩ = some (.string r) := (cell_kept (Below.heap_alloc _ _ _ HLT)).trans z2
    have z3' : (w1.alloc (.cells #[.int .u8 (b.toNat : Int), .int .u8 (c.toNat : Int)] 5)).cell? ⟨w.heap.size, 3, none⟩ = some (.string p) := (cell_kept (Below.heap_alloc _ _ _ HLT)).trans z3
    have t2 := two_str w1 b c
    have s2 : (⟨#[b, c]⟩ : ByteArray).size = 2 := rfl
    have HB2 : Hid (Below w.heap.size w (w1.alloc (.cells #[.int .u8 (b.toNat : Int), .int .u8 (c.toNat : Int)] 5))) := HB1.alloc HB1.size _
    have HT : Hid (b2T b c r p = ⟨#[b, c]⟩ ++ r ++ p) := rfl
    clear HR HZ hb1 HC HB
    generalize hS : (⟨#[b, c]⟩ : ByteArray) = S2 at *
    clear hS
    go_wp2
    go_ret2
    rw [HT.out]
    exact ⟨rfl, HB2.out⟩

end Go.Proofs.Ytmfoliocibjdnaa
