/-
  Texts laid together: Hg, Sec, Ta, Pub.
-/
import Derived.Test.YtgkfelhjbeegaaaGreatDoorV13
import Derived.Test.YtgkfelhjbeegaaaGreatDoorV26
import Derived.Test.YtgkfelhjbeegaaaGreatDoorV03
import Derived.Test.YtgkfelhjbeegaaaGreatDoorV22
/-
  The hash of a head: the program's and the specification's answers.
-/
namespace Go.Proofs.YtgkfelhjbeegaaaGreatDoor
open Go.RowKit Go.BigFrame Go.Sort
set_option linter.unusedVariables false
set_option linter.unusedSimpArgs false

/-- the hash of a head, when it is right -/
def HV.hashH (x : Hd) : ByteArray := if HV.okH x = true then hashB 4 [HV.txtH x] 16 else ⟨#[]⟩

set_option maxRecDepth 100000 in
set_option maxHeartbeats 1000000 in
theorem HeadHash_any (x : Hd) (w : World) (hT : Tb w) : Calls Tryz.prog 121 #[.agg #[.int .i64 x.h, .int .i64 x.e, .string x.r, .string x.p]] w fun e w' => e = .returned (.string (HV.hashH x)) ∧ Below w.heap.size w w' := by
  have HC : Hid (∀ W, Calls Tryz.prog 137 #[.agg #[.int .i64 x.h, .int .i64 x.e, .string x.r, .string x.p]] W fun e w' => e = .returned (.tuple #[.string (HV.textH x), .bool (HV.okH x)]) ∧ Below W.heap.size W w') := fun W => HeadText_any x W
  have HTB : Hid (Tb w) := hT
  unfold HV.hashH
  unfold HV.textH at HC
  clear hT
  generalize HV.txtH x = t at *
  generalize HV.okH x = b at *
  obtain ⟨h, e, r, p⟩ := x
  have HB : Hid (Below w.heap.size w (w.alloc (.cells #[.int .i64 h, .int .i64 e, .string r, .string p] 46))) := (Below.refl _ _).alloc (Nat.le_refl _) _
  cases b
  · rw [if_neg (by simp)] at HC ⊢
    go_enter Tryz.func121, Tryz.ntmps121
    go_wp2_with fail
    refine (HC.out _).mono ?_
    rintro e1 w1 ⟨rfl, hb1⟩
    have HB1 : Hid (Below w.heap.size w w1) := HB.out.trans (hb1.mono HB.out.size)
    clear HC hb1 HB HTB
    go_wp2
    go_ret
    exact ⟨rfl, HB1.out⟩
  · rw [if_pos rfl] at HC ⊢
    go_enter Tryz.func121, Tryz.ntmps121
    go_wp2_with fail
    refine (HC.out _).mono ?_
    rintro e1 w1 ⟨rfl, hb1⟩
    have HB1 : Hid (Below w.heap.size w w1) := HB.out.trans (hb1.mono HB.out.size)
    have CT := taggedHash_w 16 4 [t] 1 #[.string t] w1 w1.heap.size rfl rfl (by omega) rfl (HTB.out.later HB1.out)
    clear HC hb1 HB HTB
    go_wp2_with fail
    refine CT.out.mono ?_
    rintro e2 w2 ⟨rfl, hb2⟩
    have HB2 : Hid (Below w.heap.size w w2) := HB1.out.trans (hb2.mono HB1.out.size)
    clear CT
    go_wp2
    go_ret
    exact ⟨rfl, HB2.out⟩

set_option maxRecDepth 100000 in
set_option maxHeartbeats 1000000 in
theorem sHeadHash_any (x : Hd) (w : World) : Calls Tryz.prog 44 #[.agg #[.int .i64 x.h, .int .i64 x.e, .string x.r, .string x.p]] w fun e w' => e = .returned (.string (HV.hashH x)) ∧ Below w.heap.size w w' := by
  have HC : Hid (∀ W, Calls Tryz.prog 73 #[.agg #[.int .i64 x.h, .int .i64 x.e, .string x.r, .string x.p]] W fun e w' => e = .returned (.tuple #[.string (HV.textH x), .bool (HV.okH x)]) ∧ Below W.heap.size W w') := fun W => sHeadText_any x W
  unfold HV.hashH
  unfold HV.textH at HC
  generalize HV.txtH x = t at *
  generalize HV.okH x = b at *
  obtain ⟨h, e, r, p⟩ := x
  have HB : Hid (Below w.heap.size w (w.alloc (.cells #[.int .i64 h, .int .i64 e, .string r, .string p] 46))) := (Below.refl _ _).alloc (Nat.le_refl _) _
  cases b
  · rw [if_neg (by simp)] at HC ⊢
    go_enter Tryz.func44, Tryz.ntmps44
    go_wp2_with fail
    refine (HC.out _).mono ?_
    rintro e1 w1 ⟨rfl, hb1⟩
    have HB1 : Hid (Below w.heap.size w w1) := HB.out.trans (hb1.mono HB.out.size)
    clear HC hb1 HB
    go_wp2
    go_ret
    exact ⟨rfl, HB1.out⟩
  · rw [if_pos rfl] at HC ⊢
    go_enter Tryz.func44, Tryz.ntmps44
    go_wp2_with fail
    refine (HC.out _).mono ?_
    rintro e1 w1 ⟨rfl, hb1⟩
    have HB1 : Hid (Below w.heap.size w w1) := HB.out.trans (hb1.mono HB.out.size)
    have CT := sTagHash_w 16 4 [t] 1 #[.string t] w1 w1.heap.size rfl rfl (by omega) rfl
    clear HC hb1 HB
    go_wp2_with fail
    refine CT.out.mono ?_
    rintro e2 w2 ⟨rfl, hb2⟩
    have HB2 : Hid (Below w.heap.size w w2) := HB1.out.trans (hb2.mono HB1.out.size)
    clear CT
    go_wp2
    go_ret
    exact ⟨rfl, HB2.out⟩

end Go.Proofs.YtgkfelhjbeegaaaGreatDoor
/-
  What SecretOf, LockOf and SignBitsOf answer, the program's and the specification's.
-/
namespace Go.Proofs.YtgkfelhjbeegaaaGreatDoor
open Go.RowKit Go.BigFrame
set_option linter.unusedVariables false

theorem hashB_size {k : Int} {l : List ByteArray} (h : tagOk k l = true) : (hashB k l 16).size = 16 := by
  unfold hashB cutH
  rw [if_pos h, if_pos (by omega)]
  unfold cutB
  have := digB_size (tagB k l)
  simp [ByteArray.size_extract]
  omega
theorem hashB_le (k : Int) (l : List ByteArray) : (hashB k l 16).size ≤ 16 := by
  cases h : tagOk k l with
  | true => rw [hashB_size h]; omega
  | false =>
    unfold hashB
    rw [h]
    show 0 ≤ 16
    omega

theorem taggedHash_lit (k : Int) (l : List ByteArray) (n : Nat) (cs : Array Value) (w : World) (g : Nat) (hg : w.heap.size = g) (hn : l.length = n) (hl : n ≤ 60) (hc : cs = (svs l).toArray) (hT : Tb w) :
    Hid (Calls Tryz.prog 111 #[.int .i64 16, .int .i64 k, .slice (some ⟨g, 0, none⟩) n n] (w.alloc (.cells cs 9)) fun e w' => e = .returned (.string (hashB k l 16)) ∧ Below w.heap.size w w') := by
  subst hg
  have hT' := hT.alloc (.cells cs 9)
  exact (taggedHash_any 16 k _ w.heap.size 0 l (w.alloc (.cells cs 9)) (ss_lits w l cs n hn (by omega) hc) hT'.1 hT'.2).mono fun e w' ⟨he, hb⟩ => ⟨he, ((Below.refl _ _).alloc (Nat.le_refl _) _).trans (hb.mono (by simp))⟩
theorem sTagHash_lit (k : Int) (l : List ByteArray) (n : Nat) (cs : Array Value) (w : World) (g : Nat) (hg : w.heap.size = g) (hn : l.length = n) (hl : n ≤ 60) (hc : cs = (svs l).toArray) :
    Hid (Calls Tryz.prog 46 #[.int .i64 k, .slice (some ⟨g, 0, none⟩) n n, .int .i64 16] (w.alloc (.cells cs 9)) fun e w' => e = .returned (.string (hashB k l 16)) ∧ Below w.heap.size w w') := by
  subst hg
  exact (sTagHash_any k _ 16 w.heap.size 0 l (w.alloc (.cells cs 9)) (ss_lits w l cs n hn (by omega) hc)).mono fun e w' ⟨he, hb⟩ => ⟨he, ((Below.refl _ _).alloc (Nat.le_refl _) _).trans (hb.mono (by simp))⟩

/-- what LockOf is -/
def lockB (s : ByteArray) : ByteArray := hashB 6 [s] 16

theorem sLockOf_any (s : ByteArray) (w : World) :
    Calls Tryz.prog 72 #[.string s] w fun e w' => e = .returned (.string (lockB s)) ∧ Below w.heap.size w w' := by
  have hc := sTagHash_lit 6 [s] 1 #[.string s] w _ rfl rfl (by omega) rfl
  unfold lockB
  generalize hashB 6 [s] 16 = T at *
  go_enter Tryz.func72, Tryz.ntmps72
  go_wp2_with fail
  refine hc.out.mono ?_
  rintro e w1 ⟨rfl, hb1⟩
  go_wp2
  go_ret
  exact ⟨rfl, hb1⟩

/-- what SignBitsOf is -/
def bitsB (s : ByteArray) : Nat := if s.size ≤ 200 then (byte0 (hashB 7 [s] 16)).toNat else 0
theorem bitsB_lt (s : ByteArray) : bitsB s < 256 := by
  unfold bitsB
  split
  · exact UInt8.toNat_lt _
  · omega
theorem tagOk_one (k : Int) (s : ByteArray) (hk : 1 ≤ k ∧ k ≤ 8) : tagOk k [s] = decide (s.size ≤ 200) := by
  unfold tagOk
  rw [decide_eq_true ⟨hk, by simp⟩]
  simp

theorem SignBitsOf_any (s : ByteArray) (w : World) (hT : Tb w) :
    Calls Tryz.prog 146 #[.string s] w fun e w' => e = .returned (.int .i64 (bitsB s : Int)) ∧ Below w.heap.size w w' := by
  have hc := taggedHash_lit 7 [s] 1 #[.string s] w _ rfl rfl (by omega) rfl hT
  have ht := tagOk_one 7 s (by omega)
  unfold bitsB
  by_cases h : s.size ≤ 200
  · rw [if_pos h]
    rw [decide_eq_true h] at ht
    have hz := hashB_size ht
    generalize hashB 7 [s] 16 = D at *
    have hh := run_byte0 D (by omega)
    have hne : (D.toList == []) = false := by
      rw [beq_eq_false_iff_ne]
      intro he
      have : D.toList.length = 0 := by rw [he]; rfl
      rw [ByteArray.toList_eq, Array.length_toList] at this
      have h2 : D.data.size = D.size := rfl
      omega
    generalize byte0 D = b at *
    have hb : b.toNat < 256 := b.toNat_lt
    clear hT ht
    go_enter Tryz.func146, Tryz.ntmps146
    go_wp2_with fail
    refine hc.out.mono ?_
    rintro e w1 ⟨rfl, hb1⟩
    clear hc
    go_wp2
    go_ret
    exact ⟨rfl, hb1⟩
  · rw [if_neg h]
    rw [decide_eq_false h] at ht
    have hz : hashB 7 [s] 16 = ⟨#[]⟩ := by unfold hashB; rw [ht]; rfl
    rw [hz] at hc
    clear hT ht hz
    go_enter Tryz.func146, Tryz.ntmps146
    go_wp2_with fail
    refine hc.out.mono ?_
    rintro e w1 ⟨rfl, hb1⟩
    clear hc
    go_wp2
    go_ret
    exact ⟨rfl, hb1⟩
theorem sSignBitsOf_any (s : ByteArray) (w : World) :
    Calls Tryz.prog 71 #[.string s] w fun e w' => e = .returned (.int .i64 (bitsB s : Int)) ∧ Below w.heap.size w w' := by
  have hc := sTagHash_lit 7 [s] 1 #[.string s] w _ rfl rfl (by omega) rfl
  have ht := tagOk_one 7 s (by omega)
  unfold bitsB
  by_cases h : s.size ≤ 200
  · rw [if_pos h]
    rw [decide_eq_true h] at ht
    have hz := hashB_size ht
    generalize hashB 7 [s] 16 = D at *
    have hh := run_byte0 D (by omega)
    have hne : (D.toList == []) = false := by
      rw [beq_eq_false_iff_ne]
      intro he
      have : D.toList.length = 0 := by rw [he]; rfl
      rw [ByteArray.toList_eq, Array.length_toList] at this
      have h2 : D.data.size = D.size := rfl
      omega
    generalize byte0 D = b at *
    have hb : b.toNat < 256 := b.toNat_lt
    clear ht
    go_enter Tryz.func71, Tryz.ntmps71
    go_wp2_with fail
    refine hc.out.mono ?_
    rintro e w1 ⟨rfl, hb1⟩
    clear hc
    go_wp2
    go_ret
    exact ⟨rfl, hb1⟩
  · rw [if_neg h]
    rw [decide_eq_false h] at ht
    have hz : hashB 7 [s] 16 = ⟨#[]⟩ := by unfold hashB; rw [ht]; rfl
    rw [hz] at hc
    clear ht hz
    go_enter Tryz.func71, Tryz.ntmps71
    go_wp2_with fail
    refine hc.out.mono ?_
    rintro e w1 ⟨rfl, hb1⟩
    clear hc
    go_wp2
    go_ret
    exact ⟨rfl, hb1⟩

theorem inPool_any (x : Int) (w : World) : Calls Tryz.prog 150 #[.int .i64 x] w fun e w' => e = .returned (.bool (decide (0 ≤ x ∧ x ≤ 15))) ∧ w' = w := by
  by_cases h1 : x < 0
  · have hd : decide (0 ≤ x ∧ x ≤ 15) = false := by simp; omega
    rw [hd]
    go_enter Tryz.func150, Tryz.ntmps150
    go_wp2
    go_ret
    exact ⟨rfl, rfl⟩
  · by_cases h2 : x < 16
    · have hd : decide (0 ≤ x ∧ x ≤ 15) = true := by simp; omega
      rw [hd]
      go_enter Tryz.func150, Tryz.ntmps150
      go_wp2
      go_ret
      exact ⟨rfl, rfl⟩
    · have hd : decide (0 ≤ x ∧ x ≤ 15) = false := by simp; omega
      rw [hd]
      go_enter Tryz.func150, Tryz.ntmps150
      go_wp2
      go_ret
      exact ⟨rfl, rfl⟩

/-- three bytes -/
def trip (a b c : Nat) : ByteArray := ⟨[UInt8.ofNat a, UInt8.ofNat b, UInt8.ofNat c].toArray⟩
theorem trip_size (a b c : Nat) : (trip a b c).size = 3 := rfl
theorem three_s (w : World) (a b c : Nat) (ha : a ≤ 255) (hb : b ≤ 255) (hc : c ≤ 255) : (convert 131 9 (.slice (some ⟨w.heap.size, 0, none⟩) 3 3)).run Tryz.prog (w.alloc (.cells #[.int .u8 (a : Int), .int .u8 (b : Int), .int .u8 (c : Int)] 5)) = .ok (.string (trip a b c)) (w.alloc (.cells #[.int .u8 (a : Int), .int .u8 (b : Int), .int .u8 (c : Int)] 5)) := by
  refine run_convert_bytes_back _ 131 9 5 ⟨w.heap.size, 0, none⟩ 3 [UInt8.ofNat a, UInt8.ofNat b, UInt8.ofNat c] Tryz.underlying131 Tryz.underlying5 Tryz.underlying9 ?_
  intro j hj
  have h0 : j = 0 ∨ j = 1 ∨ j = 2 := by simp at hj; omega
  rcases h0 with rfl | rfl | rfl
  · simp [Addr.add]; omega
  · simp [Addr.add]; omega
  · simp [Addr.add]; omega

/-- what SecretOf is at a place, a bit and a val -/
def secB (s : ByteArray) (a b c : Nat) : ByteArray := hashB 5 [s, trip a b c] 16
/-- what SecretOf is at any argument -/
def secA (s : ByteArray) (a b c : Int) : ByteArray := if s.size ≤ 100 ∧ (0 ≤ a ∧ a ≤ 15) ∧ (0 ≤ b ∧ b ≤ 7) ∧ (0 ≤ c ∧ c ≤ 1) then secB s a.toNat b.toNat c.toNat else ⟨#[]⟩
theorem secB_size (s : ByteArray) (a b c : Nat) (h : s.size ≤ 100) : (secB s a b c).size = 16 := by
  unfold secB
  refine hashB_size ?_
  refine tagOk_yes _ _ ⟨by omega, by simp⟩ ?_
  intro m hm
  have h0 : m = 0 ∨ m = 1 := by simp at hm; omega
  rcases h0 with rfl | rfl
  · show s.size ≤ 200
    omega
  · show (trip a b c).size ≤ 200
    rw [trip_size]
    omega
theorem secA_no {s : ByteArray} {a b c : Int} (h : ¬ (s.size ≤ 100 ∧ (0 ≤ a ∧ a ≤ 15) ∧ (0 ≤ b ∧ b ≤ 7) ∧ (0 ≤ c ∧ c ≤ 1))) : secA s a b c = ⟨#[]⟩ := by
  unfold secA
  rw [if_neg h]
theorem secA_yes {s : ByteArray} {a b c : Nat} (h1 : s.size ≤ 100) (h2 : a ≤ 15) (h3 : b ≤ 7) (h4 : c ≤ 1) : secA s a b c = secB s a b c := by
  unfold secA
  rw [if_pos ⟨h1, by omega, by omega, by omega⟩]
  simp

end Go.Proofs.YtgkfelhjbeegaaaGreatDoor
/-
  Arrays of texts by value: made, loaded, stored whole, sliced.
-/
namespace Go.Proofs.YtgkfelhjbeegaaaGreatDoor
open Go.RowKit
set_option linter.unusedVariables false

/-- block g is just the array of the texts l -/
def TA (w : World) (g t : Nat) (l : List ByteArray) : Prop := w.heap[g]? = some (.cells (svs l).toArray t (0, 0))
theorem TA.cell {w : World} {g t : Nat} {l : List ByteArray} (h : TA w g t l) (j : Nat) (hj : j < l.length) : w.cell? ⟨g, j, none⟩ = some (.string l[j]) := by
  rw [cell_of_row w g j _ t (0, 0) h]
  simp [svs, List.getElem?_eq_getElem hj]
theorem TA.frozen {w : World} {g t : Nat} {l : List ByteArray} (h : TA w g t l) (j : Nat) : w.frozen? ⟨g, j, none⟩ = false := by
  simp [World.frozen?, show w.heap[g]? = some (.cells (svs l).toArray t (0, 0)) from h]
theorem TA.lt {w : World} {g t : Nat} {l : List ByteArray} (h : TA w g t l) : g < w.heap.size := (Array.getElem?_eq_some_iff.1 h).1
theorem TA.set {w : World} {g t : Nat} {l : List ByteArray} (h : TA w g t l) (i : Nat) (x : ByteArray) : TA (w.setCell ⟨g, i, none⟩ (.string x)) g t (l.set i x) := by
  unfold TA at *
  rw [heap_setCell_same w g i _ t _ h]
  congr 2
  simp [svs, List.map_set]
theorem TA.keep {w w' : World} {g t : Nat} {l : List ByteArray} (h : TA w g t l) (he : w'.heap[g]? = w.heap[g]?) : TA w' g t l := by
  unfold TA at *
  rw [he, h]
theorem TA.below {w w' : World} {g t B : Nat} {l : List ByteArray} (h : TA w g t l) (hb : Below B w w') (hg : g < B) : TA w' g t l := h.keep (hb.block g hg)
theorem TA.later {w w' : World} {g t : Nat} {l : List ByteArray} (h : TA w g t l) (hb : Below w.heap.size w w') : TA w' g t l := h.below hb h.lt
theorem TA.ss {w : World} {g t : Nat} {l : List ByteArray} (h : TA w g t l) (cap n : Nat) (hn : l.length = n) (hl : n ≤ 1100000) : SS w (.slice (some ⟨g, 0, none⟩) n cap) g 0 l := by
  subst hn
  exact ⟨_, cap, rfl, hl, fun _ => rfl, fun j hj => by rw [Nat.zero_add]; exact h.cell j hj⟩
theorem TA.new (w : World) (l : List ByteArray) (t : Nat) : TA (w.alloc (.cells (svs l).toArray t)) w.heap.size t l := Go.heap_alloc_new w _

/-- an array of so many empty texts -/
def zT (n : Nat) : Array Value := (svs (List.replicate n ByteArray.empty)).toArray
theorem zT_size (n : Nat) : (zT n).size = n := by simp [zT, svs]
theorem TA.zero (w : World) (L : List ByteArray) (t n : Nat) (hn : L.length = n) : TA (w.alloc (.cells (zT n) t)) w.heap.size t (srow L 0) := by
  have e : srow L 0 = List.replicate n ByteArray.empty := by unfold srow; rw [hn]; rfl
  rw [e]
  exact TA.new w _ t
theorem svs_one (l : List ByteArray) : (svs l).toArray.all (·.oneCell') = true := by
  rw [Array.all_eq_true]
  intro i hi
  simp [svs]
  rfl
theorem svs_size (l : List ByteArray) : (svs l).toArray.size = l.length := by simp [svs]

theorem zeroA : (Tryz.prog.info? 165).map (fun i => (i.zero, i.size)) = some (some (.agg (zT 16)), 16) := by kernel_rfl
theorem sizeA : (Tryz.prog.info? 165).map (·.size) = some 16 := by kernel_rfl

section
variable {w : World} {ops : Array Oper} {rest : List Oper} {o : Oper} {a : Act} {Q : Exit → Act → World → Prop}

theorem wp_allocT (hgd : o.guard = none) (ty : TypeId) (n : Nat) (ho : o.op = .alloc ty) (hz : (Tryz.prog.info? ty).map (fun i => (i.zero, i.size)) = some (some (.agg (zT n)), n))
    (h : wpList Tryz.prog ops Q rest (a.put o.dst (.pointer (some ⟨w.heap.size, 0, none⟩))) (w.alloc (.cells (zT n) ty))) : wpList Tryz.prog ops Q (o :: rest) a w := by
  refine wpList_plain hgd fun K hK => ?_
  have h1 := (zero_of_info hz).1
  have hr : (Instr.alloc ty true (.tuple #[])).run Tryz.prog w = .ok (.pointer (some ⟨w.heap.size, 0, none⟩)) (w.alloc (.cells (zT n) ty)) := by
    unfold Instr.alloc
    simp [h1, newVar, newRow, Value.cells]
  unfold Oper.wp
  simp [execOp, ho, hr, Result.andThen]
  exact hK _ _ h
theorem run_loadT {w : World} {g t n : Nat} {l : List ByteArray} (ty e : TypeId) (hu : Tryz.prog.underlying ty = some (.array n e)) (hi : (Tryz.prog.info? ty).map (·.size) = some n) (hl : l.length = n) (hA : TA w g t l) :
    (Instr.loadAt ty (.pointer (some ⟨g, 0, none⟩))).run Tryz.prog w = .ok (.agg (svs l).toArray) w := by
  simp only [Instr.loadAt, Instr.sureAddr, Sem.run_bind, Sem.run_pure, Result.andThen]
  exact run_loadVar_row w g t ty _ (0, 0) _ hA hu rfl (by rw [svs_size, hl]; exact hi)
theorem wp_loadT (hgd : o.guard = none) (ty : TypeId) (p : Operand) (ho : o.op = .load ty p) (g t n : Nat) (l : List ByteArray) (e : TypeId) (hp : a.eval p = .pointer (some ⟨g, 0, none⟩)) (hA : TA w g t l) (hl : l.length = n)
    (hu : Tryz.prog.underlying ty = some (.array n e)) (hi : (Tryz.prog.info? ty).map (·.size) = some n)
    (h : wpList Tryz.prog ops Q rest (a.put o.dst (.agg (svs l).toArray)) w) : wpList Tryz.prog ops Q (o :: rest) a w := by
  refine wpList_plain hgd fun K hK => ?_
  have hr := run_loadT ty e hu hi hl hA
  unfold Oper.wp
  simp [execOp, ho, hp, hr, Result.andThen]
  exact hK _ _ h
theorem run_storeT {w : World} {g t n : Nat} {l r : List ByteArray} (ty : TypeId) (hi : (Tryz.prog.info? ty).map (·.size) = some n) (hA : TA w g t l) (hl : l.length = n) (hr : r.length = n) :
    (Instr.storeAt ty (.pointer (some ⟨g, 0, none⟩)) (.agg (svs r).toArray)).run Tryz.prog w = .ok () (w.setRow g (svs r).toArray) ∧ TA (w.setRow g (svs r).toArray) g t r := by
  constructor
  · simp only [Instr.storeAt, Instr.sureAddr, Sem.run_bind, Sem.run_pure, Result.andThen]
    exact run_storeVar_row w g t ty _ _ hA (by rw [svs_size, hr]; exact hi) (by rw [svs_size, svs_size, hl, hr]) (svs_one r)
  · exact setRow_heap w g _ _ t _ hA
/-- a whole array over an old one -/
theorem wp_storeT (hgd : o.guard = none) (ty : TypeId) (p v : Operand) (ho : o.op = .store ty p v) (g t n : Nat) (l r : List ByteArray) (hA : TA w g t l) (hl : l.length = n) (hr : r.length = n) (hp : a.eval p = .pointer (some ⟨g, 0, none⟩)) (hv : a.eval v = .agg (svs r).toArray)
    (hi : (Tryz.prog.info? ty).map (·.size) = some n)
    (h : TA (w.setRow g (svs r).toArray) g t r → wpList Tryz.prog ops Q rest (a.put o.dst (.tuple #[])) (w.setRow g (svs r).toArray)) : wpList Tryz.prog ops Q (o :: rest) a w := by
  refine wpList_plain hgd fun K hK => ?_
  obtain ⟨h1, h2⟩ := run_storeT ty hi hA hl hr
  unfold Oper.wp
  simp [execOp, ho, hp, hv, h1, Result.andThen]
  exact hK _ _ (h h2)
/-- a whole array into the block that was made last -/
theorem wp_storeNewT (hgd : o.guard = none) (ty n : Nat) (p v : Operand) (ho : o.op = .store ty p v) (w0 : World) (c : Array Value) (r : List ByteArray) (hw : w = w0.alloc (.cells c ty)) (hc : c.size = n) (hr : r.length = n) (hp : a.eval p = .pointer (some ⟨w0.heap.size, 0, none⟩)) (hv : a.eval v = .agg (svs r).toArray)
    (hi : (Tryz.prog.info? ty).map (·.size) = some n)
    (h : wpList Tryz.prog ops Q rest (a.put o.dst (.tuple #[])) (w0.alloc (.cells (svs r).toArray ty))) : wpList Tryz.prog ops Q (o :: rest) a w := by
  subst hw
  refine wpList_plain hgd fun K hK => ?_
  have h1 := run_storeAt_new (P := Tryz.prog) w0 ty c (svs r).toArray (by rw [svs_size, hr]; exact hi) (by rw [hc, svs_size, hr]) (svs_one r)
  unfold Oper.wp
  simp [execOp, ho, hp, hv, h1, Result.andThen]
  exact hK _ _ h
end

theorem TA.otherRow {w : World} {g t k : Nat} {l : List ByteArray} {R : Array Value} (h : TA w g t l) (hk : g ≠ k) : TA (w.setRow k R) g t l :=
  h.keep (setRow_other w k g R hk)

end Go.Proofs.YtgkfelhjbeegaaaGreatDoor
/-
  What PublicOf answers, the program's and the specification's.
-/
namespace Go.Proofs.YtgkfelhjbeegaaaGreatDoor
open Go.RowKit Go.BigFrame
set_option linter.unusedVariables false

/-- the sixteen locks of a place -/
def locksL (s : ByteArray) (a : Nat) : List ByteArray := (List.range 16).map fun i => lockB (secB s a (i / 2) (i % 2))
theorem locksL_len (s : ByteArray) (a : Nat) : (locksL s a).length = 16 := by simp [locksL]
theorem locksL_at (s : ByteArray) (a i : Nat) (h : i < (locksL s a).length) : (locksL s a)[i] = lockB (secB s a (i / 2) (i % 2)) := by simp [locksL]
/-- what PublicOf is -/
def pubB (s : ByteArray) (a : Nat) : ByteArray := hashB 6 (locksL s a) 16
def pubA (s : ByteArray) (a : Int) : ByteArray := if s.size ≤ 100 ∧ (0 ≤ a ∧ a ≤ 15) then pubB s a.toNat else ⟨#[]⟩

theorem not_nil {D : ByteArray} (h : 0 < D.size) : (D.toList == []) = false := by
  rw [beq_eq_false_iff_ne]
  intro he
  have : D.toList.length = 0 := by rw [he]; rfl
  rw [ByteArray.toList_eq, Array.length_toList] at this
  have h2 : D.data.size = D.size := rfl
  omega

def PuR (s : ByteArray) (a : Nat) (w : World) (i : Value) (wr : World) : Prop :=
  ∃ m : Nat, m ≤ 16 ∧ i = .int .i64 m ∧ TA wr w.heap.size 165 (srow (locksL s a) m) ∧ Below w.heap.size w wr

def NoR (w : World) (i : Value) (wr : World) : Prop := i = .int .i64 0 ∧ Below w.heap.size w wr
/-- what the outer loop holds, and the inner one -/
def PsO (s : ByteArray) (a : Nat) (w : World) (v i : Value) (wr : World) : Prop :=
  ∃ m : Nat, m ≤ 8 ∧ i = .int .i64 m ∧ OS w.heap.size w wr v ((locksL s a).take (2 * m))
def PsI (s : ByteArray) (a m : Nat) (w : World) (v i : Value) (wr : World) : Prop :=
  ∃ k : Nat, k ≤ 2 ∧ i = .int .i64 k ∧ OS w.heap.size w wr v ((locksL s a).take (2 * m + k))

theorem locks_step (s : ByteArray) (a b c : Nat) (hb : b < 8) (hc : c < 2) : (locksL s a).take (2 * b + c) ++ [lockB (secB s a b c)] = (locksL s a).take (2 * b + (c + 1)) := by
  have hl := locksL_len s a
  have h := locksL_at s a (2 * b + c) (by omega)
  rw [show (2 * b + c) / 2 = b by omega, show (2 * b + c) % 2 = c by omega] at h
  rw [← h, show 2 * b + (c + 1) = (2 * b + c) + 1 by omega]
  exact List.take_append_getElem (by omega)

end Go.Proofs.YtgkfelhjbeegaaaGreatDoor
