/-
  Texts laid together: Sgx, Lkt, Pool, Root.
-/
import Derived.Test.YtgkfelhjbeegaaaGreatDoorV34
import Derived.Test.YtgkfelhjbeegaaaGreatDoorV05
import Derived.Test.YtgkfelhjbeegaaaGreatDoorV10
import Derived.Deep.AppendLies
import Derived.StillTailTactics
import Derived.Deep.RegionHeld3
import Derived.Laws.CopyRow
/-
  What is digested of a signature, in plain words: its locks, its public text, the texts on the way to the root; two rows of texts that grow side by side.
-/
namespace Go.Proofs.YtgkfelhjbeegaaaGreatDoor
open Go.RowKit Go.BigFrame
set_option linter.unusedVariables false

/-- the bit of a byte at a level, the highest first -/
def bitN (b i : Nat) : Nat := b / 2 ^ (7 - i) % 2
theorem bitN_lt (b i : Nat) : bitN b i < 2 := Nat.mod_lt _ (by omega)
theorem bitI_nat (b i : Nat) (hb : b < 256) : bitI (b : Int) i = (bitN b i : Int) := by
  unfold bitI bitN
  have e1 : ((b : Int) / 2 ^ (7 - i)) = ((b / 2 ^ (7 - i) : Nat) : Int) := by simp
  rw [e1]
  have hlt : b / 2 ^ (7 - i) < 256 := Nat.lt_of_le_of_lt (Nat.div_le_self _ _) hb
  generalize b / 2 ^ (7 - i) = n at *
  have e : bits .and .i64 (n : Int) 1 = IntKind.i64.wrap ((BitVec.ofInt 64 (n : Int) &&& BitVec.ofInt 64 1).toNat : Int) := rfl
  have e2 : (BitVec.ofInt 64 (n : Int) &&& BitVec.ofInt 64 1).toNat = n % 2 := by
    rw [BitVec.toNat_and, BitVec.ofInt_natCast, BitVec.toNat_ofNat, Nat.mod_eq_of_lt (by omega)]
    have : (BitVec.ofInt 64 1).toNat = 1 := by decide
    rw [this, Nat.and_one_is_mod]
  rw [e, e2, IntWalk.i64_in _ (by omega)]

def gB (l : List ByteArray) (i : Nat) : ByteArray := l.getD i ByteArray.empty
theorem gB_eq (l : List ByteArray) (i : Nat) (h : i < l.length) : l[i] = gB l i := by
  unfold gB
  rw [List.getD_eq_getElem?_getD, List.getElem?_eq_getElem h]
  rfl
/-- two locks of a bit -/
def lk2 (b : Nat) (o s : List ByteArray) (i : Nat) : List ByteArray := if bitN b i = 0 then [lockB (gB o i), gB s i] else [gB s i, lockB (gB o i)]
/-- the locks of the first m bits -/
def lkN (b : Nat) (o s : List ByteArray) (m : Nat) : List ByteArray := (List.range m).flatMap (lk2 b o s)
theorem lk2_len (b : Nat) (o s : List ByteArray) (i : Nat) : (lk2 b o s i).length = 2 := by
  unfold lk2
  split <;> rfl
theorem lkN_step (b : Nat) (o s : List ByteArray) (m : Nat) : lkN b o s (m + 1) = lkN b o s m ++ lk2 b o s m := by
  unfold lkN
  rw [List.range_succ, List.flatMap_append]
  simp
theorem lkN_len (b : Nat) (o s : List ByteArray) (m : Nat) : (lkN b o s m).length = 2 * m := by
  induction m with
  | zero => rfl
  | succ m ih =>
    rw [lkN_step, List.length_append, ih, lk2_len]
    omega
/-- the text of one opened secret -/
def tx1 (o : List ByteArray) (i : Nat) : ByteArray := tagB 6 [gB o i]
def txN (o : List ByteArray) (m : Nat) : List ByteArray := (List.range m).map (tx1 o)
theorem txN_step (o : List ByteArray) (m : Nat) : txN o (m + 1) = txN o m ++ [tx1 o m] := by
  unfold txN
  rw [List.range_succ, List.map_append]
  rfl
theorem txN_len (o : List ByteArray) (m : Nat) : (txN o m).length = m := by simp [txN]
/-- the text of the public key -/
def pubT (b : Nat) (o s : List ByteArray) : ByteArray := tagB 6 (lkN b o s 8)
def cut16 (t : ByteArray) : ByteArray := cutH t 16
/-- the text of a node: what came up stands left or right -/
def nodeT (p : Nat) (h x : ByteArray) : ByteArray := if p = 0 then tagB 3 [h, x] else tagB 3 [x, h]
/-- the texts on the way up -/
def fT (a : Nat) (d : List ByteArray) (t : ByteArray) : Nat → ByteArray
  | 0 => t
  | i + 1 => nodeT (a / 2 ^ i % 2) (cut16 (fT a d t i)) (gB d i)
def fN (a : Nat) (d : List ByteArray) (t : ByteArray) (m : Nat) : List ByteArray := (List.range m).map (fT a d t)
theorem fN_step (a : Nat) (d : List ByteArray) (t : ByteArray) (m : Nat) : fN a d t (m + 1) = fN a d t m ++ [fT a d t m] := by
  unfold fN
  rw [List.range_succ, List.map_append]
  rfl
theorem fN_len (a : Nat) (d : List ByteArray) (t : ByteArray) (m : Nat) : (fN a d t m).length = m := by simp [fN]
/-- what SigTexts is where the form is right -/
def sgT (b a : Nat) (o s d : List ByteArray) : List ByteArray := txN o 8 ++ fN a d (pubT b o s) 5
theorem sgT_len (b a : Nat) (o s d : List ByteArray) : (sgT b a o s d).length = 13 := by simp [sgT, txN_len, fN_len]
/-- what SigTexts is -/
def sigT (t : ByteArray) (a : Int) (o s d : List ByteArray) : List ByteArray := if formB a o s d && decide (t.size ≤ 200) then sgT (bitsB t) a.toNat o s d else []
theorem sigT_len (t : ByteArray) (a : Int) (o s d : List ByteArray) : (sigT t a o s d).length ≤ 13 := by
  unfold sigT
  split
  · rw [sgT_len]
    omega
  · simp

theorem cut16_tag (k : Int) (l : List ByteArray) (h : tagOk k l = true) : cut16 (tagB k l) = hashB k l 16 := by
  unfold cut16 hashB
  rw [if_pos h]
theorem lock_cut (o : List ByteArray) (i : Nat) (h : (gB o i).size ≤ 200) : cut16 (tx1 o i) = lockB (gB o i) := by
  unfold tx1 lockB
  refine cut16_tag 6 _ ?_
  rw [tagOk_one 6 _ (by omega), decide_eq_true h]
theorem cut16_size (k : Int) (l : List ByteArray) : (cut16 (tagB k l)).size ≤ 16 := by
  unfold cut16 cutH cutB
  rw [if_pos (by omega)]
  rw [ByteArray.size_extract]
  show min 16 _ - 0 ≤ 16
  omega
theorem fT_size (a : Nat) (d : List ByteArray) (t : ByteArray) (ht : t.size ≤ 12601) (i : Nat) : (fT a d t i).size ≤ 12601 := by
  cases i with
  | zero => exact ht
  | succ i =>
    show (nodeT _ _ _).size ≤ _
    unfold nodeT
    split
    · exact tagB_size _ _
    · exact tagB_size _ _

/-- one row of texts stays what it is behind what was appended to another -/
theorem OS.kept {B : Nat} {w0 w w' : World} {v : Value} {row : Option Nat} {l : List ByteArray} (h : OS B w0 w v l) (hg : w.grownBy w' row) (hB : ∀ k, row = some k → B ≤ k) (hne : v.ownBlock = none ∨ v.ownBlock ≠ row) : OS B w0 w' v l :=
  ⟨World.ownsRow.kept h.1 hg hne, h.2.1.grown hg h.2.2 hB, Nat.le_trans h.2.2 hg.size⟩

/-- two rows of texts, each with memory of its own -/
def TwR (B : Nat) (w0 w : World) (u v : Value) (l r : List ByteArray) : Prop := OS B w0 w u l ∧ OS B w0 w v r ∧ (∀ g, u.ownBlock = some g → v.ownBlock ≠ some g)
theorem TwR.swap {B : Nat} {w0 w : World} {u v : Value} {l r : List ByteArray} (h : TwR B w0 w u v l r) : TwR B w0 w v u r l := ⟨h.2.1, h.1, fun g hg hu => h.2.2 g hu hg⟩
theorem TwR.later {B : Nat} {w0 w w' : World} {u v : Value} {l r : List ByteArray} (h : TwR B w0 w u v l r) (hb : Below w.heap.size w w') : TwR B w0 w' u v l r := ⟨h.1.later hb, h.2.1.later hb, h.2.2⟩
theorem TwR.alloc {B : Nat} {w0 w : World} {u v : Value} {l r : List ByteArray} (h : TwR B w0 w u v l r) (x : Obj) : TwR B w0 (w.alloc x) u v l r := ⟨h.1.alloc x, h.2.1.alloc x, h.2.2⟩
theorem TwR.drew {B : Nat} {w0 w : World} {u v : Value} {l r : List ByteArray} (h : TwR B w0 w u v l r) : TwR B w0 w.drew u v l r := ⟨h.1.drew, h.2.1.drew, h.2.2⟩

theorem lit_at (w : World) (news : List ByteArray) (cs : Array Value) (hc : cs = (svs news).toArray) : ∀ j u, (svs news)[j]? = some u → (w.alloc (.cells cs 9)).cell? ((⟨w.heap.size, 0, none⟩ : Addr).add j) = some u := by
  intro j u hj
  subst hc
  have e : (⟨w.heap.size, 0, none⟩ : Addr).add j = ⟨w.heap.size, j, none⟩ := by unfold Addr.add; split <;> simp_all
  rw [e, World.cell?_alloc_at _ _ _ _ rfl]
  simpa using hj

/-- what an append to the first row leaves -/
theorem TwR.grow {B : Nat} {w0 w w' : World} {u v : Value} {l r news : List ByteArray} {g cap n : Nat} (h : TwR B w0 w u v l r) (hn : l.length + news.length = n) (h1 : w'.ownsRow B 9 1 (.slice (some ⟨g, 0, none⟩) n cap) n (svs l ++ svs news)) (h2 : w.grownBy w' u.ownBlock) (h3 : u.ownBlock = some g ∨ g = w.heap.size) :
    TwR B w0 w' (.slice (some ⟨g, 0, none⟩) n cap) v (l ++ news) r := by
  subst hn
  have hB : ∀ k, u.ownBlock = some k → B ≤ k := fun k hk => (h.1.1.lt k hk).1
  refine ⟨⟨by rw [List.length_append, svs_append]; exact h1, h.1.2.1.grown h2 h.1.2.2 hB, Nat.le_trans h.1.2.2 h2.size⟩, h.2.1.kept h2 hB ?_, ?_⟩
  · cases hv : v.ownBlock with
    | none => exact .inl rfl
    | some k => exact .inr (fun e => h.2.2 k e.symm hv)
  · intro k hk hv
    simp [Value.ownBlock] at hk
    subst hk
    rcases h3 with h3 | h3
    · exact h.2.2 g h3 hv
    · have := (h.2.1.1.lt g hv).2
      omega

/-- texts that are written out, appended to the first of two rows -/
theorem wp_tw {w : World} {ops : Array Oper} {rest : List Oper} {o : Oper} {a : Act} {Q : Exit → Act → World → Prop} (hgd : o.guard = none) (s x : Operand)
    (ho : o.op = .call { callee := .builtin .append, args := #[s, x], argTypes := #[22, 22] })
    (B : Nat) (w0 : World) (u v : Value) (l r news : List ByteArray) (hs : a.eval s = u) (h : TwR B w0 w u v l r) (p m c : Nat) (hx : a.eval x = .slice (some ⟨p, 0, none⟩) m c) (hm : news.length = m) (h0 : 0 < m)
    (hnews : ∀ j u, (svs news)[j]? = some u → w.cell? ((⟨p, 0, none⟩ : Addr).add j) = some u) (hlen : l.length + m ≤ 1000000)
    (hk : ∀ v' w', TwR B w0 w' v' v (l ++ news) r → wpList Tryz.prog ops Q rest (a.put o.dst v') w') : wpList Tryz.prog ops Q (o :: rest) a w := by
  obtain ⟨i0, hi, hz0, hz1, hz2⟩ := info_parts Tryz.info9
  refine wpList_append_lies w hgd s x 22 ho B 9 i0 (.string ByteArray.empty) 1 16 Tryz.underlying22 hi hz0 hz1 hz2 rfl (by decide) u l.length (svs l) hs h.1.1 ⟨p, 0, none⟩ m c (svs news) hx (by simp [svs, hm]) hnews
    (fun u hu => by simp [svs] at hu; obtain ⟨b, _, rfl⟩ := hu; rfl) h0 (by unfold maxLen; omega) (by omega) h.1.2.2 w.heap.size rfl ?_
  intro g cap w' h1 h2 h3 _
  exact hk _ _ (h.grow (by omega) h1 h2 h3)
theorem step_tw {w : World} {ops : Array Oper} {o : Oper} {a : Act} {K : Act → World → Prop} {Q : Exit → Act → World → Prop} {E : Prop} (hgd : o.guard = none) (s x : Operand)
    (ho : o.op = .call { callee := .builtin .append, args := #[s, x], argTypes := #[22, 22] })
    (B : Nat) (w0 : World) (u v : Value) (l r news : List ByteArray) (hs : a.eval s = u) (h : TwR B w0 w u v l r) (p m c : Nat) (hx : a.eval x = .slice (some ⟨p, 0, none⟩) m c) (hm : news.length = m) (h0 : 0 < m)
    (hnews : ∀ j u, (svs news)[j]? = some u → w.cell? ((⟨p, 0, none⟩ : Addr).add j) = some u) (hlen : l.length + m ≤ 1000000)
    (hk : ∀ v' w', TwR B w0 w' v' v (l ++ news) r → K (a.put o.dst v') w') : if Region.wanted o (yielded ops a.tmps) = true then Oper.wp Tryz.prog o a w K Q else E := by
  obtain ⟨i0, hi, hz0, hz1, hz2⟩ := info_parts Tryz.info9
  refine step_append_lies w hgd s x 22 ho B 9 i0 (.string ByteArray.empty) 1 16 Tryz.underlying22 hi hz0 hz1 hz2 rfl (by decide) u l.length (svs l) hs h.1.1 ⟨p, 0, none⟩ m c (svs news) hx (by simp [svs, hm]) hnews
    (fun u hu => by simp [svs] at hu; obtain ⟨b, _, rfl⟩ := hu; rfl) h0 (by unfold maxLen; omega) (by omega) h.1.2.2 w.heap.size rfl ?_
  intro g cap w' h1 h2 h3 _
  exact hk _ _ (h.grow (by omega) h1 h2 h3)

/-- what the texts of a key are -/
theorem keyText_any (k : Int) (v : Value) (g o : Nat) (l : List ByteArray) (w : World) (hv : SS w v g o l) :
    Calls Tryz.prog 147 #[.int .i64 k, v] w fun e w' => e = .returned (.string (tagB k l)) ∧ Below w.heap.size w w' := by
  have hc := tagged_any k v g o l w hv
  obtain ⟨a, cap, rfl, _⟩ := hv
  generalize tagB k l = T at *
  generalize tagOk k l = R at *
  go_enter Tryz.func147, Tryz.ntmps147
  go_wp2_with fail
  refine hc.mono ?_
  rintro e w1 ⟨rfl, hb1⟩
  go_wp2
  go_ret
  exact ⟨rfl, hb1⟩
theorem keyText_lit (k : Int) (l : List ByteArray) (n : Nat) (cs : Array Value) (w : World) (g : Nat) (hg : w.heap.size = g) (hn : l.length = n) (hl : n ≤ 60) (hc : cs = (svs l).toArray) :
    Hid (Calls Tryz.prog 147 #[.int .i64 k, .slice (some ⟨g, 0, none⟩) n n] (w.alloc (.cells cs 9)) fun e w' => e = .returned (.string (tagB k l)) ∧ Below w.heap.size w w') := by
  subst hg
  exact (keyText_any k _ w.heap.size 0 l (w.alloc (.cells cs 9)) (ss_lits w l cs n hn (by omega) hc)).mono fun e w' ⟨he, hb⟩ => ⟨he, ((Below.refl _ _).alloc (Nat.le_refl _) _).trans (hb.mono (by simp))⟩
theorem sTagText_lit (k : Int) (l : List ByteArray) (n : Nat) (cs : Array Value) (w : World) (g : Nat) (hg : w.heap.size = g) (hn : l.length = n) (hl : n ≤ 60) (hc : cs = (svs l).toArray) :
    Hid (Calls Tryz.prog 74 #[.int .i64 k, .slice (some ⟨g, 0, none⟩) n n] (w.alloc (.cells cs 9)) fun e w' => e = .returned (.tuple #[.string (tagB k l), .bool (tagOk k l)]) ∧ Below w.heap.size w w') := by
  subst hg
  exact (sTagText_any k _ w.heap.size 0 l (w.alloc (.cells cs 9)) (ss_lits w l cs n hn (by omega) hc)).mono fun e w' ⟨he, hb⟩ => ⟨he, ((Below.refl _ _).alloc (Nat.le_refl _) _).trans (hb.mono (by simp))⟩

theorem val_any (b i : Nat) (x : Int) (w : World) (hb : b < 256) (hx : x = (i : Int)) (hi : i ≤ 7) :
    Calls Tryz.prog 151 #[.int .u8 (b : Int), .int .i64 x] w fun e w' => e = .returned (.int .i64 (bitN b i : Int)) ∧ w' = w := by
  subst hx
  have hc := BitOf_yes (b : Int) i w hi
  rw [bitI_nat b i hb] at hc
  generalize bitN b i = B at *
  go_enter Tryz.func151, Tryz.ntmps151
  go_wp2_with fail
  refine hc.mono ?_
  rintro e w1 ⟨rfl, rfl⟩
  go_wp2
  go_ret
  exact ⟨rfl, rfl⟩
theorem sBitOf_at (b i : Nat) (x : Int) (w : World) (hb : b < 256) (hx : x = (i : Int)) (hi : i ≤ 7) :
    Calls Tryz.prog 45 #[.int .i64 (b : Int), .int .i64 x] w fun e w' => e = .returned (.int .i64 (bitN b i : Int)) ∧ w' = w := by
  subst hx
  have hc := sBitOf_yes (b : Int) i w hi
  rw [bitI_nat b i hb] at hc
  exact hc

end Go.Proofs.YtgkfelhjbeegaaaGreatDoor
/-
  What lockTexts answers: the texts of the opened secrets, and all locks.
-/
namespace Go.Proofs.YtgkfelhjbeegaaaGreatDoor
open Go.RowKit Go.BigFrame
set_option linter.unusedVariables false

/-- 'make([]string, 0, n)' -/
theorem run_mkT (n : Nat) (h : n ≤ 1000000000) (W : World) : ∃ M : Array Value, (Instr.makeSlice 22 (.int .i64 0) (.int .i64 (n : Int))).run Tryz.prog W = .ok (.slice (some ⟨W.heap.size, 0, none⟩) 0 n) (W.alloc (.cells M 9)) ∧ OS W.heap.size W (W.alloc (.cells M 9)) (.slice (some ⟨W.heap.size, 0, none⟩) 0 n) [] := by
  obtain ⟨i0, hi, hz0, hz1, hz2⟩ := info_parts Tryz.info9
  have h1 := run_make (P := Tryz.prog) W 22 9 i0 (.string ByteArray.empty) Tryz.underlying22 hi hz0 .i64 .i64 0 (n : Int) (by omega) (by omega) (by rw [hz2]; omega) (by omega)
  refine ⟨madeCells (Value.string ByteArray.empty).cells (((n : Nat) : Int).toNat * i0.size), by simpa using h1, ?_⟩
  refine ⟨World.ownsRow_made W _ n (Nat.le_refl _) (by unfold maxLen; omega) ?_, (Below.refl _ _).alloc (Nat.le_refl _) _, by simp⟩
  rw [size_madeCells, hz1]
  simp

/-- an array of texts is no row that a call appends to -/
theorem TA.keptO {w w' : World} {g t B : Nat} {w0 : World} {v : Value} {l r : List ByteArray} (h : TA w g t l) (ht : t ≠ 9) (ho : OS B w0 w v r) (hg : w.grownBy w' v.ownBlock) : TA w' g t l := by
  have hlt : g < w.heap.size := h.lt
  refine h.keep (hg.block g hlt ?_)
  intro he
  rcases ho.1.2 with ⟨rfl, _⟩ | ⟨g', cap, cur, rfl, _, hg', _⟩
  · simp [Value.ownBlock] at he
  · simp [Value.ownBlock] at he
    subst he
    unfold TA at h
    rw [h] at hg'
    simp at hg'
    exact ht hg'.2
theorem SgM.keptO {w w' : World} {g B : Nat} {w0 : World} {v : Value} {x : Int} {v1 v2 v3 : Value} {r : List ByteArray} (h : SgM w g x v1 v2 v3) (ho : OS B w0 w v r) (hg : w.grownBy w' v.ownBlock) : SgM w' g x v1 v2 v3 := by
  refine h.keep (hg.block g h.lt ?_)
  intro he
  rcases ho.1.2 with ⟨rfl, _⟩ | ⟨g', cap, cur, rfl, _, hg', _⟩
  · simp [Value.ownBlock] at he
  · simp [Value.ownBlock] at he
    subst he
    unfold SgM at h
    rw [h] at hg'
    simp at hg'

theorem os_ne {B g t : Nat} {w0 w : World} {v : Value} {l r : List ByteArray} (ho : OS B w0 w v r) (h : TA w g t l) (ht : t ≠ 9) : v.ownBlock = none ∨ v.ownBlock ≠ some g := by
  refine .inr (fun he => ?_)
  rcases ho.1.2 with ⟨rfl, _⟩ | ⟨g', cap, cur, rfl, _, hg', _⟩
  · simp [Value.ownBlock] at he
  · simp [Value.ownBlock] at he
    subst he
    unfold TA at h
    rw [h] at hg'
    simp at hg'
    exact ht hg'.2

/-- one text appended, and that nothing else turned -/
theorem wp_appSG {w : World} {ops : Array Oper} {rest : List Oper} {o : Oper} {a : Act} {Q : Exit → Act → World → Prop} (hgd : o.guard = none) (s x : Operand)
    (ho : o.op = .call { callee := .builtin .append, args := #[s, x], argTypes := #[22, 22] })
    (B : Nat) (w0 : World) (v : Value) (l : List ByteArray) (hs : a.eval s = v) (hown : OS B w0 w v l)
    (ad : Addr) (t : ByteArray) (hx : a.eval x = .slice (some ad) 1 1) (hnews : w.cell? ad = some (.string t)) (hlen : l.length ≤ 1000000)
    (h : ∀ v' w', OS B w0 w' v' (l ++ [t]) → w.grownBy w' v.ownBlock → wpList Tryz.prog ops Q rest (a.put o.dst v') w') : wpList Tryz.prog ops Q (o :: rest) a w := by
  obtain ⟨i0, hi, hz0, hz1, hz2⟩ := info_parts Tryz.info9
  refine wpList_append_own _ hgd s x 22 ho B 9 i0 (.string ByteArray.empty) 1 16 Tryz.underlying22 hi hz0 hz1 hz2 rfl (by decide) v l.length (svs l) hs hown.1 ad 1 1 [.string t] hx rfl ?_
    (fun u hu => by simp at hu; subst hu; rfl) (by unfold maxLen; omega) (by omega) hown.2.2 ?_
  · intro j u hj
    match j, hj with
    | 0, hj =>
      simp at hj
      subst hj
      have : ad.add 0 = ad := by unfold Addr.add; split <;> simp_all
      rw [this]
      exact hnews
  · intro v' w' h1 h2 _
    exact h v' w' ⟨by simpa [svs] using h1, hown.2.1.grown h2 hown.2.2 (fun k hk => (hown.1.lt k hk).1), Nat.le_trans hown.2.2 h2.size⟩ h2

/-- the locks so far, and nothing behind -/
def lkR (b : Nat) (o s : List ByteArray) (m : Nat) : List ByteArray := lkN b o s m ++ List.replicate (16 - 2 * m) ByteArray.empty
theorem lkR_len (b : Nat) (o s : List ByteArray) (m : Nat) (h : m ≤ 8) : (lkR b o s m).length = 16 := by
  unfold lkR
  rw [List.length_append, lkN_len, List.length_replicate]
  omega
theorem lkR_all (b : Nat) (o s : List ByteArray) : lkR b o s 8 = lkN b o s 8 := by simp [lkR]
theorem lkR_step (b : Nat) (o s : List ByteArray) (m : Nat) (h : m < 8) : ((lkR b o s m).set (2 * m + bitN b m) (lockB (gB o m))).set (2 * m + 1 - bitN b m) (gB s m) = lkR b o s (m + 1) := by
  unfold lkR
  rw [lkN_step]
  have e : 16 - 2 * m = (16 - 2 * (m + 1)) + 1 + 1 := by omega
  rw [e, List.replicate_succ, List.replicate_succ]
  have hl := lkN_len b o s m
  have hb := bitN_lt b m
  have h0 : bitN b m = 0 ∨ bitN b m = 1 := by omega
  rcases h0 with h0 | h0
  · rw [h0, List.set_append_right _ _ (by omega), hl, show 2 * m + 0 - 2 * m = 0 by omega, List.set_cons_zero, List.set_append_right _ _ (by omega), hl, show 2 * m + 1 - 0 - 2 * m = 1 by omega]
    unfold lk2
    rw [h0]
    simp
  · rw [h0, List.set_append_right _ _ (by omega), hl, show 2 * m + 1 - 2 * m = 1 by omega, List.set_cons_succ, List.set_cons_zero, List.set_append_right _ _ (by omega), hl, show 2 * m + 1 - 1 - 2 * m = 0 by omega]
    unfold lk2
    rw [h0]
    simp

theorem grown_setRow2 (w : World) (g : Nat) (R : Array Value) : w.grownBy (w.setRow g R) (some g) :=
  ⟨rfl, rfl, rfl, by simp [World.setRow], fun k _ hk => setRow_other w g k R (fun e => hk (by simp [e]))⟩
theorem still_loadT {w : World} {ops : Array Oper} {rest : List Oper} {o : Oper} {a : Act} {Q : Act → Prop} (hgd : o.guard = none) (ty : TypeId) (p : Operand) (ho : o.op = .load ty p) (g t n : Nat) (l : List ByteArray) (e : TypeId) (hp : a.eval p = .pointer (some ⟨g, 0, none⟩)) (hA : TA w g t l) (hl : l.length = n)
    (hu : Tryz.prog.underlying ty = some (.array n e)) (hi : (Tryz.prog.info? ty).map (·.size) = some n)
    (h : wpStill Tryz.prog ops w Q rest (a.put o.dst (.agg (svs l).toArray))) : wpStill Tryz.prog ops w Q (o :: rest) a := by
  refine wpStill_step fun K hK => ?_
  have hr := run_loadT ty e hu hi hl hA
  have hw : Region.wanted o (yielded ops a.tmps) = true := by simp [Region.wanted, hgd]
  rw [if_pos hw]
  unfold Oper.still
  simp [execOp, ho, hp, hr, Result.andThen, Oper.stillUpon]
  exact hK _ h

/-- what each round of lockTexts holds -/
def LtR (b : Nat) (o s : List ByteArray) (w : World) (a : Int) (vo vs vd v i : Value) (wr : World) : Prop :=
  ∃ m : Nat, m ≤ 8 ∧ i = .int .i64 m ∧ OS w.heap.size w wr v (txN o m) ∧ TA wr (w.heap.size + 1 + 1 + 1) 165 (lkR b o s m) ∧ TA wr (w.heap.size + 1) 165 (List.replicate 16 ByteArray.empty) ∧ SgM wr w.heap.size a vo vs vd
/-- a row of texts and an array of them, answered -/
theorem ret_rowArr {fn : Func} {Rp : Ending → World → Prop} {a : Act} {w : World} (c s g t n : Nat) (ty e : TypeId) (l : List ByteArray) (b : Value) (hres : fn.results = #[.tmp s, .cell c ty]) (hd : a.defers = []) (hp : a.tmps.getD c undef = .pointer (some ⟨g, 0, none⟩)) (hb : a.tmps.getD s undef = b)
    (hA : TA w g t l) (hl : l.length = n) (hu : Tryz.prog.underlying ty = some (.array n e)) (hi : (Tryz.prog.info? ty).map (·.size) = some n) (h : Rp (.returned (.tuple #[b, .agg (svs l).toArray])) w) : bodyPost Tryz.prog fn Rp .ret a w := by
  have hr := run_loadVar_row (P := Tryz.prog) w g t ty _ (0, 0) _ hA hu rfl (by rw [svs_size, hl]; exact hi)
  refine bodyPost_ret (v := .tuple #[b, .agg (svs l).toArray]) ?_ hd h
  have hp' : a.tmps[c]?.getD undef = .pointer (some ⟨g, 0, none⟩) := by simpa using hp
  have hb' : a.tmps[s]?.getD undef = b := by simpa using hb
  simp [results, hres, asAddr, hr, hp', hb']

set_option maxRecDepth 100000 in
set_option maxHeartbeats 4000000 in
theorem lockTexts_any (b : Nat) (a : Int) (vo vs vd : Value) (g1 o1 g2 o2 : Nat) (o s : List ByteArray) (w : World) (hb : b < 256) (ho : SS w vo g1 o1 o) (hs : SS w vs g2 o2 s) (lo : o.length = 8) (ls : s.length = 8) (wo : kwB o = true) (hvd : vd.oneCell' = true) (hT : Tb w) :
    Calls Tryz.prog 145 #[.int .u8 (b : Int), .agg #[.int .i64 a, vo, vs, vd]] w fun e w' => ∃ v, e = .returned (.tuple #[v, .agg (svs (lkN b o s 8)).toArray]) ∧ OS w.heap.size w w' v (txN o 8) := by
  have HSS : Hid (∀ W, Below w.heap.size w W → SS W vo g1 o1 o ∧ SS W vs g2 o2 s) := fun W hW => ⟨ho.below hW ho.lt, hs.below hW hs.lt⟩
  have HT : Hid (Tb w) := hT
  have HL : Hid (o.length = 8 ∧ s.length = 8 ∧ kwB o = true) := ⟨lo, ls, wo⟩
  obtain ⟨ao, co, rfl, _, x1⟩ := ho
  obtain ⟨as2, cs2, rfl, _, x2⟩ := hs
  rw [lo, ls] at HSS ⊢
  clear x1 x2 lo ls wo hT
  obtain ⟨M, hmk0, hos0⟩ := run_mkT 13 (by omega) ((w.alloc (.cells #[.int .i64 a, .slice ao 8 co, .slice as2 8 cs2, vd] 47)).alloc (.cells (zT 16) 165))
  have hmk : (Instr.makeSlice 22 (.int .i64 0) (.int .i64 13)).run Tryz.prog ((w.alloc (.cells #[.int .i64 a, .slice ao 8 co, .slice as2 8 cs2, vd] 47)).alloc (.cells (zT 16) 165)) = .ok (.slice (some ⟨w.heap.size + 1 + 1, 0, none⟩) 0 13) (((w.alloc (.cells #[.int .i64 a, .slice ao 8 co, .slice as2 8 cs2, vd] 47)).alloc (.cells (zT 16) 165)).alloc (.cells M 9)) := by simpa using hmk0
  have HST : Hid (LtR b o s w a (.slice ao 8 co) (.slice as2 8 cs2) vd (.slice (some ⟨w.heap.size + 1 + 1, 0, none⟩) 0 13) (.int .i64 0) ((((w.alloc (.cells #[.int .i64 a, .slice ao 8 co, .slice as2 8 cs2, vd] 47)).alloc (.cells (zT 16) 165)).alloc (.cells M 9)).alloc (.cells (zT 16) 165))) := by
    have h0 := SgM.new w a (.slice ao 8 co) (.slice as2 8 cs2) vd
    have b0 : Below w.heap.size w (w.alloc (.cells #[.int .i64 a, .slice ao 8 co, .slice as2 8 cs2, vd] 47)) := (Below.refl _ _).alloc (Nat.le_refl _) _
    have z0 : (w.alloc (.cells #[.int .i64 a, .slice ao 8 co, .slice as2 8 cs2, vd] 47)).heap.size = w.heap.size + 1 := by simp
    generalize w.alloc (.cells #[.int .i64 a, .slice ao 8 co, .slice as2 8 cs2, vd] 47) = W0 at *
    have h1 := TA.new W0 (List.replicate 16 ByteArray.empty) 165
    have b1 : Below W0.heap.size W0 (W0.alloc (.cells (zT 16) 165)) := (Below.refl _ _).alloc (Nat.le_refl _) _
    have z1 : (W0.alloc (.cells (zT 16) 165)).heap.size = w.heap.size + 1 + 1 := by simp [z0]
    rw [z0] at h1
    have h1 : TA (W0.alloc (.cells (zT 16) 165)) (w.heap.size + 1) 165 (List.replicate 16 ByteArray.empty) := h1
    have h0 := h0.later b1
    have b1 := b0.trans (b1.mono b0.size)
    generalize W0.alloc (.cells (zT 16) 165) = W1 at *
    have b2 : Below W1.heap.size W1 (W1.alloc (.cells M 9)) := (Below.refl _ _).alloc (Nat.le_refl _) _
    have z2 : (W1.alloc (.cells M 9)).heap.size = w.heap.size + 1 + 1 + 1 := by simp [z1]
    have h0 := h0.later b2
    have h1 := h1.later b2
    have hos : OS w.heap.size w (W1.alloc (.cells M 9)) (.slice (some ⟨w.heap.size + 1 + 1, 0, none⟩) 0 13) [] := by
      rw [← z1]
      refine ⟨⟨hos0.1.1, ?_⟩, b1.trans (b2.mono b1.size), Nat.le_trans b1.size b2.size⟩
      rcases hos0.1.2 with hn | ⟨g, cap, cur, hv, hbg, rest⟩
      · exact .inl hn
      · exact .inr ⟨g, cap, cur, hv, Nat.le_trans b1.size hbg, rest⟩
    generalize W1.alloc (.cells M 9) = W2 at *
    have h3 := TA.new W2 (List.replicate 16 ByteArray.empty) 165
    have b3 : Below W2.heap.size W2 (W2.alloc (.cells (zT 16) 165)) := (Below.refl _ _).alloc (Nat.le_refl _) _
    rw [z2] at h3
    exact ⟨0, by omega, rfl, hos.alloc _, h3, h1.later b3, h0.later b3⟩
  clear hmk0 hos0
  go_enter Tryz.func145, Tryz.ntmps145
  go_wp2_with (refine wp_allocT rfl 165 16 rfl zeroA ?_)
  clear hmk
  go_loopw [6, 16] (fun v i wr => LtR b o s w a (.slice ao 8 co) (.slice as2 8 cs2) vd v i wr) (fun _ i _ => 8 - (intOf i).toNat)
  case atStart => exact HST.out
  case round =>
    obtain ⟨m, hm, rfl, hos, hta, htz, hsg⟩ := hrel
    clear HST
    by_cases hlt : m < 8
    · obtain ⟨⟨x1, y1, hv1, _, hA1, hc1⟩, ⟨x2, y2, hv2, _, hA2, hc2⟩⟩ := HSS.out _ hos.2.1
      have e1 := hA1 (by rw [HL.out.1]; omega)
      have e2 := hA2 (by rw [HL.out.2.1]; omega)
      rw [HL.out.1] at hv1
      rw [HL.out.2.1] at hv2
      simp at hv1 hv2
      obtain ⟨rfl, rfl⟩ := hv1
      obtain ⟨rfl, rfl⟩ := hv2
      subst e1
      subst e2
      have hz1 := kwB_at HL.out.2.2 m (by rw [HL.out.1]; exact hlt)
      have c1 := hc1 m (by rw [HL.out.1]; exact hlt)
      rw [gB_eq o m (by rw [HL.out.1]; exact hlt)] at c1 hz1
      have hlc := lock_cut o m (by omega)
      have hst := lkR_step b o s m hlt
      have htx := txN_step o m
      have htl := txN_len o m
      have hll := lkR_len b o s m (by omega)
      have hKT := keyText_lit 6 [gB o m] 1 #[.string (gB o m)] wr _ rfl rfl (by omega) rfl
      have hV := bitN_lt b m
      have i1 : (m : Int) < 8 := by omega
      have i2 : (0 : Int) ≤ (m : Int) := by omega
      have hts : (tx1 o m).size ≤ 1048576 := Nat.le_trans (tagB_size _ _) (by omega)
      have HK : Hid (tagB 6 [gB o m] = tx1 o m) := rfl
      rw [HK.out] at hKT
      generalize tx1 o m = X at *
      have HH : Hid (cutH X 16 = lockB (gB o m)) := hlc
      have HSTEP : Hid (∀ K, ((lkR b o s m).set (2 * m + bitN b m) (lockB (gB o m))).set (2 * m + 1 - bitN b m) (gB s m) = K → lkR b o s (m + 1) = K) := fun K hK => hst.symm.trans hK
      generalize gB o m = O at *
      clear hst hA1 hA2 hlc HK
      have hc2 : Hid (∀ W, Below w.heap.size w W → W.cell? ⟨g2, o2 + m, none⟩ = some (.string (gB s m))) := fun W hW => by
        obtain ⟨_, ⟨_, _, _, _, _, hcc⟩⟩ := HSS.out W hW
        have := hcc m (by rw [HL.out.2.1]; exact hlt)
        rw [gB_eq s m (by rw [HL.out.2.1]; exact hlt)] at this
        exact this
      generalize gB s m = Y at *
      go_wp2_with fail
      refine hKT.out.mono ?_
      rintro e w1 ⟨rfl, hb1⟩
      have hos1 := hos.later hb1
      have hta1 := hta.later hb1
      have htz1 := htz.later hb1
      have hsg1 := hsg.later hb1
      clear hos hta htz hsg hb1 hKT c1 hc1
      go_wp2_with (at_builtin; refine wp_appSG rfl _ _ rfl w.heap.size w _ (txN o m) rfl (hos1.alloc _) ⟨w1.heap.size, 0, none⟩ X rfl ?c1 ?c2 ?_)
      case c1 => exact one_text _ _ _
      case c2 => omega
      intro v2 w2 hos2 hg2
      rw [← htx] at hos2
      have hba : Below w1.heap.size w1 (w1.alloc (.cells #[.string X] 9)) := (Below.refl _ _).alloc (Nat.le_refl _) _
      have hta2 := (hta1.later hba).keptO (by decide) (hos1.alloc _) hg2
      have htz2 := (htz1.later hba).keptO (by decide) (hos1.alloc _) hg2
      have hsg2 := (hsg1.later hba).keptO (hos1.alloc _) hg2
      clear hos1 hta1 htz1 hsg1 hg2 hba htx
      go_wp2_with fail
      refine (val_any b m _ _ hb rfl (by omega)).mono ?_
      rintro e w2' ⟨rfl, rfl⟩
      generalize bitN b m = V at *
      have hT2 := HT.out.later hos2.2.1
      have hcd := CutDigest_any X 16 w2' hts hT2.1 hT2.2
      rw [HH.out] at hcd
      clear hT2 HH
      generalize lockB O = K at *
      have j1 : (0 : Int) ≤ 2 * (m : Int) + (V : Int) := by omega
      have j2 : 2 * (m : Int) + (V : Int) < 16 := by omega
      have j3 : (0 : Int) ≤ 2 * (m : Int) + 1 - (V : Int) := by omega
      have j4 : 2 * (m : Int) + 1 - (V : Int) < 16 := by omega
      have t1 : (2 * (m : Int) + (V : Int)).toNat = 2 * m + V := by omega
      have t2 : (2 * (m : Int) + 1 - (V : Int)).toNat = 2 * m + 1 - V := by omega
      go_wp2_with fail
      refine hcd.mono ?_
      rintro e w3 ⟨rfl, hb3⟩
      have hos3 := hos2.later hb3
      have hta3 := hta2.later hb3
      have htz3 := htz2.later hb3
      have hsg3 := hsg2.later hb3
      clear hos2 hta2 htz2 hsg2 hb3 hcd
      obtain ⟨Z, c0⟩ : ∃ Z, w3.cell? ⟨w.heap.size + 1 + 1 + 1, 2 * m + V, none⟩ = some (.string Z) := ⟨_, hta3.cell (2 * m + V) (by omega)⟩
      have f0 := hta3.frozen (2 * m + V)
      have hgs := grown_set w3 (w.heap.size + 1 + 1 + 1) (2 * m + V) (.string K)
      have hta4 := hta3.set (2 * m + V) K
      have hos4 : OS w.heap.size w (w3.setCell ⟨w.heap.size + 1 + 1 + 1, 2 * m + V, none⟩ (.string K)) v2 (txN o (m + 1)) := hos3.kept hgs (fun k hk => by simp at hk; omega) (os_ne hos3 hta3 (by decide))
      have htz4 : TA (w3.setCell ⟨w.heap.size + 1 + 1 + 1, 2 * m + V, none⟩ (.string K)) (w.heap.size + 1) 165 (List.replicate 16 ByteArray.empty) := htz3.keep (hgs.block _ htz3.lt (by simp))
      have hsg4 := hsg3.keptG hgs (by simp; omega)
      have d1 := hsg4.c2
      have d2 := hc2.out _ hos4.2.1
      obtain ⟨Z2, c4⟩ : ∃ Z, (w3.setCell ⟨w.heap.size + 1 + 1 + 1, 2 * m + V, none⟩ (.string K)).cell? ⟨w.heap.size + 1 + 1 + 1, 2 * m + 1 - V, none⟩ = some (.string Z) := ⟨_, hta4.cell (2 * m + 1 - V) (by rw [List.length_set]; omega)⟩
      have f4 := hta4.frozen (2 * m + 1 - V)
      have hgs2 := grown_set (w3.setCell ⟨w.heap.size + 1 + 1 + 1, 2 * m + V, none⟩ (.string K)) (w.heap.size + 1 + 1 + 1) (2 * m + 1 - V) (.string Y)
      have hta5 := hta4.set (2 * m + 1 - V) Y
      have hos5 := hos4.kept hgs2 (fun k hk => by simp at hk; omega) (os_ne hos4 hta4 (by decide))
      have htz5 : TA _ (w.heap.size + 1) 165 (List.replicate 16 ByteArray.empty) := htz4.keep (hgs2.block _ htz4.lt (by simp))
      have hsg5 := hsg4.keptG hgs2 (by simp; omega)
      rw [← HSTEP.out _ rfl] at hta5
      have HN : Hid (LtR b o s w a (.slice (some ⟨g1, o1, none⟩) 8 co) (.slice (some ⟨g2, o2, none⟩) 8 cs2) vd v2 (.int .i64 ((m : Int) + 1)) ((w3.setCell ⟨w.heap.size + 1 + 1 + 1, 2 * m + V, none⟩ (.string K)).setCell ⟨w.heap.size + 1 + 1 + 1, 2 * m + 1 - V, none⟩ (.string Y))) := ⟨m + 1, by omega, by simp, hos5, hta5, htz5, hsg5⟩
      clear hta5 hos5 htz5 hsg5 hta4 hos4 htz4 hsg4 hos3 hta3 htz3 hsg3 hgs hgs2 HSTEP hll htl HL HSS hc2
      go_wp2
      go_roundw
      case rel => exact HN.out
      case measure => simp [intOf]; omega
    · have hme : m = 8 := by omega
      subst hme
      rw [lkR_all] at hta
      have hll := lkN_len b o s 8
      have HTA : Hid (TA wr (w.heap.size + 1 + 1 + 1) 165 (lkN b o s 8) ∧ TA wr (w.heap.size + 1) 165 (List.replicate 16 ByteArray.empty)) := ⟨hta, htz⟩
      have HO : Hid (OS w.heap.size w wr u6 (txN o 8)) := hos
      clear hta htz hos hsg HSS HL
      go_wp2
      refine wp_region_still_tail 3 (by kernel_rfl) (by kernel_rfl) ?_
      simp only [List.take_succ_cons, List.take_zero, List.drop_succ_cons, List.drop_zero]
      still_step
      refine still_loadT rfl 165 _ rfl (w.heap.size + 1 + 1 + 1) 165 16 (lkN b o s 8) 9 rfl HTA.out.1 hll Tryz.underlying165 sizeA ?_
      still_step
      refine wpStill_nil ?_
      go_wp2_with (refine wp_storeT rfl 165 _ _ rfl (w.heap.size + 1) 165 16 (List.replicate 16 ByteArray.empty) (lkN b o s 8) HTA.out.2 (by simp) hll rfl rfl sizeA ?_; intro hfin)
      refine ret_rowArr 5 4 (w.heap.size + 1) 165 16 165 9 (lkN b o s 8) _ rfl rfl rfl rfl hfin hll Tryz.underlying165 sizeA ?_
      exact ⟨_, rfl, HO.out.drew.kept (grown_setRow2 _ _ _) (fun k hk => by simp at hk; omega) (os_ne HO.out HTA.out.2 (by decide))⟩

end Go.Proofs.YtgkfelhjbeegaaaGreatDoor
/-
  What PoolOf answers, and how a row of texts is folded two by two, the program's and the specification's.
-/
namespace Go.Proofs.YtgkfelhjbeegaaaGreatDoor
open Go.RowKit Go.BigFrame
set_option linter.unusedVariables false

/-- what PoolOf is -/
def poolL (s : ByteArray) : List ByteArray := (List.range 16).map fun i => pubA s (i : Nat)
theorem poolL_len (s : ByteArray) : (poolL s).length = 16 := by simp [poolL]
theorem poolL_at (s : ByteArray) (i : Nat) (h : i < (poolL s).length) : (poolL s)[i] = pubA s (i : Nat) := by simp [poolL]

def PlR (s : ByteArray) (w : World) (g : Nat) (i : Value) (wr : World) : Prop := ∃ m : Nat, m ≤ 16 ∧ i = .int .i64 m ∧ TB wr g (srow (poolL s) m) ∧ Below w.heap.size w wr

def PlS (s : ByteArray) (w : World) (v i : Value) (wr : World) : Prop := ∃ m : Nat, m ≤ 16 ∧ i = .int .i64 m ∧ OS w.heap.size w wr v ((poolL s).take m)

/-- a place of the row above -/
def upAt (l : List ByteArray) (i : Nat) : ByteArray := hashB 3 [l.getD (2 * i) ByteArray.empty, l.getD (2 * i + 1) ByteArray.empty] 16
/-- the row above -/
def upL (l : List ByteArray) : List ByteArray := (List.range (l.length / 2)).map (upAt l)
theorem upL_len (l : List ByteArray) : (upL l).length = l.length / 2 := by simp [upL]
theorem upL_at (l : List ByteArray) (i : Nat) (h : i < (upL l).length) : (upL l)[i] = upAt l i := by simp [upL]
theorem upAt_eq (l : List ByteArray) (i : Nat) (h : 2 * i + 1 < l.length) : upAt l i = hashB 3 [l[2 * i], l[2 * i + 1]] 16 := by
  unfold upAt
  rw [List.getD_eq_getElem?_getD, List.getD_eq_getElem?_getD, List.getElem?_eq_getElem (by omega), List.getElem?_eq_getElem h]
  rfl

theorem taggedHash_litd (k : Int) (l : List ByteArray) (n : Nat) (cs : Array Value) (w : World) (g : Nat) (hg : w.heap.size = g) (hn : l.length = n) (hl : n ≤ 60) (hc : cs = (svs l).toArray) (hT : Tb w) :
    Hid (Calls Tryz.prog 111 #[.int .i64 16, .int .i64 k, .slice (some ⟨g, 0, none⟩) n n] (w.alloc (.cells cs 9)).drew fun e w' => e = .returned (.string (hashB k l 16)) ∧ Below w.heap.size w w') := by
  have h := taggedHash_lit k l n cs w.drew g hg hn hl hc hT
  exact h.out.mono fun e w' ⟨he, hb⟩ => ⟨he, (Below.refl _ _).drew.trans hb⟩
theorem sTagHash_litd (k : Int) (l : List ByteArray) (n : Nat) (cs : Array Value) (w : World) (g : Nat) (hg : w.heap.size = g) (hn : l.length = n) (hl : n ≤ 60) (hc : cs = (svs l).toArray) :
    Hid (Calls Tryz.prog 46 #[.int .i64 k, .slice (some ⟨g, 0, none⟩) n n, .int .i64 16] (w.alloc (.cells cs 9)).drew fun e w' => e = .returned (.string (hashB k l 16)) ∧ Below w.heap.size w w') := by
  have h := sTagHash_lit k l n cs w.drew g hg hn hl hc
  exact h.out.mono fun e w' ⟨he, hb⟩ => ⟨he, (Below.refl _ _).drew.trans hb⟩

theorem cell_other_set {w : World} {g m : Nat} {u x : Value} {p : Addr} (h : p.block ≠ g) (hc : w.cell? p = some x) : (w.setCell ⟨g, m, none⟩ u).cell? p = some x :=
  (World.cell?_of_block (w := w) (heap_setCell_other w ⟨g, m, none⟩ p.block u h)).trans hc

def RaR (l : List ByteArray) (w : World) (g : Nat) (i : Value) (wr : World) : Prop := ∃ m : Nat, m ≤ l.length / 2 ∧ i = .int .i64 m ∧ TB wr g (srow (upL l) m) ∧ Below w.heap.size w wr

end Go.Proofs.YtgkfelhjbeegaaaGreatDoor
/-
  What PoolRoot answers, the program's and the specification's.
-/
namespace Go.Proofs.YtgkfelhjbeegaaaGreatDoor
open Go.RowKit Go.BigFrame
set_option linter.unusedVariables false

/-- one text appended, in a region that draws -/
theorem step_appS {w : World} {ops : Array Oper} {o : Oper} {a : Act} {K : Act → World → Prop} {Q : Exit → Act → World → Prop} {E : Prop} (hg : o.guard = none) (s x : Operand)
    (hop : o.op = .call { callee := .builtin .append, args := #[s, x], argTypes := #[22, 22] })
    (B : Nat) (w0 : World) (v : Value) (l : List ByteArray) (hs : a.eval s = v) (hown : OS B w0 w v l)
    (ad : Addr) (t : ByteArray) (hx : a.eval x = .slice (some ad) 1 1) (hnews : w.cell? ad = some (.string t)) (hlen : l.length ≤ 1000000)
    (hK : ∀ v' w', OS B w0 w' v' (l ++ [t]) → w.grownBy w' v.ownBlock → K (a.put o.dst v') w') : if Region.wanted o (yielded ops a.tmps) = true then Oper.wp Tryz.prog o a w K Q else E := by
  obtain ⟨i0, hi, hz0, hz1, hz2⟩ := info_parts Tryz.info9
  have h0 : ∀ j u, [Value.string t][j]? = some u → w.cell? (ad.add j) = some u := by
    intro j u hj
    match j, hj with
    | 0, hj =>
      simp at hj
      subst hj
      have : ad.add 0 = ad := by unfold Addr.add; split <;> simp_all
      rw [this]
      exact hnews
  obtain ⟨v', w', hrun, h1, h2, _⟩ := run_append_own (P := Tryz.prog) w B 22 o.type 9 i0 (.string ByteArray.empty) 1 16 Tryz.underlying22 hi hz0 hz1 hz2 rfl (by decide) v l.length (svs l) hown.1 ad 1 1 [.string t] rfl h0
    (fun u hu => by simp at hu; subst hu; rfl) (by unfold maxLen; omega) (by omega) hown.2.2
  have hOB : OS B w0 w' v' (l ++ [t]) := ⟨by simpa [svs] using h1, hown.2.1.grown h2 hown.2.2 (fun k hk => (hown.1.lt k hk).1), Nat.le_trans hown.2.2 h2.size⟩
  have hw : Region.wanted o (yielded ops a.tmps) = true := by simp [Region.wanted, hg]
  rw [if_pos hw]
  unfold Oper.wp
  simp [execOp, hop, resolve, invoke, builtin, hs, hx, hrun, Result.andThen]
  exact hK v' w' hOB h2

/-- a row of texts appended -/
theorem wp_appRow {w : World} {ops : Array Oper} {rest : List Oper} {o : Oper} {a : Act} {Q : Exit → Act → World → Prop} (hgd : o.guard = none) (s x : Operand)
    (ho : o.op = .call { callee := .builtin .append, args := #[s, x], argTypes := #[22, 22] })
    (B : Nat) (w0 : World) (v u : Value) (l r : List ByteArray) (hs : a.eval s = v) (hown : OS B w0 w v l) (hx : a.eval x = u) (g of : Nat) (hr : SS w u g of r) (h0 : 0 < r.length) (hlen : l.length + r.length ≤ 1000000)
    (h : ∀ v' w', OS B w0 w' v' (l ++ r) → w.grownBy w' v.ownBlock → wpList Tryz.prog ops Q rest (a.put o.dst v') w') : wpList Tryz.prog ops Q (o :: rest) a w := by
  obtain ⟨i0, hi, hz0, hz1, hz2⟩ := info_parts Tryz.info9
  obtain ⟨ao, cap, rfl, _, hA, hc⟩ := hr
  have ea := hA h0
  subst ea
  refine wpList_append_own _ hgd s x 22 ho B 9 i0 (.string ByteArray.empty) 1 16 Tryz.underlying22 hi hz0 hz1 hz2 rfl (by decide) v l.length (svs l) hs hown.1 ⟨g, of, none⟩ r.length cap (svs r) hx (by simp [svs]) ?_
    (fun u hu => by simp [svs] at hu; obtain ⟨b, _, rfl⟩ := hu; rfl) (by unfold maxLen; omega) (by omega) hown.2.2 ?_
  · intro j u hj
    have hj2 : j < r.length := by
      have := (List.getElem?_eq_some_iff.1 hj).1
      simpa [svs] using this
    have e : (⟨g, of, none⟩ : Addr).add j = ⟨g, of + j, none⟩ := by unfold Addr.add; split <;> simp_all
    rw [e, hc j hj2]
    simp [svs, List.getElem?_eq_getElem hj2] at hj
    rw [hj]
  · intro v' w' h1 h2 _
    refine h v' w' ⟨by rw [List.length_append, svs_append]; exact h1, hown.2.1.grown h2 hown.2.2 (fun k hk => (hown.1.lt k hk).1), ?_⟩ h2
    exact Nat.le_trans hown.2.2 h2.size

def LuR (l : List ByteArray) (w : World) (v i : Value) (wr : World) : Prop := ∃ m : Nat, m ≤ l.length / 2 ∧ i = .int .i64 (2 * m : Nat) ∧ OS w.heap.size w wr v ((upL l).take m)

/-- so many rows up -/
def upN (l : List ByteArray) : Nat → List ByteArray
  | 0 => l
  | j + 1 => upL (upN l j)
theorem upN_len (l : List ByteArray) (h : l.length = 16) : (upN l 0).length = 16 ∧ (upN l 1).length = 8 ∧ (upN l 2).length = 4 ∧ (upN l 3).length = 2 ∧ (upN l 4).length = 1 := by
  simp [upN, upL_len, h]
theorem upN_pow (l : List ByteArray) (h : l.length = 16) (j : Nat) (hj : j ≤ 4) : (upN l j).length = 16 / 2 ^ j := by
  have := upN_len l h
  have h0 : j = 0 ∨ j = 1 ∨ j = 2 ∨ j = 3 ∨ j = 4 := by omega
  rcases h0 with rfl | rfl | rfl | rfl | rfl
  · exact this.1
  · exact this.2.1
  · exact this.2.2.1
  · exact this.2.2.2.1
  · exact this.2.2.2.2
/-- what PoolRoot is of sixteen texts -/
def rootB (l : List ByteArray) : ByteArray := (upN l 4).getD 0 ByteArray.empty
theorem rootB_eq (l : List ByteArray) (h : 0 < (upN l 4).length) : (upN l 4)[0] = rootB l := by
  unfold rootB
  rw [List.getD_eq_getElem?_getD, List.getElem?_eq_getElem h]
  rfl
def rootA (l : List ByteArray) : ByteArray := if l.length = 16 then rootB l else ⟨#[]⟩

def SrR (l : List ByteArray) (w : World) (v : Value) (wr : World) : Prop := ∃ j : Nat, j ≤ 4 ∧ OS w.heap.size w wr v (upN l j)

theorem OS.up {B : Nat} {w0 w w' : World} {u : Value} {l : List ByteArray} (hb : Below B w0 w) (hB : B ≤ w.heap.size) (h : OS w.heap.size w w' u l) : OS B w0 w' u l := by
  refine ⟨⟨h.1.1, ?_⟩, hb.trans (h.2.1.mono hB), Nat.le_trans hB h.2.2⟩
  rcases h.1.2 with hn | ⟨g, cap, cur, hv, hbg, rest⟩
  · exact .inl hn
  · exact .inr ⟨g, cap, cur, hv, Nat.le_trans hB hbg, rest⟩

end Go.Proofs.YtgkfelhjbeegaaaGreatDoor
