/-
  Texts laid together: Sgx, Lkt, Sgt, Sgs, Sgo, Sgp.
-/
import Derived.Test.YtmfoliocibjdnaaDoorPkK
import Derived.Test.YtmfoliocibjdnaaDoorPkD
import Derived.Test.YtmfoliocibjdnaaDoorPkE
import Derived.Deep.AppendLies
import Derived.StillTailTactics
/-
  What is digested of a signature, in plain words: its locks, its public text, the texts on the way to the root; two rows of texts that grow side by side.
-/
namespace Go.Proofs.YtmfoliocibjdnaaDoor
open Go.RowKit Go.BigFrame
set_option linter.unusedVariables false

/-- the bit of a byte at a level, the highest first -/
def bitN (b i : Nat) : Nat := b / 2 ^ (7 - i) % 2
theorem bitN_lt (b i : Nat) : bitN b i < 2 := Nat.mod_lt _ (by omega)
theorem bitI_nat (b i : Nat) (hb : b < 256) : bitI (b : Int) i = (bitN b i : Int) := by
  unfold bitI bitN
  have e1 : ((b : Int) / 2 ^ (7 - i)) = ((b / 2 ^ (7 - i) : Nat) : Int) := by simp
  rw [e1]
  have hlt : b / 2 ^ (7 - i) < 256 := Nat.lt_of_le_of_lt (Nat.div_le_self _ _) hb
  generalize b / 2 ^ (7 - i) = n at *
  have e : bits .and .i64 (n : Int) 1 = IntKind.i64.wrap ((BitVec.ofInt 64 (n : Int) &&& BitVec.ofInt 64 1).toNat : Int) := rfl
  have e2 : (BitVec.ofInt 64 (n : Int) &&& BitVec.ofInt 64 1).toNat = n % 2 := by
    rw [BitVec.toNat_and, BitVec.ofInt_natCast, BitVec.toNat_ofNat, Nat.mod_eq_of_lt (by omega)]
    have : (BitVec.ofInt 64 1).toNat = 1 := by decide
    rw [this, Nat.and_one_is_mod]
  rw [e, e2, IntWalk.i64_in _ (by omega)]

def gB (l : List ByteArray) (i : Nat) : ByteArray := l.getD i ByteArray.empty
theorem gB_eq (l : List ByteArray) (i : Nat) (h : i < l.length) : l[i] = gB l i := by
  unfold gB
  rw [List.getD_eq_getElem?_getD, List.getElem?_eq_getElem h]
  rfl
/-- two locks of a bit -/
def lk2 (b : Nat) (o s : List ByteArray) (i : Nat) : List ByteArray := if bitN b i = 0 then [lockB (gB o i), gB s i] else [gB s i, lockB (gB o i)]
/-- the locks of the first m bits -/
def lkN (b : Nat) (o s : List ByteArray) (m : Nat) : List ByteArray := (List.range m).flatMap (lk2 b o s)
theorem lk2_len (b : Nat) (o s : List ByteArray) (i : Nat) : (lk2 b o s i).length = 2 := by
  unfold lk2
  split <;> rfl
theorem lkN_step (b : Nat) (o s : List ByteArray) (m : Nat) : lkN b o s (m + 1) = lkN b o s m ++ lk2 b o s m := by
  unfold lkN
  rw [List.range_succ, List.flatMap_append]
  simp
theorem lkN_len (b : Nat) (o s : List ByteArray) (m : Nat) : (lkN b o s m).length = 2 * m := by
  induction m with
  | zero => rfl
  | succ m ih =>
    rw [lkN_step, List.length_append, ih, lk2_len]
    omega
/-- the text of one opened secret -/
def tx1 (o : List ByteArray) (i : Nat) : ByteArray := tagB 6 [gB o i]
def txN (o : List ByteArray) (m : Nat) : List ByteArray := (List.range m).map (tx1 o)
theorem txN_step (o : List ByteArray) (m : Nat) : txN o (m + 1) = txN o m ++ [tx1 o m] := by
  unfold txN
  rw [List.range_succ, List.map_append]
  rfl
theorem txN_len (o : List ByteArray) (m : Nat) : (txN o m).length = m := by simp [txN]
/-- the text of the public key -/
def pubT (b : Nat) (o s : List ByteArray) : ByteArray := tagB 6 (lkN b o s 8)
def cut16 (t : ByteArray) : ByteArray := cutH t 16
/-- the text of a node: what came up stands left or right -/
def nodeT (p : Nat) (h x : ByteArray) : ByteArray := if p = 0 then tagB 3 [h, x] else tagB 3 [x, h]
/-- the texts on the way up -/
def fT (a : Nat) (d : List ByteArray) (t : ByteArray) : Nat → ByteArray
  | 0 => t
  | i + 1 => nodeT (a / 2 ^ i % 2) (cut16 (fT a d t i)) (gB d i)
def fN (a : Nat) (d : List ByteArray) (t : ByteArray) (m : Nat) : List ByteArray := (List.range m).map (fT a d t)
theorem fN_step (a : Nat) (d : List ByteArray) (t : ByteArray) (m : Nat) : fN a d t (m + 1) = fN a d t m ++ [fT a d t m] := by
  unfold fN
  rw [List.range_succ, List.map_append]
  rfl
theorem fN_len (a : Nat) (d : List ByteArray) (t : ByteArray) (m : Nat) : (fN a d t m).length = m := by simp [fN]
/-- what SigTexts is where the form is right -/
def sgT (b a : Nat) (o s d : List ByteArray) : List ByteArray := txN o 8 ++ fN a d (pubT b o s) 5
theorem sgT_len (b a : Nat) (o s d : List ByteArray) : (sgT b a o s d).length = 13 := by simp [sgT, txN_len, fN_len]
/-- what SigTexts is -/
def sigT (t : ByteArray) (a : Int) (o s d : List ByteArray) : List ByteArray := if formB a o s d && decide (t.size ≤ 200) then sgT (bitsB t) a.toNat o s d else []
theorem sigT_len (t : ByteArray) (a : Int) (o s d : List ByteArray) : (sigT t a o s d).length ≤ 13 := by
  unfold sigT
  split
  · rw [sgT_len]
    omega
  · simp

theorem cut16_tag (k : Int) (l : List ByteArray) (h : tagOk k l = true) : cut16 (tagB k l) = hashB k l 16 := by
  unfold cut16 hashB
  rw [if_pos h]
theorem lock_cut (o : List ByteArray) (i : Nat) (h : (gB o i).size ≤ 200) : cut16 (tx1 o i) = lockB (gB o i) := by
  unfold tx1 lockB
  refine cut16_tag 6 _ ?_
  rw [tagOk_one 6 _ (by omega), decide_eq_true h]
theorem cut16_size (k : Int) (l : List ByteArray) : (cut16 (tagB k l)).size ≤ 16 := by
  unfold cut16 cutH cutB
  rw [if_pos (by omega)]
  rw [ByteArray.size_extract]
  show min 16 _ - 0 ≤ 16
  omega
theorem fT_size (a : Nat) (d : List ByteArray) (t : ByteArray) (ht : t.size ≤ 12601) (i : Nat) : (fT a d t i).size ≤ 12601 := by
  cases i with
  | zero => exact ht
  | succ i =>
    show (nodeT _ _ _).size ≤ _
    unfold nodeT
    split
    · exact tagB_size _ _
    · exact tagB_size _ _

/-- one row of texts stays what it is behind what was appended to another -/
theorem OS.kept {B : Nat} {w0 w w' : World} {v : Value} {row : Option Nat} {l : List ByteArray} (h : OS B w0 w v l) (hg : w.grownBy w' row) (hB : ∀ k, row = some k → B ≤ k) (hne : v.ownBlock = none ∨ v.ownBlock ≠ row) : OS B w0 w' v l :=
  ⟨World.ownsRow.kept h.1 hg hne, h.2.1.grown hg h.2.2 hB, Nat.le_trans h.2.2 hg.size⟩

/-- two rows of texts, each with memory of its own -/
def TwR (B : Nat) (w0 w : World) (u v : Value) (l r : List ByteArray) : Prop := OS B w0 w u l ∧ OS B w0 w v r ∧ (∀ g, u.ownBlock = some g → v.ownBlock ≠ some g)
theorem TwR.swap {B : Nat} {w0 w : World} {u v : Value} {l r : List ByteArray} (h : TwR B w0 w u v l r) : TwR B w0 w v u r l := ⟨h.2.1, h.1, fun g hg hu => h.2.2 g hu hg⟩
theorem TwR.later {B : Nat} {w0 w w' : World} {u v : Value} {l r : List ByteArray} (h : TwR B w0 w u v l r) (hb : Below w.heap.size w w') : TwR B w0 w' u v l r := ⟨h.1.later hb, h.2.1.later hb, h.2.2⟩
theorem TwR.alloc {B : Nat} {w0 w : World} {u v : Value} {l r : List ByteArray} (h : TwR B w0 w u v l r) (x : Obj) : TwR B w0 (w.alloc x) u v l r := ⟨h.1.alloc x, h.2.1.alloc x, h.2.2⟩
theorem TwR.drew {B : Nat} {w0 w : World} {u v : Value} {l r : List ByteArray} (h : TwR B w0 w u v l r) : TwR B w0 w.drew u v l r := ⟨h.1.drew, h.2.1.drew, h.2.2⟩

theorem lit_at (w : World) (news : List ByteArray) (cs : Array Value) (hc : cs = (svs news).toArray) : ∀ j u, (svs news)[j]? = some u → (w.alloc (.cells cs 9)).cell? ((⟨w.heap.size, 0, none⟩ : Addr).add j) = some u := by
  intro j u hj
  subst hc
  have e : (⟨w.heap.size, 0, none⟩ : Addr).add j = ⟨w.heap.size, j, none⟩ := by unfold Addr.add; split <;> simp_all
  rw [e, World.cell?_alloc_at _ _ _ _ rfl]
  simpa using hj

/-- what an append to the first row leaves -/
theorem TwR.grow {B : Nat} {w0 w w' : World} {u v : Value} {l r news : List ByteArray} {g cap n : Nat} (h : TwR B w0 w u v l r) (hn : l.length + news.length = n) (h1 : w'.ownsRow B 9 1 (.slice (some ⟨g, 0, none⟩) n cap) n (svs l ++ svs news)) (h2 : w.grownBy w' u.ownBlock) (h3 : u.ownBlock = some g ∨ g = w.heap.size) :
    TwR B w0 w' (.slice (some ⟨g, 0, none⟩) n cap) v (l ++ news) r := by
  subst hn
  have hB : ∀ k, u.ownBlock = some k → B ≤ k := fun k hk => (h.1.1.lt k hk).1
  refine ⟨⟨by rw [List.length_append, svs_append]; exact h1, h.1.2.1.grown h2 h.1.2.2 hB, Nat.le_trans h.1.2.2 h2.size⟩, h.2.1.kept h2 hB ?_, ?_⟩
  · cases hv : v.ownBlock with
    | none => exact .inl rfl
    | some k => exact .inr (fun e => h.2.2 k e.symm hv)
  · intro k hk hv
    simp [Value.ownBlock] at hk
    subst hk
    rcases h3 with h3 | h3
    · exact h.2.2 g h3 hv
    · have := (h.2.1.1.lt g hv).2
      omega

/-- texts that are written out, appended to the first of two rows -/
theorem wp_tw {w : World} {ops : Array Oper} {rest : List Oper} {o : Oper} {a : Act} {Q : Exit → Act → World → Prop} (hgd : o.guard = none) (s x : Operand)
    (ho : o.op = .call { callee := .builtin .append, args := #[s, x], argTypes := #[24, 24] })
    (B : Nat) (w0 : World) (u v : Value) (l r news : List ByteArray) (hs : a.eval s = u) (h : TwR B w0 w u v l r) (p m c : Nat) (hx : a.eval x = .slice (some ⟨p, 0, none⟩) m c) (hm : news.length = m) (h0 : 0 < m)
    (hnews : ∀ j u, (svs news)[j]? = some u → w.cell? ((⟨p, 0, none⟩ : Addr).add j) = some u) (hlen : l.length + m ≤ 1000000)
    (hk : ∀ v' w', TwR B w0 w' v' v (l ++ news) r → wpList Tryd.prog ops Q rest (a.put o.dst v') w') : wpList Tryd.prog ops Q (o :: rest) a w := by
  obtain ⟨i0, hi, hz0, hz1, hz2⟩ := info_parts Tryd.info9
  refine wpList_append_lies w hgd s x 24 ho B 9 i0 (.string ByteArray.empty) 1 16 Tryd.underlying24 hi hz0 hz1 hz2 rfl (by decide) u l.length (svs l) hs h.1.1 ⟨p, 0, none⟩ m c (svs news) hx (by simp [svs, hm]) hnews
    (fun u hu => by simp [svs] at hu; obtain ⟨b, _, rfl⟩ := hu; rfl) h0 (by unfold maxLen; omega) (by omega) h.1.2.2 w.heap.size rfl ?_
  intro g cap w' h1 h2 h3 _
  exact hk _ _ (h.grow (by omega) h1 h2 h3)
theorem step_tw {w : World} {ops : Array Oper} {o : Oper} {a : Act} {K : Act → World → Prop} {Q : Exit → Act → World → Prop} {E : Prop} (hgd : o.guard = none) (s x : Operand)
    (ho : o.op = .call { callee := .builtin .append, args := #[s, x], argTypes := #[24, 24] })
    (B : Nat) (w0 : World) (u v : Value) (l r news : List ByteArray) (hs : a.eval s = u) (h : TwR B w0 w u v l r) (p m c : Nat) (hx : a.eval x = .slice (some ⟨p, 0, none⟩) m c) (hm : news.length = m) (h0 : 0 < m)
    (hnews : ∀ j u, (svs news)[j]? = some u → w.cell? ((⟨p, 0, none⟩ : Addr).add j) = some u) (hlen : l.length + m ≤ 1000000)
    (hk : ∀ v' w', TwR B w0 w' v' v (l ++ news) r → K (a.put o.dst v') w') : if Region.wanted o (yielded ops a.tmps) = true then Oper.wp Tryd.prog o a w K Q else E := by
  obtain ⟨i0, hi, hz0, hz1, hz2⟩ := info_parts Tryd.info9
  refine step_append_lies w hgd s x 24 ho B 9 i0 (.string ByteArray.empty) 1 16 Tryd.underlying24 hi hz0 hz1 hz2 rfl (by decide) u l.length (svs l) hs h.1.1 ⟨p, 0, none⟩ m c (svs news) hx (by simp [svs, hm]) hnews
    (fun u hu => by simp [svs] at hu; obtain ⟨b, _, rfl⟩ := hu; rfl) h0 (by unfold maxLen; omega) (by omega) h.1.2.2 w.heap.size rfl ?_
  intro g cap w' h1 h2 h3 _
  exact hk _ _ (h.grow (by omega) h1 h2 h3)

/-- what the texts of a key are -/
theorem keyText_any (k : Int) (v : Value) (g o : Nat) (l : List ByteArray) (w : World) (hv : SS w v g o l) :
    Calls Tryd.prog 90 #[.int .i64 k, v] w fun e w' => e = .returned (.string (tagB k l)) ∧ Below w.heap.size w w' := by
  have hc := tagged_any k v g o l w hv
  obtain ⟨a, cap, rfl, _⟩ := hv
  generalize tagB k l = T at *
  generalize tagOk k l = R at *
  go_enter Tryd.func90, Tryd.ntmps90
  go_wp2_with fail
  refine hc.mono ?_
  rintro e w1 ⟨rfl, hb1⟩
  go_wp2
  go_ret
  exact ⟨rfl, hb1⟩
theorem keyText_lit (k : Int) (l : List ByteArray) (n : Nat) (cs : Array Value) (w : World) (g : Nat) (hg : w.heap.size = g) (hn : l.length = n) (hl : n ≤ 60) (hc : cs = (svs l).toArray) :
    Hid (Calls Tryd.prog 90 #[.int .i64 k, .slice (some ⟨g, 0, none⟩) n n] (w.alloc (.cells cs 9)) fun e w' => e = .returned (.string (tagB k l)) ∧ Below w.heap.size w w') := by
  subst hg
  exact (keyText_any k _ w.heap.size 0 l (w.alloc (.cells cs 9)) (ss_lits w l cs n hn (by omega) hc)).mono fun e w' ⟨he, hb⟩ => ⟨he, ((Below.refl _ _).alloc (Nat.le_refl _) _).trans (hb.mono (by simp))⟩
theorem sTagText_lit (k : Int) (l : List ByteArray) (n : Nat) (cs : Array Value) (w : World) (g : Nat) (hg : w.heap.size = g) (hn : l.length = n) (hl : n ≤ 60) (hc : cs = (svs l).toArray) :
    Hid (Calls Tryd.prog 92 #[.int .i64 k, .slice (some ⟨g, 0, none⟩) n n] (w.alloc (.cells cs 9)) fun e w' => e = .returned (.tuple #[.string (tagB k l), .bool (tagOk k l)]) ∧ Below w.heap.size w w') := by
  subst hg
  exact (sTagText_any k _ w.heap.size 0 l (w.alloc (.cells cs 9)) (ss_lits w l cs n hn (by omega) hc)).mono fun e w' ⟨he, hb⟩ => ⟨he, ((Below.refl _ _).alloc (Nat.le_refl _) _).trans (hb.mono (by simp))⟩

theorem val_any (b i : Nat) (x : Int) (w : World) (hb : b < 256) (hx : x = (i : Int)) (hi : i ≤ 7) :
    Calls Tryd.prog 110 #[.int .u8 (b : Int), .int .i64 x] w fun e w' => e = .returned (.int .i64 (bitN b i : Int)) ∧ w' = w := by
  subst hx
  have hc := BitOf_yes (b : Int) i w hi
  rw [bitI_nat b i hb] at hc
  generalize bitN b i = B at *
  go_enter Tryd.func110, Tryd.ntmps110
  go_wp2_with fail
  refine hc.mono ?_
  rintro e w1 ⟨rfl, rfl⟩
  go_wp2
  go_ret
  exact ⟨rfl, rfl⟩
theorem sBitOf_at (b i : Nat) (x : Int) (w : World) (hb : b < 256) (hx : x = (i : Int)) (hi : i ≤ 7) :
    Calls Tryd.prog 41 #[.int .i64 (b : Int), .int .i64 x] w fun e w' => e = .returned (.int .i64 (bitN b i : Int)) ∧ w' = w := by
  subst hx
  have hc := sBitOf_yes (b : Int) i w hi
  rw [bitI_nat b i hb] at hc
  exact hc

end Go.Proofs.YtmfoliocibjdnaaDoor
/-
  What lockTexts answers: the texts of the opened secrets, and all locks.
-/
namespace Go.Proofs.YtmfoliocibjdnaaDoor
open Go.RowKit Go.BigFrame
set_option linter.unusedVariables false

/-- 'make([]string, 0, n)' -/
theorem run_mkT (n : Nat) (h : n ≤ 1000000000) (W : World) : ∃ M : Array Value, (Instr.makeSlice 24 (.int .i64 0) (.int .i64 (n : Int))).run Tryd.prog W = .ok (.slice (some ⟨W.heap.size, 0, none⟩) 0 n) (W.alloc (.cells M 9)) ∧ OS W.heap.size W (W.alloc (.cells M 9)) (.slice (some ⟨W.heap.size, 0, none⟩) 0 n) [] := by
  obtain ⟨i0, hi, hz0, hz1, hz2⟩ := info_parts Tryd.info9
  have h1 := run_make (P := Tryd.prog) W 24 9 i0 (.string ByteArray.empty) Tryd.underlying24 hi hz0 .i64 .i64 0 (n : Int) (by omega) (by omega) (by rw [hz2]; omega) (by omega)
  refine ⟨madeCells (Value.string ByteArray.empty).cells (((n : Nat) : Int).toNat * i0.size), by simpa using h1, ?_⟩
  refine ⟨World.ownsRow_made W _ n (Nat.le_refl _) (by unfold maxLen; omega) ?_, (Below.refl _ _).alloc (Nat.le_refl _) _, by simp⟩
  rw [size_madeCells, hz1]
  simp

/-- an array of texts is no row that a call appends to -/
theorem TA.keptO {w w' : World} {g t B : Nat} {w0 : World} {v : Value} {l r : List ByteArray} (h : TA w g t l) (ht : t ≠ 9) (ho : OS B w0 w v r) (hg : w.grownBy w' v.ownBlock) : TA w' g t l := by
  have hlt : g < w.heap.size := h.lt
  refine h.keep (hg.block g hlt ?_)
  intro he
  rcases ho.1.2 with ⟨rfl, _⟩ | ⟨g', cap, cur, rfl, _, hg', _⟩
  · simp [Value.ownBlock] at he
  · simp [Value.ownBlock] at he
    subst he
    unfold TA at h
    rw [h] at hg'
    simp at hg'
    exact ht hg'.2
theorem SgM.keptO {w w' : World} {g B : Nat} {w0 : World} {v : Value} {x : Int} {v1 v2 v3 : Value} {r : List ByteArray} (h : SgM w g x v1 v2 v3) (ho : OS B w0 w v r) (hg : w.grownBy w' v.ownBlock) : SgM w' g x v1 v2 v3 := by
  refine h.keep (hg.block g h.lt ?_)
  intro he
  rcases ho.1.2 with ⟨rfl, _⟩ | ⟨g', cap, cur, rfl, _, hg', _⟩
  · simp [Value.ownBlock] at he
  · simp [Value.ownBlock] at he
    subst he
    unfold SgM at h
    rw [h] at hg'
    simp at hg'

theorem os_ne {B g t : Nat} {w0 w : World} {v : Value} {l r : List ByteArray} (ho : OS B w0 w v r) (h : TA w g t l) (ht : t ≠ 9) : v.ownBlock = none ∨ v.ownBlock ≠ some g := by
  refine .inr (fun he => ?_)
  rcases ho.1.2 with ⟨rfl, _⟩ | ⟨g', cap, cur, rfl, _, hg', _⟩
  · simp [Value.ownBlock] at he
  · simp [Value.ownBlock] at he
    subst he
    unfold TA at h
    rw [h] at hg'
    simp at hg'
    exact ht hg'.2

/-- one text appended, and that nothing else turned -/
theorem wp_appSG {w : World} {ops : Array Oper} {rest : List Oper} {o : Oper} {a : Act} {Q : Exit → Act → World → Prop} (hgd : o.guard = none) (s x : Operand)
    (ho : o.op = .call { callee := .builtin .append, args := #[s, x], argTypes := #[24, 24] })
    (B : Nat) (w0 : World) (v : Value) (l : List ByteArray) (hs : a.eval s = v) (hown : OS B w0 w v l)
    (ad : Addr) (t : ByteArray) (hx : a.eval x = .slice (some ad) 1 1) (hnews : w.cell? ad = some (.string t)) (hlen : l.length ≤ 1000000)
    (h : ∀ v' w', OS B w0 w' v' (l ++ [t]) → w.grownBy w' v.ownBlock → wpList Tryd.prog ops Q rest (a.put o.dst v') w') : wpList Tryd.prog ops Q (o :: rest) a w := by
  obtain ⟨i0, hi, hz0, hz1, hz2⟩ := info_parts Tryd.info9
  refine wpList_append_own _ hgd s x 24 ho B 9 i0 (.string ByteArray.empty) 1 16 Tryd.underlying24 hi hz0 hz1 hz2 rfl (by decide) v l.length (svs l) hs hown.1 ad 1 1 [.string t] hx rfl ?_
    (fun u hu => by simp at hu; subst hu; rfl) (by unfold maxLen; omega) (by omega) hown.2.2 ?_
  · intro j u hj
    match j, hj with
    | 0, hj =>
      simp at hj
      subst hj
      have : ad.add 0 = ad := by unfold Addr.add; split <;> simp_all
      rw [this]
      exact hnews
  · intro v' w' h1 h2 _
    exact h v' w' ⟨by simpa [svs] using h1, hown.2.1.grown h2 hown.2.2 (fun k hk => (hown.1.lt k hk).1), Nat.le_trans hown.2.2 h2.size⟩ h2

/-- the locks so far, and nothing behind -/
def lkR (b : Nat) (o s : List ByteArray) (m : Nat) : List ByteArray := lkN b o s m ++ List.replicate (16 - 2 * m) ByteArray.empty
theorem lkR_len (b : Nat) (o s : List ByteArray) (m : Nat) (h : m ≤ 8) : (lkR b o s m).length = 16 := by
  unfold lkR
  rw [List.length_append, lkN_len, List.length_replicate]
  omega
theorem lkR_all (b : Nat) (o s : List ByteArray) : lkR b o s 8 = lkN b o s 8 := by simp [lkR]
theorem lkR_step (b : Nat) (o s : List ByteArray) (m : Nat) (h : m < 8) : ((lkR b o s m).set (2 * m + bitN b m) (lockB (gB o m))).set (2 * m + 1 - bitN b m) (gB s m) = lkR b o s (m + 1) := by
  unfold lkR
  rw [lkN_step]
  have e : 16 - 2 * m = (16 - 2 * (m + 1)) + 1 + 1 := by omega
  rw [e, List.replicate_succ, List.replicate_succ]
  have hl := lkN_len b o s m
  have hb := bitN_lt b m
  have h0 : bitN b m = 0 ∨ bitN b m = 1 := by omega
  rcases h0 with h0 | h0
  · rw [h0, List.set_append_right _ _ (by omega), hl, show 2 * m + 0 - 2 * m = 0 by omega, List.set_cons_zero, List.set_append_right _ _ (by omega), hl, show 2 * m + 1 - 0 - 2 * m = 1 by omega]
    unfold lk2
    rw [h0]
    simp
  · rw [h0, List.set_append_right _ _ (by omega), hl, show 2 * m + 1 - 2 * m = 1 by omega, List.set_cons_succ, List.set_cons_zero, List.set_append_right _ _ (by omega), hl, show 2 * m + 1 - 1 - 2 * m = 0 by omega]
    unfold lk2
    rw [h0]
    simp

theorem grown_setRow2 (w : World) (g : Nat) (R : Array Value) : w.grownBy (w.setRow g R) (some g) :=
  ⟨rfl, rfl, rfl, by simp [World.setRow], fun k _ hk => setRow_other w g k R (fun e => hk (by simp [e]))⟩
theorem still_loadT {w : World} {ops : Array Oper} {rest : List Oper} {o : Oper} {a : Act} {Q : Act → Prop} (hgd : o.guard = none) (ty : TypeId) (p : Operand) (ho : o.op = .load ty p) (g t n : Nat) (l : List ByteArray) (e : TypeId) (hp : a.eval p = .pointer (some ⟨g, 0, none⟩)) (hA : TA w g t l) (hl : l.length = n)
    (hu : Tryd.prog.underlying ty = some (.array n e)) (hi : (Tryd.prog.info? ty).map (·.size) = some n)
    (h : wpStill Tryd.prog ops w Q rest (a.put o.dst (.agg (svs l).toArray))) : wpStill Tryd.prog ops w Q (o :: rest) a := by
  refine wpStill_step fun K hK => ?_
  have hr := run_loadT ty e hu hi hl hA
  have hw : Region.wanted o (yielded ops a.tmps) = true := by simp [Region.wanted, hgd]
  rw [if_pos hw]
  unfold Oper.still
  simp [execOp, ho, hp, hr, Result.andThen, Oper.stillUpon]
  exact hK _ h

/-- what each round of lockTexts holds -/
def LtR (b : Nat) (o s : List ByteArray) (w : World) (a : Int) (vo vs vd v i : Value) (wr : World) : Prop :=
  ∃ m : Nat, m ≤ 8 ∧ i = .int .i64 m ∧ OS w.heap.size w wr v (txN o m) ∧ TA wr (w.heap.size + 1 + 1 + 1) 102 (lkR b o s m) ∧ TA wr (w.heap.size + 1) 102 (List.replicate 16 ByteArray.empty) ∧ SgM wr w.heap.size a vo vs vd
/-- a row of texts and an array of them, answered -/
theorem ret_rowArr {fn : Func} {Rp : Ending → World → Prop} {a : Act} {w : World} (c s g t n : Nat) (ty e : TypeId) (l : List ByteArray) (b : Value) (hres : fn.results = #[.tmp s, .cell c ty]) (hd : a.defers = []) (hp : a.tmps.getD c undef = .pointer (some ⟨g, 0, none⟩)) (hb : a.tmps.getD s undef = b)
    (hA : TA w g t l) (hl : l.length = n) (hu : Tryd.prog.underlying ty = some (.array n e)) (hi : (Tryd.prog.info? ty).map (·.size) = some n) (h : Rp (.returned (.tuple #[b, .agg (svs l).toArray])) w) : bodyPost Tryd.prog fn Rp .ret a w := by
  have hr := run_loadVar_row (P := Tryd.prog) w g t ty _ (0, 0) _ hA hu rfl (by rw [svs_size, hl]; exact hi)
  refine bodyPost_ret (v := .tuple #[b, .agg (svs l).toArray]) ?_ hd h
  have hp' : a.tmps[c]?.getD undef = .pointer (some ⟨g, 0, none⟩) := by simpa using hp
  have hb' : a.tmps[s]?.getD undef = b := by simpa using hb
  simp [results, hres, asAddr, hr, hp', hb']

set_option maxRecDepth 100000 in
set_option maxHeartbeats 4000000 in
theorem lockTexts_any (b : Nat) (a : Int) (vo vs vd : Value) (g1 o1 g2 o2 : Nat) (o s : List ByteArray) (w : World) (hb : b < 256) (ho : SS w vo g1 o1 o) (hs : SS w vs g2 o2 s) (lo : o.length = 8) (ls : s.length = 8) (wo : kwB o = true) (hvd : vd.oneCell' = true) (hT : Tb w) :
    Calls Tryd.prog 89 #[.int .u8 (b : Int), .agg #[.int .i64 a, vo, vs, vd]] w fun e w' => ∃ v, e = .returned (.tuple #[v, .agg (svs (lkN b o s 8)).toArray]) ∧ OS w.heap.size w w' v (txN o 8) := by
  have HSS : Hid (∀ W, Below w.heap.size w W → SS W vo g1 o1 o ∧ SS W vs g2 o2 s) := fun W hW => ⟨ho.below hW ho.lt, hs.below hW hs.lt⟩
  have HT : Hid (Tb w) := hT
  have HL : Hid (o.length = 8 ∧ s.length = 8 ∧ kwB o = true) := ⟨lo, ls, wo⟩
  obtain ⟨ao, co, rfl, _, x1⟩ := ho
  obtain ⟨as2, cs2, rfl, _, x2⟩ := hs
  rw [lo, ls] at HSS ⊢
  clear x1 x2 lo ls wo hT
  obtain ⟨M, hmk0, hos0⟩ := run_mkT 13 (by omega) ((w.alloc (.cells #[.int .i64 a, .slice ao 8 co, .slice as2 8 cs2, vd] 26)).alloc (.cells (zT 16) 102))
  have hmk : (Instr.makeSlice 24 (.int .i64 0) (.int .i64 13)).run Tryd.prog ((w.alloc (.cells #[.int .i64 a, .slice ao 8 co, .slice as2 8 cs2, vd] 26)).alloc (.cells (zT 16) 102)) = .ok (.slice (some ⟨w.heap.size + 1 + 1, 0, none⟩) 0 13) (((w.alloc (.cells #[.int .i64 a, .slice ao 8 co, .slice as2 8 cs2, vd] 26)).alloc (.cells (zT 16) 102)).alloc (.cells M 9)) := by simpa using hmk0
  have HST : Hid (LtR b o s w a (.slice ao 8 co) (.slice as2 8 cs2) vd (.slice (some ⟨w.heap.size + 1 + 1, 0, none⟩) 0 13) (.int .i64 0) ((((w.alloc (.cells #[.int .i64 a, .slice ao 8 co, .slice as2 8 cs2, vd] 26)).alloc (.cells (zT 16) 102)).alloc (.cells M 9)).alloc (.cells (zT 16) 102))) := by
    have h0 := SgM.new w a (.slice ao 8 co) (.slice as2 8 cs2) vd
    have b0 : Below w.heap.size w (w.alloc (.cells #[.int .i64 a, .slice ao 8 co, .slice as2 8 cs2, vd] 26)) := (Below.refl _ _).alloc (Nat.le_refl _) _
    have z0 : (w.alloc (.cells #[.int .i64 a, .slice ao 8 co, .slice as2 8 cs2, vd] 26)).heap.size = w.heap.size + 1 := by simp
    generalize w.alloc (.cells #[.int .i64 a, .slice ao 8 co, .slice as2 8 cs2, vd] 26) = W0 at *
    have h1 := TA.new W0 (List.replicate 16 ByteArray.empty) 102
    have b1 : Below W0.heap.size W0 (W0.alloc (.cells (zT 16) 102)) := (Below.refl _ _).alloc (Nat.le_refl _) _
    have z1 : (W0.alloc (.cells (zT 16) 102)).heap.size = w.heap.size + 1 + 1 := by simp [z0]
    rw [z0] at h1
    have h1 : TA (W0.alloc (.cells (zT 16) 102)) (w.heap.size + 1) 102 (List.replicate 16 ByteArray.empty) := h1
    have h0 := h0.later b1
    have b1 := b0.trans (b1.mono b0.size)
    generalize W0.alloc (.cells (zT 16) 102) = W1 at *
    have b2 : Below W1.heap.size W1 (W1.alloc (.cells M 9)) := (Below.refl _ _).alloc (Nat.le_refl _) _
    have z2 : (W1.alloc (.cells M 9)).heap.size = w.heap.size + 1 + 1 + 1 := by simp [z1]
    have h0 := h0.later b2
    have h1 := h1.later b2
    have hos : OS w.heap.size w (W1.alloc (.cells M 9)) (.slice (some ⟨w.heap.size + 1 + 1, 0, none⟩) 0 13) [] := by
      rw [← z1]
      refine ⟨⟨hos0.1.1, ?_⟩, b1.trans (b2.mono b1.size), Nat.le_trans b1.size b2.size⟩
      rcases hos0.1.2 with hn | ⟨g, cap, cur, hv, hbg, rest⟩
      · exact .inl hn
      · exact .inr ⟨g, cap, cur, hv, Nat.le_trans b1.size hbg, rest⟩
    generalize W1.alloc (.cells M 9) = W2 at *
    have h3 := TA.new W2 (List.replicate 16 ByteArray.empty) 102
    have b3 : Below W2.heap.size W2 (W2.alloc (.cells (zT 16) 102)) := (Below.refl _ _).alloc (Nat.le_refl _) _
    rw [z2] at h3
    exact ⟨0, by omega, rfl, hos.alloc _, h3, h1.later b3, h0.later b3⟩
  clear hmk0 hos0
  go_enter Tryd.func89, Tryd.ntmps89
  go_wp2_with (refine wp_allocT rfl 102 16 rfl zeroA ?_)
  clear hmk
  go_loopw [6, 16] (fun v i wr => LtR b o s w a (.slice ao 8 co) (.slice as2 8 cs2) vd v i wr) (fun _ i _ => 8 - (intOf i).toNat)
  case atStart => exact HST.out
  case round =>
    obtain ⟨m, hm, rfl, hos, hta, htz, hsg⟩ := hrel
    clear HST
    by_cases hlt : m < 8
    · obtain ⟨⟨x1, y1, hv1, _, hA1, hc1⟩, ⟨x2, y2, hv2, _, hA2, hc2⟩⟩ := HSS.out _ hos.2.1
      have e1 := hA1 (by rw [HL.out.1]; omega)
      have e2 := hA2 (by rw [HL.out.2.1]; omega)
      rw [HL.out.1] at hv1
      rw [HL.out.2.1] at hv2
      simp at hv1 hv2
      obtain ⟨rfl, rfl⟩ := hv1
      obtain ⟨rfl, rfl⟩ := hv2
      subst e1
      subst e2
      have hz1 := kwB_at HL.out.2.2 m (by rw [HL.out.1]; exact hlt)
      have c1 := hc1 m (by rw [HL.out.1]; exact hlt)
      rw [gB_eq o m (by rw [HL.out.1]; exact hlt)] at c1 hz1
      have hlc := lock_cut o m (by omega)
      have hst := lkR_step b o s m hlt
      have htx := txN_step o m
      have htl := txN_len o m
      have hll := lkR_len b o s m (by omega)
      have hKT := keyText_lit 6 [gB o m] 1 #[.string (gB o m)] wr _ rfl rfl (by omega) rfl
      have hV := bitN_lt b m
      have i1 : (m : Int) < 8 := by omega
      have i2 : (0 : Int) ≤ (m : Int) := by omega
      have hts : (tx1 o m).size ≤ 1048576 := Nat.le_trans (tagB_size _ _) (by omega)
      have HK : Hid (tagB 6 [gB o m] = tx1 o m) := rfl
      rw [HK.out] at hKT
      generalize tx1 o m = X at *
      have HH : Hid (cutH X 16 = lockB (gB o m)) := hlc
      have HSTEP : Hid (∀ K, ((lkR b o s m).set (2 * m + bitN b m) (lockB (gB o m))).set (2 * m + 1 - bitN b m) (gB s m) = K → lkR b o s (m + 1) = K) := fun K hK => hst.symm.trans hK
      generalize gB o m = O at *
      clear hst hA1 hA2 hlc HK
      have hc2 : Hid (∀ W, Below w.heap.size w W → W.cell? ⟨g2, o2 + m, none⟩ = some (.string (gB s m))) := fun W hW => by
        obtain ⟨_, ⟨_, _, _, _, _, hcc⟩⟩ := HSS.out W hW
        have := hcc m (by rw [HL.out.2.1]; exact hlt)
        rw [gB_eq s m (by rw [HL.out.2.1]; exact hlt)] at this
        exact this
      generalize gB s m = Y at *
      go_wp2_with fail
      refine hKT.out.mono ?_
      rintro e w1 ⟨rfl, hb1⟩
      have hos1 := hos.later hb1
      have hta1 := hta.later hb1
      have htz1 := htz.later hb1
      have hsg1 := hsg.later hb1
      clear hos hta htz hsg hb1 hKT c1 hc1
      go_wp2_with (at_builtin; refine wp_appSG rfl _ _ rfl w.heap.size w _ (txN o m) rfl (hos1.alloc _) ⟨w1.heap.size, 0, none⟩ X rfl ?c1 ?c2 ?_)
      case c1 => exact one_text _ _ _
      case c2 => omega
      intro v2 w2 hos2 hg2
      rw [← htx] at hos2
      have hba : Below w1.heap.size w1 (w1.alloc (.cells #[.string X] 9)) := (Below.refl _ _).alloc (Nat.le_refl _) _
      have hta2 := (hta1.later hba).keptO (by decide) (hos1.alloc _) hg2
      have htz2 := (htz1.later hba).keptO (by decide) (hos1.alloc _) hg2
      have hsg2 := (hsg1.later hba).keptO (hos1.alloc _) hg2
      clear hos1 hta1 htz1 hsg1 hg2 hba htx
      go_wp2_with fail
      refine (val_any b m _ _ hb rfl (by omega)).mono ?_
      rintro e w2' ⟨rfl, rfl⟩
      generalize bitN b m = V at *
      have hT2 := HT.out.later hos2.2.1
      have hcd := CutDigest_any X 16 w2' hts hT2.1 hT2.2
      rw [HH.out] at hcd
      clear hT2 HH
      generalize lockB O = K at *
      have j1 : (0 : Int) ≤ 2 * (m : Int) + (V : Int) := by omega
      have j2 : 2 * (m : Int) + (V : Int) < 16 := by omega
      have j3 : (0 : Int) ≤ 2 * (m : Int) + 1 - (V : Int) := by omega
      have j4 : 2 * (m : Int) + 1 - (V : Int) < 16 := by omega
      have t1 : (2 * (m : Int) + (V : Int)).toNat = 2 * m + V := by omega
      have t2 : (2 * (m : Int) + 1 - (V : Int)).toNat = 2 * m + 1 - V := by omega
      go_wp2_with fail
      refine hcd.mono ?_
      rintro e w3 ⟨rfl, hb3⟩
      have hos3 := hos2.later hb3
      have hta3 := hta2.later hb3
      have htz3 := htz2.later hb3
      have hsg3 := hsg2.later hb3
      clear hos2 hta2 htz2 hsg2 hb3 hcd
      obtain ⟨Z, c0⟩ : ∃ Z, w3.cell? ⟨w.heap.size + 1 + 1 + 1, 2 * m + V, none⟩ = some (.string Z) := ⟨_, hta3.cell (2 * m + V) (by omega)⟩
      have f0 := hta3.frozen (2 * m + V)
      have hgs := grown_set w3 (w.heap.size + 1 + 1 + 1) (2 * m + V) (.string K)
      have hta4 := hta3.set (2 * m + V) K
      have hos4 : OS w.heap.size w (w3.setCell ⟨w.heap.size + 1 + 1 + 1, 2 * m + V, none⟩ (.string K)) v2 (txN o (m + 1)) := hos3.kept hgs (fun k hk => by simp at hk; omega) (os_ne hos3 hta3 (by decide))
      have htz4 : TA (w3.setCell ⟨w.heap.size + 1 + 1 + 1, 2 * m + V, none⟩ (.string K)) (w.heap.size + 1) 102 (List.replicate 16 ByteArray.empty) := htz3.keep (hgs.block _ htz3.lt (by simp))
      have hsg4 := hsg3.keptG hgs (by simp; omega)
      have d1 := hsg4.c2
      have d2 := hc2.out _ hos4.2.1
      obtain ⟨Z2, c4⟩ : ∃ Z, (w3.setCell ⟨w.heap.size + 1 + 1 + 1, 2 * m + V, none⟩ (.string K)).cell? ⟨w.heap.size + 1 + 1 + 1, 2 * m + 1 - V, none⟩ = some (.string Z) := ⟨_, hta4.cell (2 * m + 1 - V) (by rw [List.length_set]; omega)⟩
      have f4 := hta4.frozen (2 * m + 1 - V)
      have hgs2 := grown_set (w3.setCell ⟨w.heap.size + 1 + 1 + 1, 2 * m + V, none⟩ (.string K)) (w.heap.size + 1 + 1 + 1) (2 * m + 1 - V) (.string Y)
      have hta5 := hta4.set (2 * m + 1 - V) Y
      have hos5 := hos4.kept hgs2 (fun k hk => by simp at hk; omega) (os_ne hos4 hta4 (by decide))
      have htz5 : TA _ (w.heap.size + 1) 102 (List.replicate 16 ByteArray.empty) := htz4.keep (hgs2.block _ htz4.lt (by simp))
      have hsg5 := hsg4.keptG hgs2 (by simp; omega)
      rw [← HSTEP.out _ rfl] at hta5
      have HN : Hid (LtR b o s w a (.slice (some ⟨g1, o1, none⟩) 8 co) (.slice (some ⟨g2, o2, none⟩) 8 cs2) vd v2 (.int .i64 ((m : Int) + 1)) ((w3.setCell ⟨w.heap.size + 1 + 1 + 1, 2 * m + V, none⟩ (.string K)).setCell ⟨w.heap.size + 1 + 1 + 1, 2 * m + 1 - V, none⟩ (.string Y))) := ⟨m + 1, by omega, by simp, hos5, hta5, htz5, hsg5⟩
      clear hta5 hos5 htz5 hsg5 hta4 hos4 htz4 hsg4 hos3 hta3 htz3 hsg3 hgs hgs2 HSTEP hll htl HL HSS hc2
      go_wp2
      go_roundw
      case rel => exact HN.out
      case measure => simp [intOf]; omega
    · have hme : m = 8 := by omega
      subst hme
      rw [lkR_all] at hta
      have hll := lkN_len b o s 8
      have HTA : Hid (TA wr (w.heap.size + 1 + 1 + 1) 102 (lkN b o s 8) ∧ TA wr (w.heap.size + 1) 102 (List.replicate 16 ByteArray.empty)) := ⟨hta, htz⟩
      have HO : Hid (OS w.heap.size w wr u6 (txN o 8)) := hos
      clear hta htz hos hsg HSS HL
      go_wp2
      refine wp_region_still_tail 3 (by kernel_rfl) (by kernel_rfl) ?_
      simp only [List.take_succ_cons, List.take_zero, List.drop_succ_cons, List.drop_zero]
      still_step
      refine still_loadT rfl 102 _ rfl (w.heap.size + 1 + 1 + 1) 102 16 (lkN b o s 8) 9 rfl HTA.out.1 hll Tryd.underlying102 sizeA ?_
      still_step
      refine wpStill_nil ?_
      go_wp2_with (refine wp_storeT rfl 102 _ _ rfl (w.heap.size + 1) 102 16 (List.replicate 16 ByteArray.empty) (lkN b o s 8) HTA.out.2 (by simp) hll rfl rfl sizeA ?_; intro hfin)
      refine ret_rowArr 5 4 (w.heap.size + 1) 102 16 102 9 (lkN b o s 8) _ rfl rfl rfl rfl hfin hll Tryd.underlying102 sizeA ?_
      exact ⟨_, rfl, HO.out.drew.kept (grown_setRow2 _ _ _) (fun k hk => by simp at hk; omega) (os_ne HO.out HTA.out.2 (by decide))⟩

end Go.Proofs.YtmfoliocibjdnaaDoor
/-
  What the program's SigTexts answers.
-/
namespace Go.Proofs.YtmfoliocibjdnaaDoor
open Go.RowKit Go.BigFrame
set_option linter.unusedVariables false

theorem TA.there {W : World} {p t n : Nat} {l : List ByteArray} (h : TA W p t l) (hn : l.length = n) : W.there p 0 n := by
  intro j hj
  rw [Nat.zero_add]
  exact ⟨by rw [h.cell j (by omega)]; rfl, h.frozen j⟩
/-- texts put over what was there, from a place on -/
def putL (l : List ByteArray) : Nat → List ByteArray → List ByteArray
  | _, [] => l
  | o, x :: r => putL (l.set o x) (o + 1) r
theorem putL_all : ∀ (r l : List ByteArray) (o : Nat), o + r.length = l.length → putL l o r = l.take o ++ r
  | [], l, o, h => by
    have : l.take o = l := List.take_of_length_le (by simp at h; omega)
    simp [putL, this]
  | x :: r, l, o, h => by
    have h1 : o < l.length := by simp at h; omega
    have ih := putL_all r (l.set o x) (o + 1) (by simp at h ⊢; omega)
    rw [putL, ih]
    have e : (l.set o x).take (o + 1) = l.take o ++ [x] := by
      have hl : o < (l.set o x).length := by rw [List.length_set]; exact h1
      rw [← List.take_append_getElem hl]
      simp [List.take_set_of_le]
    rw [e]
    simp
theorem TA.put {p t : Nat} : ∀ (r l : List ByteArray) (o : Nat) (W : World), TA W p t l → TA (W.setCells p o (svs r)) p t (putL l o r) ∧ W.grownBy (W.setCells p o (svs r)) (some p)
  | [], l, o, W, h => ⟨h, ⟨rfl, rfl, rfl, Nat.le_refl _, fun _ _ _ => rfl⟩⟩
  | x :: r, l, o, W, h => by
    have h1 := TA.put r (l.set o x) (o + 1) (W.setCell ⟨p, o, none⟩ (.string x)) (h.set o x)
    exact ⟨h1.1, (grown_set W p o (.string x)).trans h1.2⟩
theorem TA.new16 (W : World) : TA (W.alloc (.cells #[.string ⟨#[]⟩, .string ⟨#[]⟩, .string ⟨#[]⟩, .string ⟨#[]⟩, .string ⟨#[]⟩, .string ⟨#[]⟩, .string ⟨#[]⟩, .string ⟨#[]⟩, .string ⟨#[]⟩, .string ⟨#[]⟩, .string ⟨#[]⟩, .string ⟨#[]⟩, .string ⟨#[]⟩, .string ⟨#[]⟩, .string ⟨#[]⟩, .string ⟨#[]⟩] 102)) W.heap.size 102 (List.replicate 16 ByteArray.empty) := TA.new W (List.replicate 16 ByteArray.empty) 102
/-- what stands when the locks were stored -/
def E3 (B : Nat) (w1 : World) (q : Nat) (a : Int) (v1 v2 v3 v : Value) (o L : List ByteArray) (p : Nat) (W : World) : Prop :=
  TA W p 102 L ∧ OS B w1 W v (txN o 8) ∧ SgM W q a v1 v2 v3
theorem e3_end {B : Nat} {w1 W : World} {q : Nat} {a : Int} {v1 v2 v3 v : Value} {o L : List ByteArray} {p : Nat} (hta : TA W p 102 (List.replicate 16 ByteArray.empty)) (hos : OS B w1 W v (txN o 8)) (hsg : SgM W q a v1 v2 v3) (hp : B ≤ p) (hq : q ≠ p) (hL : L.length = 16) : E3 B w1 q a v1 v2 v3 v o L p (W.setCells p 0 (svs L)) := by
  obtain ⟨h1, h2⟩ := TA.put L (List.replicate 16 ByteArray.empty) 0 W hta
  rw [putL_all _ _ _ (by simp [hL])] at h1
  exact ⟨by simpa using h1, hos.kept h2 (fun k hk => by simp at hk; omega) (os_ne hos hta (by decide)), hsg.keptG h2 (by simpa using hq)⟩

/-- what each round up holds -/
def UpR (a : Nat) (o d : List ByteArray) (t : ByteArray) (B : Nat) (w1 : World) (v l p i : Value) (wr : World) : Prop :=
  ∃ m : Nat, m ≤ 4 ∧ i = .int .i64 m ∧ l = .string (fT a d t m) ∧ p = .int .i64 (a / 2 ^ m : Nat) ∧ OS B w1 wr v (txN o 8 ++ fN a d t (m + 1))

set_option maxRecDepth 100000 in
set_option maxHeartbeats 4000000 in
theorem SigTexts_yes (t : ByteArray) (a : Nat) (vo vs vd : Value) (g1 o1 g2 o2 g3 o3 : Nat) (o s d : List ByteArray) (w : World) (ho : SS w vo g1 o1 o) (hs : SS w vs g2 o2 s) (hd : SS w vd g3 o3 d) (hf : formB (a : Int) o s d = true) (ht : t.size ≤ 200) (hT : Tb w) :
    Calls Tryd.prog 21 #[.string t, .agg #[.int .i64 a, vo, vs, vd]] w fun e w' => ∃ v, e = .returned v ∧ OS w.heap.size w w' v (sgT (bitsB t) a o s d) := by
  obtain ⟨hA, ⟨wo, lo⟩, ⟨ws, ls⟩, wd, ld⟩ := formB_parts hf
  have hB : Below w.heap.size w (w.alloc (.cells #[.int .i64 a, vo, vs, vd] 26)) := (Below.refl _ _).alloc (Nat.le_refl _) _
  have hc := sigFormOk_any (a : Int) vo vs vd g1 o1 g2 o2 g3 o3 o s d _ (ho.below hB ho.lt) (hs.below hB hs.lt) (hd.below hB hd.lt)
  rw [hf] at hc
  have HSS : Hid (∀ W, Below w.heap.size w W → SS W vo g1 o1 o ∧ SS W vs g2 o2 s ∧ SS W vd g3 o3 d) := fun W hW => ⟨ho.below hW ho.lt, hs.below hW hs.lt, hd.below hW hd.lt⟩
  have HC : Hid (Calls Tryd.prog 86 #[.agg #[.int .i64 a, vo, vs, vd]] (w.alloc (.cells #[.int .i64 a, vo, vs, vd] 26)) fun e w' => e = .returned (.bool true) ∧ Below (w.alloc (.cells #[.int .i64 a, vo, vs, vd] 26)).heap.size (w.alloc (.cells #[.int .i64 a, vo, vs, vd] 26)) w') := hc
  have HB : Hid (Below w.heap.size w (w.alloc (.cells #[.int .i64 a, vo, vs, vd] 26)) ∧ SgM (w.alloc (.cells #[.int .i64 a, vo, vs, vd] 26)) w.heap.size a vo vs vd) := ⟨hB, SgM.new w _ _ _ _⟩
  have HLN : Hid (o.length = 8 ∧ s.length = 8 ∧ d.length = 4) := ⟨lo, ls, ld⟩
  have HT : Hid (Tb w) := hT
  obtain ⟨ao, co, rfl, _, x1⟩ := ho
  obtain ⟨as2, cs2, rfl, _, x2⟩ := hs
  obtain ⟨ad, cd, rfl, _, x3⟩ := hd
  rw [lo, ls, ld] at HSS HC HB ⊢
  have HW : Hid (kwB o = true ∧ kwB s = true ∧ kwB d = true) := ⟨wo, ws, wd⟩
  clear x1 x2 x3 hc hB hf wo ws wd lo ls ld hT
  have ha : a ≤ 15 := by omega
  clear hA
  go_enter Tryd.func21, Tryd.ntmps21
  go_wp2_with fail
  refine HC.out.mono ?_
  rintro e w1 ⟨rfl, hb1⟩
  have b1 := HB.out.1.trans (hb1.mono HB.out.1.size)
  have hS1 := HB.out.2.later hb1
  clear HC hb1
  go_wp2
  have c0 := hS1.c0
  have c1 := hS1.c1
  have c2 := hS1.c2
  have c3 := hS1.c3
  have hlt := hS1.lt
  have hbb := bitsB_lt t
  obtain ⟨b, hbe⟩ : ∃ b, bitsB t = b := ⟨_, rfl⟩
  rw [hbe] at hbb
  have HCS : Hid (∀ W, Below w1.heap.size w1 W → Calls Tryd.prog 27 #[.string t] W fun e w' => e = .returned (.int .i64 (b : Int)) ∧ Below W.heap.size W w' ∧ Below w1.heap.size w1 w') := fun W hW => by
    have := SignBitsOf_any t W (HT.out.later (b1.trans (hW.mono b1.size)))
    rw [hbe] at this
    exact this.mono fun e w' ⟨he, hb⟩ => ⟨he, hb, hW.trans (hb.mono hW.size)⟩
  have HCL : Hid (∀ W, Below w1.heap.size w1 W → Calls Tryd.prog 89 #[.int .u8 (b : Int), .agg #[.int .i64 a, .slice ao 8 co, .slice as2 8 cs2, .slice ad 4 cd]] W fun e w' => ∃ v, e = .returned (.tuple #[v, .agg (svs (lkN b o s 8)).toArray]) ∧ OS w1.heap.size w1 w' v (txN o 8) ∧ Below W.heap.size W w' ∧ Below w1.heap.size w1 w') := fun W hW => by
    have hww := b1.trans (hW.mono b1.size)
    have hss := HSS.out W hww
    exact (lockTexts_any b a _ _ _ g1 o1 g2 o2 o s W hbb hss.1 hss.2.1 HLN.out.1 HLN.out.2.1 HW.out.1 rfl (HT.out.later hww)).mono fun e w' ⟨v, he, hos⟩ => ⟨v, he, OS.up hW hW.size hos, hos.2.1, hW.trans (hos.2.1.mono hW.size)⟩
  have hlk := lkN_len b o s 8
  have hcb : IntKind.u8.wrap (b : Int) = (b : Int) := by
    have : IntKind.u8.wrap (b : Int) = (b : Int) % 256 := rfl
    omega
  have hone : ∀ v ∈ svs (lkN b o s 8), v.oneCell' = true := fun v hv => by simp [svs] at hv; obtain ⟨x, _, rfl⟩ := hv; rfl
  have hz16 : (Tryd.prog.info? 102).map (·.size) = some (svs (lkN b o s 8)).length := by
    have e : (svs (lkN b o s 8)).length = 16 := by simp [svs, hlk]
    rw [e]
    exact sizeA
  have hthere : ∀ W : World, (W.alloc (.cells #[.string ⟨#[]⟩, .string ⟨#[]⟩, .string ⟨#[]⟩, .string ⟨#[]⟩, .string ⟨#[]⟩, .string ⟨#[]⟩, .string ⟨#[]⟩, .string ⟨#[]⟩, .string ⟨#[]⟩, .string ⟨#[]⟩, .string ⟨#[]⟩, .string ⟨#[]⟩, .string ⟨#[]⟩, .string ⟨#[]⟩, .string ⟨#[]⟩, .string ⟨#[]⟩] 102)).there W.heap.size 0 (svs (lkN b o s 8)).length := fun W => (TA.new16 W).there (by simp [svs, hlk])
  have hsl : (svs (lkN b o s 8)).length = (lkN b o s 8).length := by simp [svs]
  have HS1 : Hid (SgM w1 w.heap.size a (.slice ao 8 co) (.slice as2 8 cs2) (.slice ad 4 cd)) := hS1
  have HB1 : Hid (Below w.heap.size w w1) := b1
  have HBE : Hid (bitsB t = b) := hbe
  clear hS1 hbe b1 HB hsl
  go_region_held3 (fun W => W.cell? ⟨w.heap.size, 0, none⟩ = some (.int .i64 a) ∧ W.cell? ⟨w.heap.size, 1, none⟩ = some (.slice ao 8 co) ∧ W.cell? ⟨w.heap.size, 2, none⟩ = some (.slice as2 8 cs2) ∧ W.cell? ⟨w.heap.size, 3, none⟩ = some (.slice ad 4 cd)) (first | go_keep | exact ⟨(HS1.out.later hb3).c0, (HS1.out.later hb3).c1, (HS1.out.later hb3).c2, (HS1.out.later hb3).c3⟩ | exact ⟨(HS1.out.later hb2).c0, (HS1.out.later hb2).c1, (HS1.out.later hb2).c2, (HS1.out.later hb2).c3⟩ | (have hE := e3_end hta3 hos (HS1.out.later hb3) (by have := hb2.size; omega) (by have := hb2.size; omega) hlk; exact ⟨hE.2.2.c0, hE.2.2.c1, hE.2.2.c2, hE.2.2.c3⟩) | (have hE := e3_end (TA.new16 w3) (hos.alloc _) ((HS1.out.later hb3).later ((Below.refl _ _).alloc (Nat.le_refl _) _)) hb3.size (by have := hb3.size; omega) hlk; exact ⟨hE.2.2.c0, hE.2.2.c1, hE.2.2.c2, hE.2.2.c3⟩)) ((first
    | (go_at_call 27; refine (HCS.out _ (by first | exact (Below.refl _ _).drew | exact ((Below.refl _ _).alloc (Nat.le_refl _) _).drew)).mono ?_; rintro e w2 ⟨rfl, hbx, hb2⟩; (try have hta2 : TA w2 w1.heap.size 102 (List.replicate 16 ByteArray.empty) := (TA.new16 w1).keep (hbx.block _ (by simp))))
    | (go_at_call 89; refine (HCL.out _ (by first | exact hb2 | exact hb2.alloc hb2.size _)).mono ?_; rintro e w3 ⟨vt, rfl, hos, hby, hb3⟩; (first | (have hta3 := hta2.keep (hby.block _ hta2.lt); have hth := hta3.there (n := (svs (lkN b o s 8)).length) (by simp [svs, hlk])) | (have hta3 : TA w3 w2.heap.size 102 (List.replicate 16 ByteArray.empty) := (TA.new16 w2).keep (hby.block _ (by simp)); have hth := hta3.there (n := (svs (lkN b o s 8)).length) (by simp [svs, hlk])) | skip))))
  all_goals first | (have hE := e3_end hta3 hos (HS1.out.later hb3) (by have := hb2.size; omega) (by have := hb2.size; omega) hlk) | (have hE := e3_end (TA.new16 w3) (hos.alloc _) ((HS1.out.later hb3).later ((Below.refl _ _).alloc (Nat.le_refl _) _)) hb3.size (by have := hb3.size; omega) hlk)
  all_goals
    clear c0 c1 c2 c3 hthere hone hz16 hos
    (try clear hth)
    (try clear hta3)
    (try clear hta2)
    go_wp2_with fail
    refine (keyText_any 6 _ _ _ (lkN b o s 8) _ (hE.1.ss 16 16 hlk (by omega))).mono ?_
    rintro e w5 ⟨rfl, hb5⟩
    have hos5 := hE.2.1.later hb5
    have hsg5 := hE.2.2.later hb5
    have hpt : tagB 6 (lkN b o s 8) = pubT b o s := rfl
    have hps : (pubT b o s).size ≤ 12601 := tagB_size _ _
    rw [hpt]
    have htl := txN_len o 8
    have HRT : Hid (sgT b a o s d = txN o 8 ++ fN a d (pubT b o s) 5) := rfl
    generalize pubT b o s = P at *
    have c0 := hsg5.c0
    have c3 := hsg5.c3
    have HF1 : Hid (fN a d P 1 = [P]) := rfl
    clear hE hb5 hpt hsg5
    go_wp2_with (at_builtin; refine wp_appS rfl _ _ rfl w1.heap.size w1 _ (txN o 8) rfl (hos5.alloc _) ⟨w5.heap.size, 0, none⟩ P rfl ?c1 ?c2 ?_)
    case c1 => exact one_text _ _ _
    case c2 => omega
    intro v6 w6 hos6
    rw [← HF1.out] at hos6
    have hsg6 := HS1.out.keep (hos6.2.1.block _ HS1.out.lt)
    have d0 := hsg6.c0
    have d3 := hsg6.c3
    have HST : Hid (UpR a o d P w1.heap.size w1 v6 (.string P) (.int .i64 (a : Int)) (.int .i64 0) w6) := ⟨0, by omega, rfl, rfl, by simp, hos6⟩
    clear hos5 hos6 hsg6 c0 c3 HF1
    go_wp2
    go_loopw [5, 7, 8, 40] (fun v l p i wr => UpR a o d P w1.heap.size w1 v l p i wr) (fun _ _ _ i _ => 4 - (intOf i).toNat)
    case atStart => exact HST.out
    case round =>
      obtain ⟨m, hm, rfl, rfl, rfl, hosr⟩ := hrel
      clear HST d0 d3
      by_cases hlt4 : m < 4
      · obtain ⟨_, _, x3, y3, hv3, _, hA3, hc3⟩ := HSS.out _ (HB1.out.trans (hosr.2.1.mono HB1.out.size))
        have e3 := hA3 (by rw [HLN.out.2.2]; omega)
        rw [HLN.out.2.2] at hv3
        simp at hv3
        obtain ⟨rfl, rfl⟩ := hv3
        subst e3
        have c4 := hc3 m (by rw [HLN.out.2.2]; exact hlt4)
        rw [gB_eq d m (by rw [HLN.out.2.2]; exact hlt4)] at c4
        have hT5 := HT.out.later (HB1.out.trans (hosr.2.1.mono HB1.out.size))
        have hfs := fT_size a d P hps m
        have hcd := CutDigest_any (fT a d P m) 16 wr (by omega) hT5.1 hT5.2
        have hfn : fT a d P (m + 1) = nodeT (a / 2 ^ m % 2) (cutH (fT a d P m) 16) (gB d m) := rfl
        have hst := fN_step a d P (m + 1)
        have hq : a / 2 ^ (m + 1) = a / 2 ^ m / 2 := by rw [Nat.pow_succ, Nat.div_div_eq_div_mul]
        have hfl := fN_len a d P (m + 1)
        have HN : Hid (∀ v W, OS w1.heap.size w1 W v ((txN o 8 ++ fN a d P (m + 1)) ++ [nodeT (a / 2 ^ m % 2) (cutH (fT a d P m) 16) (gB d m)]) → UpR a o d P w1.heap.size w1 v (.string (nodeT (a / 2 ^ m % 2) (cutH (fT a d P m) 16) (gB d m))) (.int .i64 ((a / 2 ^ m / 2 : Nat) : Int)) (.int .i64 ((m : Int) + 1)) W) := fun v W hW => by
          refine ⟨m + 1, by omega, by simp, by rw [hfn], by rw [hq], ?_⟩
          rw [hst, hfn, ← List.append_assoc]
          exact hW
        have hll : (txN o 8 ++ fN a d P (m + 1)).length ≤ 20 := by rw [List.length_append, htl, hfl]; omega
        have hq15 : a / 2 ^ m ≤ 15 := Nat.le_trans (Nat.div_le_self _ _) ha
        clear hfn hst hq hT5 hA3 hc3 hfl
        generalize txN o 8 ++ fN a d P (m + 1) = R at *
        generalize a / 2 ^ m = q at *
        generalize cutH (fT a d P m) 16 = H at *
        generalize fT a d P m = F at *
        generalize gB d m = X at *
        have i1 : (m : Int) < 4 := by omega
        have i2 : (0 : Int) ≤ (m : Int) := by omega
        go_wp2_with fail
        refine hcd.mono ?_
        rintro e w7 ⟨rfl, hb7⟩
        have hos7 := hosr.later hb7
        clear hcd hosr hb7 c4
        by_cases hp : q % 2 = 0
        · have hqi : ((q : Int) % 2 == 0) = true := by simp; omega
          have hn0 : nodeT (q % 2) H X = tagB 3 [H, X] := by unfold nodeT; rw [if_pos hp]
          rw [hn0] at HN
          have hkt := keyText_lit 3 [H, X] 2 #[.string H, .string X] w7 _ rfl rfl (by omega) rfl
          generalize tagB 3 [H, X] = Z at *
          clear hp hn0
          go_wp2_with fail
          refine hkt.out.mono ?_
          rintro e w8 ⟨rfl, hb8⟩
          have hos8 := hos7.later hb8
          clear hos7 hb8 hkt
          go_wp2_with (at_builtin; refine wp_appS rfl _ _ rfl w1.heap.size w1 _ R rfl (hos8.alloc _) ⟨w8.heap.size, 0, none⟩ Z rfl ?c1 ?c2 ?_)
          case c1 => exact one_text _ _ _
          case c2 => omega
          intro v9 w9 hos9
          go_wp2
          go_roundw
          case rel => exact HN.out _ _ hos9
          case measure => simp [intOf]; omega
        · have hqi : ((q : Int) % 2 == 0) = false := by simp; omega
          have hn0 : nodeT (q % 2) H X = tagB 3 [X, H] := by unfold nodeT; rw [if_neg hp]
          rw [hn0] at HN
          have hkt := keyText_lit 3 [X, H] 2 #[.string X, .string H] w7 _ rfl rfl (by omega) rfl
          generalize tagB 3 [X, H] = Z at *
          clear hp hn0
          go_wp2_with fail
          refine hkt.out.mono ?_
          rintro e w8 ⟨rfl, hb8⟩
          have hos8 := hos7.later hb8
          clear hos7 hb8 hkt
          go_wp2_with (at_builtin; refine wp_appS rfl _ _ rfl w1.heap.size w1 _ R rfl (hos8.alloc _) ⟨w8.heap.size, 0, none⟩ Z rfl ?c1 ?c2 ?_)
          case c1 => exact one_text _ _ _
          case c2 => omega
          intro v9 w9 hos9
          go_wp2
          go_roundw
          case rel => exact HN.out _ _ hos9
          case measure => simp [intOf]; omega
      · have hme : m = 4 := by omega
        subst hme
        have hfin := OS.up HB1.out HB1.out.size hosr
        go_wp2
        go_ret
        exact ⟨_, rfl, by rw [HBE.out, HRT.out]; exact hfin⟩

end Go.Proofs.YtmfoliocibjdnaaDoor
/-
  What the specification's SigTexts answers, and SigTexts where the form is not right.
-/
namespace Go.Proofs.YtmfoliocibjdnaaDoor
open Go.RowKit Go.BigFrame
set_option linter.unusedVariables false

/-- what the first loop holds: texts and locks -/
def S1R (b : Nat) (o s : List ByteArray) (B : Nat) (W0 : World) (u v i : Value) (wr : World) : Prop :=
  ∃ m : Nat, m ≤ 8 ∧ i = .int .i64 m ∧ TwR B W0 wr u v (txN o m) (lkN b o s m)
/-- what the second loop holds -/
def S2R (a : Nat) (o d : List ByteArray) (t : ByteArray) (B : Nat) (W0 : World) (v p i : Value) (wr : World) : Prop :=
  ∃ m : Nat, m ≤ 4 ∧ i = .int .i64 m ∧ p = .int .i64 (a / 2 ^ m : Nat) ∧ OS B W0 wr v (txN o 8 ++ fN a d t (m + 1))

theorem last_at (o : List ByteArray) (a : Nat) (d : List ByteArray) (t : ByteArray) (m : Nat) (h : 8 + m < (txN o 8 ++ fN a d t (m + 1)).length) : (txN o 8 ++ fN a d t (m + 1))[8 + m] = fT a d t m := by
  rw [List.getElem_append_right (by rw [txN_len]; omega)]
  simp [fN, txN_len]

set_option maxRecDepth 100000 in
set_option maxHeartbeats 4000000 in
theorem sSigTexts_yes (t : ByteArray) (a : Nat) (vo vs vd : Value) (g1 o1 g2 o2 g3 o3 : Nat) (o s d : List ByteArray) (w : World) (ho : SS w vo g1 o1 o) (hs : SS w vs g2 o2 s) (hd : SS w vd g3 o3 d) (hf : formB (a : Int) o s d = true) (ht : t.size ≤ 200) :
    Calls Tryd.prog 23 #[.string t, .agg #[.int .i64 a, vo, vs, vd]] w fun e w' => ∃ v, e = .returned v ∧ OS w.heap.size w w' v (sgT (bitsB t) a o s d) := by
  obtain ⟨hA, ⟨wo, lo⟩, ⟨ws, ls⟩, wd, ld⟩ := formB_parts hf
  have HSS : Hid (∀ W, Below w.heap.size w W → SS W vo g1 o1 o ∧ SS W vs g2 o2 s ∧ SS W vd g3 o3 d) := fun W hW => ⟨ho.below hW ho.lt, hs.below hW hs.lt, hd.below hW hd.lt⟩
  have HGL : Hid (g1 < w.heap.size ∧ g2 < w.heap.size ∧ g3 < w.heap.size) := ⟨ho.lt (by omega), hs.lt (by omega), hd.lt (by omega)⟩
  have hB : Below w.heap.size w (w.alloc (.cells #[.int .i64 a, vo, vs, vd] 26)) := (Below.refl _ _).alloc (Nat.le_refl _) _
  have hB1 : Below w.heap.size w ((w.alloc (.cells #[.int .i64 a, vo, vs, vd] 26)).alloc (.cells #[] 9)) := hB.alloc hB.size _
  have hc := l05Form_any (a : Int) vo vs vd g1 o1 g2 o2 g3 o3 o s d _ (ho.below hB1 ho.lt) (hs.below hB1 hs.lt) (hd.below hB1 hd.lt)
  rw [hf] at hc
  have HC : Hid (Calls Tryd.prog 91 #[.agg #[.int .i64 a, vo, vs, vd]] ((w.alloc (.cells #[.int .i64 a, vo, vs, vd] 26)).alloc (.cells #[] 9)) fun e w' => e = .returned (.bool true) ∧ Below ((w.alloc (.cells #[.int .i64 a, vo, vs, vd] 26)).alloc (.cells #[] 9)).heap.size ((w.alloc (.cells #[.int .i64 a, vo, vs, vd] 26)).alloc (.cells #[] 9)) w') := hc
  have z0 : (w.alloc (.cells #[.int .i64 a, vo, vs, vd] 26)).heap.size = w.heap.size + 1 := by simp
  have HM := OS.made (w.alloc (.cells #[.int .i64 a, vo, vs, vd] 26))
  rw [z0] at HM
  have HLN : Hid (o.length = 8 ∧ s.length = 8 ∧ d.length = 4) := ⟨lo, ls, ld⟩
  have HM : Hid (OS (w.heap.size + 1) (w.alloc (.cells #[.int .i64 a, vo, vs, vd] 26)) ((w.alloc (.cells #[.int .i64 a, vo, vs, vd] 26)).alloc (.cells #[] 9)) (.slice (some ⟨w.heap.size + 1, 0, none⟩) 0 0) [] ∧ Below w.heap.size w (w.alloc (.cells #[.int .i64 a, vo, vs, vd] 26)) ∧ SgM (w.alloc (.cells #[.int .i64 a, vo, vs, vd] 26)) w.heap.size a vo vs vd ∧ (w.alloc (.cells #[.int .i64 a, vo, vs, vd] 26)).heap.size = w.heap.size + 1) := ⟨HM, hB, SgM.new w _ _ _ _, z0⟩
  obtain ⟨ao, co, rfl, _, x1⟩ := ho
  obtain ⟨as2, cs2, rfl, _, x2⟩ := hs
  obtain ⟨ad, cd, rfl, _, x3⟩ := hd
  rw [lo, ls, ld] at HSS HC HM ⊢
  have HW : Hid (kwB o = true ∧ kwB s = true ∧ kwB d = true) := ⟨wo, ws, wd⟩
  clear x1 x2 x3 hc hB hB1 hf wo ws wd lo ls ld z0
  have ha : a ≤ 15 := by omega
  clear hA
  obtain ⟨b, hbe⟩ : ∃ b, bitsB t = b := ⟨_, rfl⟩
  have hbb := bitsB_lt t
  rw [hbe] at hbb
  have HBE : Hid (bitsB t = b) := hbe
  have HCS : Hid (∀ W, Calls Tryd.prog 30 #[.string t] W fun e w' => e = .returned (.int .i64 (b : Int)) ∧ Below W.heap.size W w') := fun W => by
    have := sSignBitsOf_any t W
    rw [hbe] at this
    exact this
  clear hbe
  go_enter Tryd.func23, Tryd.ntmps23
  go_wp2_with fail
  refine HC.out.mono ?_
  rintro e w1 ⟨rfl, hb1⟩
  have hos1 := HM.out.1.later hb1
  clear HC hb1
  go_wp2_with fail
  refine (HCS.out _).mono ?_
  rintro e w2 ⟨rfl, hb2⟩
  have hos2 := hos1.later hb2
  have HTW : Hid (TwR (w.heap.size + 1) (w.alloc (.cells #[.int .i64 a, .slice ao 8 co, .slice as2 8 cs2, .slice ad 4 cd] 26)) (w2.alloc (.cells #[] 9)) (.slice (some ⟨w.heap.size + 1, 0, none⟩) 0 0) (.slice (some ⟨w2.heap.size, 0, none⟩) 0 0) [] []) := by
    refine ⟨hos2.alloc _, OS.up hos2.2.1 hos2.2.2 (OS.made w2), fun g hg hv => ?_⟩
    have h1 := (hos2.1.lt g hg).2
    simp [Value.ownBlock] at hv
    omega
  have HST : Hid (S1R b o s (w.heap.size + 1) (w.alloc (.cells #[.int .i64 a, .slice ao 8 co, .slice as2 8 cs2, .slice ad 4 cd] 26)) (.slice (some ⟨w.heap.size + 1, 0, none⟩) 0 0) (.slice (some ⟨w2.heap.size, 0, none⟩) 0 0) (.int .i64 0) (w2.alloc (.cells #[] 9))) := ⟨0, by omega, rfl, HTW.out⟩
  obtain ⟨W0, hW0⟩ : ∃ W0, w.alloc (.cells #[.int .i64 a, .slice ao 8 co, .slice as2 8 cs2, .slice ad 4 cd] 26) = W0 := ⟨_, rfl⟩
  rw [hW0] at HST HM
  have HST : Hid (S1R b o s (w.heap.size + 1) W0 (.slice (some ⟨w.heap.size + 1, 0, none⟩) 0 0) (.slice (some ⟨w2.heap.size, 0, none⟩) 0 0) (.int .i64 0) (w2.alloc (.cells #[] 9))) := HST
  have HM0 : Hid (Below w.heap.size w W0 ∧ SgM W0 w.heap.size a (.slice ao 8 co) (.slice as2 8 cs2) (.slice ad 4 cd) ∧ W0.heap.size = w.heap.size + 1) := HM.out.2
  have HLA : Hid (∀ W, Below (w.heap.size + 1) W0 W → SgM W w.heap.size a (.slice ao 8 co) (.slice as2 8 cs2) (.slice ad 4 cd) ∧ Below w.heap.size w W) := fun W hW => ⟨HM0.out.2.1.keep (hW.block _ (by omega)), HM0.out.1.trans (hW.mono (by omega))⟩
  clear hos1 hos2 hb2 HCS HTW HM hW0
  go_wp2
  go_loopw [5, 7, 8] (fun u v i wr => S1R b o s (w.heap.size + 1) W0 u v i wr) (fun _ _ i _ => 8 - (intOf i).toNat)
  case atStart => exact HST.out
  case round =>
    obtain ⟨m, hm, rfl, htw⟩ := hrel
    clear HST
    have hbel := htw.1.2.1
    by_cases hlt : m < 8
    · obtain ⟨⟨x1, y1, hv1, _, hA1, hc1⟩, ⟨x2, y2, hv2, _, hA2, hc2⟩, _⟩ := HSS.out _ (HLA.out _ hbel).2
      have e1 := hA1 (by rw [HLN.out.1]; omega)
      have e2 := hA2 (by rw [HLN.out.2.1]; omega)
      rw [HLN.out.1] at hv1
      rw [HLN.out.2.1] at hv2
      simp at hv1 hv2
      obtain ⟨rfl, rfl⟩ := hv1
      obtain ⟨rfl, rfl⟩ := hv2
      subst e1
      subst e2
      have c1 := hc1 m (by rw [HLN.out.1]; exact hlt)
      rw [gB_eq o m (by rw [HLN.out.1]; exact hlt)] at c1
      have d1 := (HLA.out _ hbel).1.c1
      have htx := txN_step o m
      have htl := txN_len o m
      have hlk := lkN_step b o s m
      have hlkl := lkN_len b o s m
      have hKT := sTagText_lit 6 [gB o m] 1 #[.string (gB o m)] wr _ rfl rfl (by omega) rfl
      have hV := bitN_lt b m
      have i1 : (m : Int) < 8 := by omega
      have i2 : (0 : Int) ≤ (m : Int) := by omega
      have HK1 : Hid (tagB 6 [gB o m] = tx1 o m) := rfl
      rw [HK1.out] at hKT
      generalize tx1 o m = X at *
      have HCC : Hid (∀ W, Below (w.heap.size + 1) W0 W → W.cell? ⟨w.heap.size, 1, none⟩ = some (.slice (some ⟨g1, o1, none⟩) 8 co) ∧ W.cell? ⟨w.heap.size, 2, none⟩ = some (.slice (some ⟨g2, o2, none⟩) 8 cs2) ∧ W.cell? ⟨g1, o1 + m, none⟩ = some (.string (gB o m)) ∧ W.cell? ⟨g2, o2 + m, none⟩ = some (.string (gB s m))) := fun W hW => by
        obtain ⟨⟨_, _, _, _, _, k1⟩, ⟨_, _, _, _, _, k2⟩, _⟩ := HSS.out _ (HLA.out _ hW).2
        have j1 := k1 m (by rw [HLN.out.1]; exact hlt)
        have j2 := k2 m (by rw [HLN.out.2.1]; exact hlt)
        rw [gB_eq o m (by rw [HLN.out.1]; exact hlt)] at j1
        rw [gB_eq s m (by rw [HLN.out.2.1]; exact hlt)] at j2
        exact ⟨(HLA.out _ hW).1.c1, (HLA.out _ hW).1.c2, j1, j2⟩
      have HL2 : Hid (lk2 b o s m = if bitN b m = 0 then [lockB (gB o m), gB s m] else [gB s m, lockB (gB o m)]) := rfl
      generalize gB o m = O at *
      generalize gB s m = Y at *
      generalize tagOk 6 [O] = R at *
      clear hA1 hA2 hc1 hc2 HK1
      go_wp2_with fail
      refine hKT.out.mono ?_
      rintro e w3 ⟨rfl, hb3⟩
      have htw3 := htw.later hb3
      clear htw hb3 hKT c1 d1 hbel
      go_wp2_with (at_builtin; refine wp_tw rfl _ _ rfl (w.heap.size + 1) W0 _ _ (txN o m) (lkN b o s m) [X] rfl (htw3.alloc _) w3.heap.size 1 1 rfl rfl (by omega) (lit_at w3 [X] _ rfl) ?c2 ?_)
      case c2 => omega
      intro v4 w4 htw4
      rw [← htx] at htw4
      clear htw3 htx
      go_wp2_with fail
      refine (sBitOf_at b m _ _ hbb rfl (by omega)).mono ?_
      rintro e w4' ⟨rfl, rfl⟩
      have hbel4 := htw4.1.2.1
      obtain ⟨d1, d2, c1, c2⟩ := HCC.out _ hbel4
      generalize hVV : bitN b m = V at *
      have HN : Hid (∀ u v W, TwR (w.heap.size + 1) W0 W v u (lkN b o s m ++ lk2 b o s m) (txN o (m + 1)) → S1R b o s (w.heap.size + 1) W0 u v (.int .i64 ((m : Int) + 1)) W) := fun u v W hW => ⟨m + 1, by omega, by simp, by rw [hlk]; exact hW.swap⟩
      have hu7 : ∃ aa cc, u7 = .slice aa (2 * m) cc := by
        obtain ⟨aa, cc, he⟩ := own_slice htw4.2.1.1
        rw [hlkl] at he
        exact ⟨aa, cc, he⟩
      clear hlk
      by_cases hv : V = 0
      · subst hv
        rw [if_pos rfl] at HL2
        rw [HL2.out] at HN
        have HLK := sLockOf_any O
        go_wp2
        go_region_held3 (fun W => W.cell? ⟨w.heap.size, 1, none⟩ = some (.slice (some ⟨g1, o1, none⟩) 8 co) ∧ W.cell? ⟨w.heap.size, 2, none⟩ = some (.slice (some ⟨g2, o2, none⟩) 8 cs2) ∧ W.cell? ⟨g1, o1 + m, none⟩ = some (.string O) ∧ W.cell? ⟨g2, o2 + m, none⟩ = some (.string Y)) (first | go_keep | exact HCC.out _ htw6.1.2.1 | exact HCC.out _ hb5') ((first | (go_at_call 93; refine (HLK _).mono ?_; rintro e w5 ⟨rfl, hb5⟩; have hb5' : Below (w.heap.size + 1) W0 w5 := hbel4.drew.trans (hb5.mono (show w.heap.size + 1 ≤ w4'.heap.size from htw4.1.2.2))) | (refine step_tw rfl _ _ rfl (w.heap.size + 1) W0 _ _ (lkN b o s m) (txN o (m + 1)) [lockB O, Y] (by rfl) ((TwR.later (w := w4'.drew) htw4.swap.drew hb5).alloc _) w5.heap.size 2 2 (by rfl) rfl (by omega) (by exact lit_at w5 [lockB O, Y] _ rfl) (by omega) ?_; intro v6 w6 htw6)))
        go_wp2
        go_roundw
        case rel => exact HN.out _ _ _ htw6
        case measure => simp [intOf]; omega
      · have hv1 : V = 1 := by omega
        subst hv1
        rw [if_neg hv] at HL2
        rw [HL2.out] at HN
        have HLK := sLockOf_any O
        go_wp2
        go_region_held3 (fun W => W.cell? ⟨w.heap.size, 1, none⟩ = some (.slice (some ⟨g1, o1, none⟩) 8 co) ∧ W.cell? ⟨w.heap.size, 2, none⟩ = some (.slice (some ⟨g2, o2, none⟩) 8 cs2) ∧ W.cell? ⟨g1, o1 + m, none⟩ = some (.string O) ∧ W.cell? ⟨g2, o2 + m, none⟩ = some (.string Y)) (first | go_keep | exact HCC.out _ htw6.1.2.1 | exact HCC.out _ hb5') ((first | (go_at_call 93; refine (HLK _).mono ?_; rintro e w5 ⟨rfl, hb5⟩; have hb5' : Below (w.heap.size + 1) W0 w5 := hbel4.drew.trans (hb5.mono (show w.heap.size + 1 ≤ w4'.heap.size from htw4.1.2.2))) | (refine step_tw rfl _ _ rfl (w.heap.size + 1) W0 _ _ (lkN b o s m) (txN o (m + 1)) [Y, lockB O] (by rfl) ((TwR.later (w := w4'.drew) htw4.swap.drew hb5).alloc _) w5.heap.size 2 2 (by rfl) rfl (by omega) (by exact lit_at w5 [Y, lockB O] _ rfl) (by omega) ?_; intro v6 w6 htw6)))
        go_wp2
        go_roundw
        case rel => exact HN.out _ _ _ htw6
        case measure => simp [intOf]; omega
    · have hme : m = 8 := by omega
      subst hme
      obtain ⟨gL, hsL⟩ := htw.2.1.ss (by rw [lkN_len]; omega)
      have hc := sTagText_any 6 u7 gL 0 (lkN b o s 8) wr hsL
      obtain ⟨aL, cL, hvL⟩ := own_slice htw.2.1.1
      rw [lkN_len] at hvL
      subst hvL
      have hos := htw.1
      have hpt : tagB 6 (lkN b o s 8) = pubT b o s := rfl
      have HRT : Hid (sgT b a o s d = txN o 8 ++ fN a d (pubT b o s) 5) := rfl
      have hps : (pubT b o s).size ≤ 12601 := tagB_size _ _
      have htl := txN_len o 8
      rw [hpt] at hc
      generalize pubT b o s = P at *
      generalize tagOk 6 (lkN b o s 8) = R at *
      have HF1 : Hid (fN a d P 1 = [P]) := rfl
      clear htw hsL hbel hpt
      go_wp2_with fail
      refine hc.mono ?_
      rintro e w5 ⟨rfl, hb5⟩
      have hos5 := hos.later hb5
      clear hos hb5 hc
      go_wp2_with (at_builtin; refine wp_appS rfl _ _ rfl (w.heap.size + 1) W0 _ (txN o 8) rfl (hos5.alloc _) ⟨w5.heap.size, 0, none⟩ P rfl ?c1 ?c2 ?_)
      case c1 => exact one_text _ _ _
      case c2 => omega
      intro v6 w6 hos6
      rw [← HF1.out] at hos6
      have d0 := (HLA.out _ hos6.2.1).1.c0
      have HST : Hid (S2R a o d P (w.heap.size + 1) W0 v6 (.int .i64 (a : Int)) (.int .i64 0) w6) := ⟨0, by omega, rfl, by simp, hos6⟩
      clear hos5 hos6 HF1
      go_wp2
      clear d0
      go_loopw [5, 13, 14] (fun v p i wr => S2R a o d P (w.heap.size + 1) W0 v p i wr) (fun _ _ i _ => 4 - (intOf i).toNat)
      case atStart => exact HST.out
      case round =>
        obtain ⟨m, hm4, rfl, rfl, hosr⟩ := hrel
        clear HST
        have d3 := (HLA.out _ hosr.2.1).1.c3
        by_cases hlt4 : m < 4
        · obtain ⟨_, _, x3, y3, hv3, _, hA3, hc3⟩ := HSS.out _ (HLA.out _ hosr.2.1).2
          have e3 := hA3 (by rw [HLN.out.2.2]; omega)
          rw [HLN.out.2.2] at hv3
          simp at hv3
          obtain ⟨rfl, rfl⟩ := hv3
          subst e3
          have hfs := fT_size a d P hps m
          have hfn : fT a d P (m + 1) = nodeT (a / 2 ^ m % 2) (cutH (fT a d P m) 16) (gB d m) := rfl
          have hst := fN_step a d P (m + 1)
          have hq : a / 2 ^ (m + 1) = a / 2 ^ m / 2 := by rw [Nat.pow_succ, Nat.div_div_eq_div_mul]
          have hfl := fN_len a d P (m + 1)
          have hll : (txN o 8 ++ fN a d P (m + 1)).length = 9 + m := by rw [List.length_append, htl, hfl]; omega
          have hlast := last_at o a d P m (by omega)
          rcases hosr.shape with ⟨_, hnil⟩ | ⟨gr, cr, hvr, _, _⟩
          · have h0 := congrArg List.length hnil
            rw [hll] at h0
            exact absurd h0 (by rw [List.length_nil]; omega)
          · rw [hll] at hvr
            subst hvr
            have cl := hosr.at (8 + m) (by omega)
            rw [hlast] at cl
            have HN : Hid (∀ v W, OS (w.heap.size + 1) W0 W v ((txN o 8 ++ fN a d P (m + 1)) ++ [nodeT (a / 2 ^ m % 2) (cutH (fT a d P m) 16) (gB d m)]) → S2R a o d P (w.heap.size + 1) W0 v (.int .i64 ((a / 2 ^ m / 2 : Nat) : Int)) (.int .i64 ((m : Int) + 1)) W) := fun v W hW => by
              refine ⟨m + 1, by omega, by simp, by rw [hq], ?_⟩
              rw [hst, hfn, ← List.append_assoc]
              exact hW
            have HC4 : Hid (∀ W, Below (w.heap.size + 1) W0 W → W.cell? ⟨w.heap.size, 3, none⟩ = some (.slice (some ⟨g3, o3, none⟩) 4 cd) ∧ W.cell? ⟨g3, o3 + m, none⟩ = some (.string (gB d m))) := fun W hW => by
              obtain ⟨_, _, _, _, _, _, _, k3⟩ := HSS.out _ (HLA.out _ hW).2
              have j3 := k3 m (by rw [HLN.out.2.2]; exact hlt4)
              rw [gB_eq d m (by rw [HLN.out.2.2]; exact hlt4)] at j3
              exact ⟨(HLA.out _ hW).1.c3, j3⟩
            have hcd := sCutDigest_any (fT a d P m) 16 wr (by omega)
            have hq15 : a / 2 ^ m ≤ 15 := Nat.le_trans (Nat.div_le_self _ _) ha
            clear hfn hst hq hA3 hc3 hfl hlast
            generalize txN o 8 ++ fN a d P (m + 1) = R2 at *
            generalize a / 2 ^ m = q at *
            generalize cutH (fT a d P m) 16 = H at *
            generalize fT a d P m = F at *
            generalize gB d m = X at *
            have i1 : (m : Int) < 4 := by omega
            have i2 : (0 : Int) ≤ (m : Int) := by omega
            have i3 : ((9 + m : Nat) : Int) - 1 = ((8 + m : Nat) : Int) := by omega
            have i4 : (9 + (m : Int)) - 1 = 8 + (m : Int) := by omega
            have i5 : (0 : Int) ≤ 8 + (m : Int) := by omega
            have i6 : 8 + (m : Int) < 9 + (m : Int) := by omega
            have t1 : (8 + (m : Int)).toNat = 8 + m := by omega
            go_wp2_with fail
            refine hcd.mono ?_
            rintro e w7 ⟨rfl, hb7⟩
            have hos7 := hosr.later hb7
            obtain ⟨d3', c4⟩ := HC4.out _ hos7.2.1
            clear hcd hosr hb7 cl d3
            by_cases hp : q % 2 = 0
            · have hqi : ((q : Int) % 2 == 1) = false := by simp; omega
              have hn0 : nodeT (q % 2) H X = tagB 3 [H, X] := by unfold nodeT; rw [if_pos hp]
              rw [hn0] at HN
              have hkt := sTagText_lit 3 [H, X] 2 #[.string H, .string X] w7 _ rfl rfl (by omega) rfl
              generalize tagB 3 [H, X] = Z at *
              generalize tagOk 3 [H, X] = R3 at *
              clear hp hn0
              go_wp2_with fail
              refine hkt.out.mono ?_
              rintro e w8 ⟨rfl, hb8⟩
              have hos8 := hos7.later hb8
              clear hos7 hb8 hkt
              go_wp2_with (at_builtin; refine wp_appS rfl _ _ rfl (w.heap.size + 1) W0 _ R2 rfl ?c0 ⟨w8.heap.size, 0, none⟩ Z rfl ?c1 ?c2 ?_)
              case c0 => rw [hll] at *; exact hos8.alloc _
              case c1 => exact one_text _ _ _
              case c2 => omega
              intro v9 w9 hos9
              go_wp2
              go_roundw
              case rel => exact HN.out _ _ hos9
              case measure => simp [intOf]; omega
            · have hqi : ((q : Int) % 2 == 1) = true := by simp; omega
              have hn0 : nodeT (q % 2) H X = tagB 3 [X, H] := by unfold nodeT; rw [if_neg hp]
              rw [hn0] at HN
              have b8 : Below w7.heap.size w7 (w7.alloc (.cells #[.string H, .string X] 9)) := (Below.refl _ _).alloc (Nat.le_refl _) _
              have hkt := sTagText_lit 3 [X, H] 2 #[.string X, .string H] (w7.alloc (.cells #[.string H, .string X] 9)) (w7.heap.size + 1) (by simp) rfl (by omega) rfl
              have hos7b := hos7.later b8
              obtain ⟨d3b, c4b⟩ := HC4.out _ hos7b.2.1
              generalize tagB 3 [X, H] = Z at *
              generalize tagOk 3 [X, H] = R3 at *
              clear hp hn0 hos7 b8
              go_wp2_with fail
              refine hkt.out.mono ?_
              rintro e w8 ⟨rfl, hb8⟩
              have hos8 := hos7b.later hb8
              clear hos7b hb8 hkt
              go_wp2_with (at_builtin; refine wp_appS rfl _ _ rfl (w.heap.size + 1) W0 _ R2 rfl ?c0 ⟨w8.heap.size, 0, none⟩ Z rfl ?c1 ?c2 ?_)
              case c0 => rw [hll] at *; exact hos8.alloc _
              case c1 => exact one_text _ _ _
              case c2 => omega
              intro v9 w9 hos9
              go_wp2
              go_roundw
              case rel => exact HN.out _ _ hos9
              case measure => simp [intOf]; omega
        · have hme : m = 4 := by omega
          subst hme
          have hfin : OS w.heap.size w wr _ (txN o 8 ++ fN a d P (4 + 1)) := OS.up HM0.out.1 HM0.out.1.size (by rw [HM0.out.2.2]; exact hosr)
          go_wp2
          go_ret
          exact ⟨_, rfl, by rw [HBE.out, HRT.out]; exact hfin⟩

end Go.Proofs.YtmfoliocibjdnaaDoor
/-
  What SigTexts and SigOk answer at any argument, the program's and the specification's.
-/
namespace Go.Proofs.YtmfoliocibjdnaaDoor
open Go.RowKit Go.BigFrame
set_option linter.unusedVariables false

theorem SigTexts_no (t : ByteArray) (a : Int) (vo vs vd : Value) (g1 o1 g2 o2 g3 o3 : Nat) (o s d : List ByteArray) (w : World) (ho : SS w vo g1 o1 o) (hs : SS w vs g2 o2 s) (hd : SS w vd g3 o3 d) (hz : t.size ≤ 1100000) (h : (formB a o s d && decide (t.size ≤ 200)) = false) :
    Calls Tryd.prog 21 #[.string t, .agg #[.int .i64 a, vo, vs, vd]] w fun e w' => ∃ v, e = .returned v ∧ OS w.heap.size w w' v [] := by
  have hB : Below w.heap.size w (w.alloc (.cells #[.int .i64 a, vo, vs, vd] 26)) := (Below.refl _ _).alloc (Nat.le_refl _) _
  have hc := sigFormOk_any a vo vs vd g1 o1 g2 o2 g3 o3 o s d _ (ho.below hB ho.lt) (hs.below hB hs.lt) (hd.below hB hd.lt)
  have HB : Hid (Below w.heap.size w (w.alloc (.cells #[.int .i64 a, vo, vs, vd] 26))) := hB
  by_cases ht : t.size ≤ 200
  · rw [decide_eq_true ht, Bool.and_true] at h
    rw [h] at hc
    have HC : Hid (Calls Tryd.prog 86 #[.agg #[.int .i64 a, vo, vs, vd]] (w.alloc (.cells #[.int .i64 a, vo, vs, vd] 26)) fun e w' => e = .returned (.bool false) ∧ Below (w.alloc (.cells #[.int .i64 a, vo, vs, vd] 26)).heap.size (w.alloc (.cells #[.int .i64 a, vo, vs, vd] 26)) w') := hc
    obtain ⟨ao, co, rfl, _, x1⟩ := ho
    obtain ⟨as2, cs2, rfl, _, x2⟩ := hs
    obtain ⟨ad, cd, rfl, _, x3⟩ := hd
    clear x1 x2 x3 hc hB h
    go_enter Tryd.func21, Tryd.ntmps21
    go_wp2_with fail
    refine HC.out.mono ?_
    rintro e w1 ⟨rfl, hb1⟩
    have b1 := HB.out.trans (hb1.mono HB.out.size)
    have hos := OS.up b1 b1.size (OS.made w1)
    go_wp2
    go_ret
    exact ⟨_, rfl, hos⟩
  · obtain ⟨ao, co, rfl, _, x1⟩ := ho
    obtain ⟨as2, cs2, rfl, _, x2⟩ := hs
    obtain ⟨ad, cd, rfl, _, x3⟩ := hd
    have ht' : 200 < t.size := by omega
    have hos := OS.up HB.out HB.out.size (OS.made (w.alloc (.cells #[.int .i64 a, .slice ao o.length co, .slice as2 s.length cs2, .slice ad d.length cd] 26)))
    have e : (w.alloc (.cells #[.int .i64 a, .slice ao o.length co, .slice as2 s.length cs2, .slice ad d.length cd] 26)).heap.size = w.heap.size + 1 := by simp
    rw [e] at hos
    clear x1 x2 x3 hc hB h ht e
    go_enter Tryd.func21, Tryd.ntmps21
    go_wp2
    go_ret
    exact ⟨_, rfl, hos⟩

theorem sSigTexts_no (t : ByteArray) (a : Int) (vo vs vd : Value) (g1 o1 g2 o2 g3 o3 : Nat) (o s d : List ByteArray) (w : World) (ho : SS w vo g1 o1 o) (hs : SS w vs g2 o2 s) (hd : SS w vd g3 o3 d) (hz : t.size ≤ 1100000) (h : (formB a o s d && decide (t.size ≤ 200)) = false) :
    Calls Tryd.prog 23 #[.string t, .agg #[.int .i64 a, vo, vs, vd]] w fun e w' => ∃ v, e = .returned v ∧ OS w.heap.size w w' v [] := by
  have hB : Below w.heap.size w (w.alloc (.cells #[.int .i64 a, vo, vs, vd] 26)) := (Below.refl _ _).alloc (Nat.le_refl _) _
  have hB1 : Below w.heap.size w ((w.alloc (.cells #[.int .i64 a, vo, vs, vd] 26)).alloc (.cells #[] 9)) := hB.alloc hB.size _
  have hc := l05Form_any a vo vs vd g1 o1 g2 o2 g3 o3 o s d _ (ho.below hB1 ho.lt) (hs.below hB1 hs.lt) (hd.below hB1 hd.lt)
  have hos := OS.up hB hB.size (OS.made (w.alloc (.cells #[.int .i64 a, vo, vs, vd] 26)))
  have e : (w.alloc (.cells #[.int .i64 a, vo, vs, vd] 26)).heap.size = w.heap.size + 1 := by simp
  rw [e] at hos
  have HO : Hid (OS w.heap.size w ((w.alloc (.cells #[.int .i64 a, vo, vs, vd] 26)).alloc (.cells #[] 9)) (.slice (some ⟨w.heap.size + 1, 0, none⟩) 0 0) []) := hos
  have HC : Hid (Calls Tryd.prog 91 #[.agg #[.int .i64 a, vo, vs, vd]] ((w.alloc (.cells #[.int .i64 a, vo, vs, vd] 26)).alloc (.cells #[] 9)) fun e w' => e = .returned (.bool (formB a o s d)) ∧ Below ((w.alloc (.cells #[.int .i64 a, vo, vs, vd] 26)).alloc (.cells #[] 9)).heap.size ((w.alloc (.cells #[.int .i64 a, vo, vs, vd] 26)).alloc (.cells #[] 9)) w') := hc
  obtain ⟨ao, co, rfl, _, x1⟩ := ho
  obtain ⟨as2, cs2, rfl, _, x2⟩ := hs
  obtain ⟨ad, cd, rfl, _, x3⟩ := hd
  generalize formB a o s d = F at *
  clear x1 x2 x3 hc hB hB1 hos e
  cases F with
  | false =>
    clear h
    go_enter Tryd.func23, Tryd.ntmps23
    go_wp2_with fail
    refine HC.out.mono ?_
    rintro e w1 ⟨rfl, hb1⟩
    have hos1 := HO.out.later hb1
    go_wp2
    go_ret
    exact ⟨_, rfl, hos1⟩
  | true =>
    have ht : 200 < t.size := by simpa using h
    clear h
    go_enter Tryd.func23, Tryd.ntmps23
    go_wp2_with fail
    refine HC.out.mono ?_
    rintro e w1 ⟨rfl, hb1⟩
    have hos1 := HO.out.later hb1
    go_wp2
    go_ret
    exact ⟨_, rfl, hos1⟩

theorem SigTexts_any (t : ByteArray) (a : Int) (vo vs vd : Value) (g1 o1 g2 o2 g3 o3 : Nat) (o s d : List ByteArray) (w : World) (ho : SS w vo g1 o1 o) (hs : SS w vs g2 o2 s) (hd : SS w vd g3 o3 d) (hz : t.size ≤ 1100000) (hT : Tb w) :
    Calls Tryd.prog 21 #[.string t, .agg #[.int .i64 a, vo, vs, vd]] w fun e w' => ∃ v, e = .returned v ∧ OS w.heap.size w w' v (sigT t a o s d) := by
  unfold sigT
  cases h : (formB a o s d && decide (t.size ≤ 200)) with
  | false => exact SigTexts_no t a vo vs vd g1 o1 g2 o2 g3 o3 o s d w ho hs hd hz h
  | true =>
    rw [Bool.and_eq_true, decide_eq_true_eq] at h
    obtain ⟨hA, _⟩ := formB_parts h.1
    obtain ⟨a, rfl⟩ := Int.eq_ofNat_of_zero_le hA.1
    exact SigTexts_yes t a vo vs vd g1 o1 g2 o2 g3 o3 o s d w ho hs hd h.1 h.2 hT
theorem sSigTexts_any (t : ByteArray) (a : Int) (vo vs vd : Value) (g1 o1 g2 o2 g3 o3 : Nat) (o s d : List ByteArray) (w : World) (ho : SS w vo g1 o1 o) (hs : SS w vs g2 o2 s) (hd : SS w vd g3 o3 d) (hz : t.size ≤ 1100000) :
    Calls Tryd.prog 23 #[.string t, .agg #[.int .i64 a, vo, vs, vd]] w fun e w' => ∃ v, e = .returned v ∧ OS w.heap.size w w' v (sigT t a o s d) := by
  unfold sigT
  cases h : (formB a o s d && decide (t.size ≤ 200)) with
  | false => exact sSigTexts_no t a vo vs vd g1 o1 g2 o2 g3 o3 o s d w ho hs hd hz h
  | true =>
    rw [Bool.and_eq_true, decide_eq_true_eq] at h
    obtain ⟨hA, _⟩ := formB_parts h.1
    obtain ⟨a, rfl⟩ := Int.eq_ofNat_of_zero_le hA.1
    exact sSigTexts_yes t a vo vs vd g1 o1 g2 o2 g3 o3 o s d w ho hs hd h.1 h.2

/-- what SigOk is -/
def okS (r t : ByteArray) (a : Int) (o s d : List ByteArray) : Bool := (formB a o s d && decide (t.size ≤ 200)) && ((cut16 (fT a.toNat d (pubT (bitsB t) o s) 4)).toList == r.toList)

theorem sgT_last (b a : Nat) (o s d : List ByteArray) (h : 12 < (sgT b a o s d).length) : (sgT b a o s d)[12] = fT a d (pubT b o s) 4 := by
  have h' : 12 < (txN o 8 ++ fN a d (pubT b o s) 5).length := h
  show (txN o 8 ++ fN a d (pubT b o s) 5)[12]'h' = _
  rw [List.getElem_append_right (by rw [txN_len]; omega)]
  simp [fN, txN_len]

set_option maxRecDepth 100000 in
set_option maxHeartbeats 1000000 in
theorem SigOk_any (r t : ByteArray) (a : Int) (vo vs vd : Value) (g1 o1 g2 o2 g3 o3 : Nat) (o s d : List ByteArray) (w : World) (ho : SS w vo g1 o1 o) (hs : SS w vs g2 o2 s) (hd : SS w vd g3 o3 d) (hz : t.size ≤ 1100000) (hT : Tb w) :
    Calls Tryd.prog 16 #[.string r, .string t, .agg #[.int .i64 a, vo, vs, vd]] w fun e w' => e = .returned (.bool (okS r t a o s d)) ∧ Below w.heap.size w w' := by
  have hB : Below w.heap.size w (w.alloc (.cells #[.int .i64 a, vo, vs, vd] 26)) := (Below.refl _ _).alloc (Nat.le_refl _) _
  have hc := SigTexts_any t a vo vs vd g1 o1 g2 o2 g3 o3 o s d _ (ho.below hB ho.lt) (hs.below hB hs.lt) (hd.below hB hd.lt) hz (hT.later hB)
  have HC : Hid (Calls Tryd.prog 21 #[.string t, .agg #[.int .i64 a, vo, vs, vd]] (w.alloc (.cells #[.int .i64 a, vo, vs, vd] 26)) fun e w' => ∃ v, e = .returned v ∧ OS (w.alloc (.cells #[.int .i64 a, vo, vs, vd] 26)).heap.size (w.alloc (.cells #[.int .i64 a, vo, vs, vd] 26)) w' v (sigT t a o s d)) := hc
  have HB : Hid (Below w.heap.size w (w.alloc (.cells #[.int .i64 a, vo, vs, vd] 26))) := hB
  have HT : Hid (Tb w) := hT
  obtain ⟨ao, co, rfl, _, x1⟩ := ho
  obtain ⟨as2, cs2, rfl, _, x2⟩ := hs
  obtain ⟨ad, cd, rfl, _, x3⟩ := hd
  clear x1 x2 x3 hc hB hT
  unfold okS
  unfold sigT at HC
  cases h : (formB a o s d && decide (t.size ≤ 200)) with
  | false =>
    rw [h] at HC
    clear h
    go_enter Tryd.func16, Tryd.ntmps16
    go_wp2_with fail
    refine HC.out.mono ?_
    rintro e w1 ⟨v, rfl, hos⟩
    have b1 := HB.out.trans (hos.2.1.mono HB.out.size)
    obtain ⟨aa, cc, hv⟩ := own_slice hos.1
    have hv : v = .slice aa 0 cc := hv
    subst hv
    clear hos HC
    go_wp2
    go_ret
    exact ⟨by simp, b1⟩
  | true =>
    rw [h] at HC
    clear h
    have hl13 := sgT_len (bitsB t) a.toNat o s d
    have hlast : ∀ h : 12 < (sgT (bitsB t) a.toNat o s d).length, (sgT (bitsB t) a.toNat o s d)[12] = fT a.toNat d (pubT (bitsB t) o s) 4 := fun h => sgT_last (bitsB t) a.toNat o s d h
    have hfs := fT_size a.toNat d (pubT (bitsB t) o s) (tagB_size _ _) 4
    rw [if_pos rfl] at HC
    generalize fT a.toNat d (pubT (bitsB t) o s) 4 = F at *
    generalize sgT (bitsB t) a.toNat o s d = L at *
    have HCD : Hid (∀ W, Below w.heap.size w W → Calls Tryd.prog 83 #[.string F, .int .i64 16] W fun e w' => e = .returned (.string (cut16 F)) ∧ Below W.heap.size W w') := fun W hW => CutDigest_any F 16 W (by omega) (HT.out.later hW).1 (HT.out.later hW).2
    generalize cut16 F = H at *
    have HLL : Hid (L.length = 13) := hl13
    go_enter Tryd.func16, Tryd.ntmps16
    go_wp2_with fail
    refine HC.out.mono ?_
    rintro e w1 ⟨v, rfl, hos⟩
    have b1 := HB.out.trans (hos.2.1.mono HB.out.size)
    rcases hos.shape with ⟨_, hnil⟩ | ⟨gr, cr, hvr, _, _⟩
    · have h0 := congrArg List.length hnil
      rw [hl13] at h0
      exact absurd h0 (by rw [List.length_nil]; omega)
    · rw [hl13] at hvr
      subst hvr
      have cl := hos.at 12 (by omega)
      rw [hlast _] at cl
      clear hos HC hlast hl13
      go_wp2_with fail
      refine (HCD.out _ b1).mono ?_
      rintro e w2 ⟨rfl, hb2⟩
      go_wp2
      go_ret
      exact ⟨by simp, b1.trans (hb2.mono b1.size)⟩

end Go.Proofs.YtmfoliocibjdnaaDoor
/-
  What the specification's SigOk answers.
-/
namespace Go.Proofs.YtmfoliocibjdnaaDoor
open Go.RowKit Go.BigFrame
set_option linter.unusedVariables false

def K1R (b : Nat) (o s : List ByteArray) (B : Nat) (W0 : World) (v i : Value) (wr : World) : Prop :=
  ∃ m : Nat, m ≤ 8 ∧ i = .int .i64 m ∧ OS B W0 wr v (lkN b o s m)
def K2R (a : Nat) (d : List ByteArray) (t : ByteArray) (B : Nat) (W0 : World) (h p i : Value) (wr : World) : Prop :=
  ∃ m : Nat, m ≤ 4 ∧ i = .int .i64 m ∧ h = .string (cut16 (fT a d t m)) ∧ p = .int .i64 (a / 2 ^ m : Nat) ∧ Below B W0 wr

theorem tagOk_two (k : Int) (x y : ByteArray) (hk : 1 ≤ k ∧ k ≤ 8) (hx : x.size ≤ 200) (hy : y.size ≤ 200) : tagOk k [x, y] = true := by
  refine tagOk_yes _ _ ⟨hk, by simp⟩ ?_
  intro m hm
  have h0 : m = 0 ∨ m = 1 := by simp at hm; omega
  rcases h0 with rfl | rfl
  · exact hx
  · exact hy
theorem lkN_wide (b : Nat) (o s : List ByteArray) (ho : o.length = 8) (hs : s.length = 8) (wo : kwB o = true) (ws : kwB s = true) : ∀ m, m ≤ 8 → kwB (lkN b o s m) = true
  | 0, _ => rfl
  | m + 1, h => by
    rw [lkN_step]
    have ih := lkN_wide b o s ho hs wo ws m (by omega)
    have h1 : (gB s m).size = 16 := by rw [← gB_eq s m (by omega)]; exact kwB_at ws m (by omega)
    have h2 : (gB o m).size = 16 := by rw [← gB_eq o m (by omega)]; exact kwB_at wo m (by omega)
    have h3 : (lockB (gB o m)).size = 16 := by
      unfold lockB
      refine hashB_size ?_
      rw [tagOk_one 6 _ (by omega), decide_eq_true (by omega)]
    unfold kwB at *
    rw [List.all_append, ih]
    unfold lk2
    split <;> simp [h1, h3]
theorem pub_ok (b : Nat) (o s : List ByteArray) (ho : o.length = 8) (hs : s.length = 8) (wo : kwB o = true) (ws : kwB s = true) : tagOk 6 (lkN b o s 8) = true := by
  have hw := lkN_wide b o s ho hs wo ws 8 (by omega)
  refine tagOk_yes _ _ ⟨by omega, by rw [lkN_len]; omega⟩ ?_
  intro m hm
  rw [kwB_at hw m hm]
  omega
theorem fT_cut (a : Nat) (d : List ByteArray) (t : ByteArray) (i : Nat) : (cut16 (fT a d t i)).size ≤ 16 := by
  unfold cut16 cutH cutB
  rw [if_pos (by omega), ByteArray.size_extract]
  show min 16 _ - 0 ≤ 16
  omega

set_option maxRecDepth 100000 in
set_option maxHeartbeats 4000000 in
theorem sSigOk_yes (r t : ByteArray) (a : Nat) (vo vs vd : Value) (g1 o1 g2 o2 g3 o3 : Nat) (o s d : List ByteArray) (w : World) (ho : SS w vo g1 o1 o) (hs : SS w vs g2 o2 s) (hd : SS w vd g3 o3 d) (hf : formB (a : Int) o s d = true) (ht : t.size ≤ 200) :
    Calls Tryd.prog 35 #[.string r, .string t, .agg #[.int .i64 a, vo, vs, vd]] w fun e w' => e = .returned (.bool ((cut16 (fT a d (pubT (bitsB t) o s) 4)).toList == r.toList)) ∧ Below w.heap.size w w' := by
  obtain ⟨hA, ⟨wo, lo⟩, ⟨ws, ls⟩, wd, ld⟩ := formB_parts hf
  have HSS : Hid (∀ W, Below w.heap.size w W → SS W vo g1 o1 o ∧ SS W vs g2 o2 s ∧ SS W vd g3 o3 d) := fun W hW => ⟨ho.below hW ho.lt, hs.below hW hs.lt, hd.below hW hd.lt⟩
  have hB : Below w.heap.size w (w.alloc (.cells #[.int .i64 a, vo, vs, vd] 26)) := (Below.refl _ _).alloc (Nat.le_refl _) _
  have hc := l05Form_any (a : Int) vo vs vd g1 o1 g2 o2 g3 o3 o s d _ (ho.below hB ho.lt) (hs.below hB hs.lt) (hd.below hB hd.lt)
  rw [hf] at hc
  have HC : Hid (Calls Tryd.prog 91 #[.agg #[.int .i64 a, vo, vs, vd]] (w.alloc (.cells #[.int .i64 a, vo, vs, vd] 26)) fun e w' => e = .returned (.bool true) ∧ Below (w.alloc (.cells #[.int .i64 a, vo, vs, vd] 26)).heap.size (w.alloc (.cells #[.int .i64 a, vo, vs, vd] 26)) w') := hc
  have z0 : (w.alloc (.cells #[.int .i64 a, vo, vs, vd] 26)).heap.size = w.heap.size + 1 := by simp
  have HLN : Hid (o.length = 8 ∧ s.length = 8 ∧ d.length = 4) := ⟨lo, ls, ld⟩
  have HM : Hid (Below w.heap.size w (w.alloc (.cells #[.int .i64 a, vo, vs, vd] 26)) ∧ SgM (w.alloc (.cells #[.int .i64 a, vo, vs, vd] 26)) w.heap.size a vo vs vd ∧ (w.alloc (.cells #[.int .i64 a, vo, vs, vd] 26)).heap.size = w.heap.size + 1) := ⟨hB, SgM.new w _ _ _ _, z0⟩
  have HW : Hid (kwB o = true ∧ kwB s = true ∧ kwB d = true) := ⟨wo, ws, wd⟩
  have hpok := pub_ok (bitsB t) o s lo ls wo ws
  obtain ⟨ao, co, rfl, _, x1⟩ := ho
  obtain ⟨as2, cs2, rfl, _, x2⟩ := hs
  obtain ⟨ad, cd, rfl, _, x3⟩ := hd
  rw [lo, ls, ld] at HSS HC HM ⊢
  clear x1 x2 x3 hc hB hf wo ws wd lo ls ld z0
  have ha : a ≤ 15 := by omega
  clear hA
  obtain ⟨b, hbe⟩ : ∃ b, bitsB t = b := ⟨_, rfl⟩
  have hbb := bitsB_lt t
  rw [hbe] at hbb hpok ⊢
  have HPK : Hid (tagOk 6 (lkN b o s 8) = true) := hpok
  have HCS : Hid (∀ W, Calls Tryd.prog 30 #[.string t] W fun e w' => e = .returned (.int .i64 (b : Int)) ∧ Below W.heap.size W w') := fun W => by
    have := sSignBitsOf_any t W
    rw [hbe] at this
    exact this
  clear hbe hpok
  obtain ⟨Z, hZ⟩ : ∃ Z, cut16 (fT a d (pubT b o s) 4) = Z := ⟨_, rfl⟩
  have HZ : Hid (cut16 (fT a d (pubT b o s) 4) = Z) := hZ
  rw [hZ]
  clear hZ
  go_enter Tryd.func35, Tryd.ntmps35
  go_wp2_with fail
  refine HC.out.mono ?_
  rintro e w1 ⟨rfl, hb1⟩
  go_wp2_with fail
  refine (HCS.out _).mono ?_
  rintro e w2 ⟨rfl, hb2⟩
  have hb02 := hb1.trans (hb2.mono hb1.size)
  obtain ⟨W0, hW0⟩ : ∃ W0, w.alloc (.cells #[.int .i64 a, .slice ao 8 co, .slice as2 8 cs2, .slice ad 4 cd] 26) = W0 := ⟨_, rfl⟩
  rw [hW0] at hb02 HM
  have hb02 : Below (w.heap.size + 1) W0 w2 := by rw [← HM.out.2.2]; exact hb02
  have HST : Hid (K1R b o s (w.heap.size + 1) W0 (.slice (some ⟨w2.heap.size, 0, none⟩) 0 0) (.int .i64 0) (w2.alloc (.cells #[] 9))) := ⟨0, by omega, rfl, OS.up hb02 (by have := hb02.size; rw [HM.out.2.2] at this; exact this) (OS.made w2)⟩
  have HLA : Hid (∀ W, Below (w.heap.size + 1) W0 W → SgM W w.heap.size a (.slice ao 8 co) (.slice as2 8 cs2) (.slice ad 4 cd) ∧ Below w.heap.size w W) := fun W hW => ⟨HM.out.2.1.keep (hW.block _ (by omega)), HM.out.1.trans (hW.mono (by omega))⟩
  clear hb1 hb2 hb02 HCS HC hW0
  go_wp2
  go_loopw [8, 9] (fun v i wr => K1R b o s (w.heap.size + 1) W0 v i wr) (fun _ i _ => 8 - (intOf i).toNat)
  case atStart => exact HST.out
  case round =>
    obtain ⟨m, hm, rfl, hos⟩ := hrel
    clear HST
    by_cases hlt : m < 8
    · obtain ⟨⟨x1, y1, hv1, _, hA1, hc1⟩, ⟨x2, y2, hv2, _, hA2, hc2⟩, _⟩ := HSS.out _ (HLA.out _ hos.2.1).2
      have e1 := hA1 (by rw [HLN.out.1]; omega)
      have e2 := hA2 (by rw [HLN.out.2.1]; omega)
      rw [HLN.out.1] at hv1
      rw [HLN.out.2.1] at hv2
      simp at hv1 hv2
      obtain ⟨rfl, rfl⟩ := hv1
      obtain ⟨rfl, rfl⟩ := hv2
      subst e1
      subst e2
      have hlk := lkN_step b o s m
      have hlkl := lkN_len b o s m
      have hV := bitN_lt b m
      have i1 : (m : Int) < 8 := by omega
      have i2 : (0 : Int) ≤ (m : Int) := by omega
      have HCC : Hid (∀ W, Below (w.heap.size + 1) W0 W → W.cell? ⟨w.heap.size, 1, none⟩ = some (.slice (some ⟨g1, o1, none⟩) 8 co) ∧ W.cell? ⟨w.heap.size, 2, none⟩ = some (.slice (some ⟨g2, o2, none⟩) 8 cs2) ∧ W.cell? ⟨g1, o1 + m, none⟩ = some (.string (gB o m)) ∧ W.cell? ⟨g2, o2 + m, none⟩ = some (.string (gB s m))) := fun W hW => by
        obtain ⟨⟨_, _, _, _, _, k1⟩, ⟨_, _, _, _, _, k2⟩, _⟩ := HSS.out _ (HLA.out _ hW).2
        have j1 := k1 m (by rw [HLN.out.1]; exact hlt)
        have j2 := k2 m (by rw [HLN.out.2.1]; exact hlt)
        rw [gB_eq o m (by rw [HLN.out.1]; exact hlt)] at j1
        rw [gB_eq s m (by rw [HLN.out.2.1]; exact hlt)] at j2
        exact ⟨(HLA.out _ hW).1.c1, (HLA.out _ hW).1.c2, j1, j2⟩
      have HL2 : Hid (lk2 b o s m = if bitN b m = 0 then [lockB (gB o m), gB s m] else [gB s m, lockB (gB o m)]) := rfl
      generalize gB o m = O at *
      generalize gB s m = Y at *
      obtain ⟨d1, d2, c1, c2⟩ := HCC.out _ hos.2.1
      clear hA1 hA2 hc1 hc2
      have HLK := sLockOf_any O wr
      generalize lockB O = K at *
      go_wp2_with fail
      refine HLK.mono ?_
      rintro e w3 ⟨rfl, hb3⟩
      have hos3 := hos.later hb3
      clear hos hb3 HLK d1 d2 c1 c2
      go_wp2_with fail
      refine (sBitOf_at b m _ _ hbb rfl (by omega)).mono ?_
      rintro e w3' ⟨rfl, rfl⟩
      obtain ⟨d1, d2, c1, c2⟩ := HCC.out _ hos3.2.1
      have HN : Hid (∀ v W, OS (w.heap.size + 1) W0 W v (lkN b o s m ++ lk2 b o s m) → K1R b o s (w.heap.size + 1) W0 v (.int .i64 ((m : Int) + 1)) W) := fun v W hW => ⟨m + 1, by omega, by simp, by rw [hlk]; exact hW⟩
      generalize bitN b m = V at *
      clear hlk
      by_cases hv : V = 0
      · subst hv
        rw [if_pos rfl] at HL2
        rw [HL2.out] at HN
        go_wp2_with (at_builtin; refine wp_appRow rfl _ _ rfl (w.heap.size + 1) W0 _ _ (lkN b o s m) [K, Y] rfl (hos3.alloc _) rfl w3'.heap.size 0 (ss_lits w3' [K, Y] _ 2 rfl (by omega) rfl) ?c0 ?c1 ?_)
        case c0 => simp
        case c1 => rw [hlkl]; simp; omega
        intro v4 w4 hos4 _
        go_wp2
        go_roundw
        case rel => exact HN.out _ _ hos4
        case measure => simp [intOf]; omega
      · have hv1 : V = 1 := by omega
        subst hv1
        rw [if_neg hv] at HL2
        rw [HL2.out] at HN
        go_wp2_with (at_builtin; refine wp_appRow rfl _ _ rfl (w.heap.size + 1) W0 _ _ (lkN b o s m) [Y, K] rfl (hos3.alloc _) rfl w3'.heap.size 0 (ss_lits w3' [Y, K] _ 2 rfl (by omega) rfl) ?c0 ?c1 ?_)
        case c0 => simp
        case c1 => rw [hlkl]; simp; omega
        intro v4 w4 hos4 _
        go_wp2
        go_roundw
        case rel => exact HN.out _ _ hos4
        case measure => simp [intOf]; omega
    · have hme : m = 8 := by omega
      subst hme
      obtain ⟨gL, hsL⟩ := hos.ss (by rw [lkN_len]; omega)
      have hc := sTagHash_any 6 u8 16 gL 0 (lkN b o s 8) wr hsL
      have hcut : hashB 6 (lkN b o s 8) 16 = cut16 (pubT b o s) := (cut16_tag 6 _ HPK.out).symm
      rw [hcut] at hc
      obtain ⟨aL, cL, hvL⟩ := own_slice hos.1
      rw [lkN_len] at hvL
      subst hvL
      have hbel := hos.2.1
      generalize pubT b o s = P at *
      clear hos hsL hcut
      go_wp2_with fail
      refine hc.mono ?_
      rintro e w5 ⟨rfl, hb5⟩
      have b5 : Below (w.heap.size + 1) W0 w5 := hbel.trans (hb5.mono (by have := hbel.size; rw [HM.out.2.2] at this; exact this))
      have d0 := (HLA.out _ b5).1.c0
      have HST : Hid (K2R a d P (w.heap.size + 1) W0 (.string (cut16 P)) (.int .i64 (a : Int)) (.int .i64 0) w5) := ⟨0, by omega, rfl, rfl, by simp, b5⟩
      clear hb5 hbel hc b5
      go_wp2
      clear d0
      go_loopw [11, 12, 13] (fun h p i wr => K2R a d P (w.heap.size + 1) W0 h p i wr) (fun _ _ i _ => 4 - (intOf i).toNat)
      case atStart => exact HST.out
      case round =>
        obtain ⟨m, hm4, rfl, rfl, rfl, hbr⟩ := hrel
        clear HST
        have hws : w.heap.size + 1 ≤ wr.heap.size := by have := hbr.size; rw [HM.out.2.2] at this; exact this
        have d3 := (HLA.out _ hbr).1.c3
        by_cases hlt4 : m < 4
        · obtain ⟨_, _, x3, y3, hv3, _, hA3, hc3⟩ := HSS.out _ (HLA.out _ hbr).2
          have e3 := hA3 (by rw [HLN.out.2.2]; omega)
          rw [HLN.out.2.2] at hv3
          simp at hv3
          obtain ⟨rfl, rfl⟩ := hv3
          subst e3
          have c4 := hc3 m (by rw [HLN.out.2.2]; exact hlt4)
          have hxz := kwB_at HW.out.2.2 m (by rw [HLN.out.2.2]; exact hlt4)
          rw [gB_eq d m (by rw [HLN.out.2.2]; exact hlt4)] at c4 hxz
          have hfn : fT a d P (m + 1) = nodeT (a / 2 ^ m % 2) (cut16 (fT a d P m)) (gB d m) := rfl
          have hq : a / 2 ^ (m + 1) = a / 2 ^ m / 2 := by rw [Nat.pow_succ, Nat.div_div_eq_div_mul]
          have hhz := fT_cut a d P m
          have HN : Hid (∀ W, Below (w.heap.size + 1) W0 W → K2R a d P (w.heap.size + 1) W0 (.string (cut16 (nodeT (a / 2 ^ m % 2) (cut16 (fT a d P m)) (gB d m)))) (.int .i64 ((a / 2 ^ m / 2 : Nat) : Int)) (.int .i64 ((m : Int) + 1)) W) := fun W hW => ⟨m + 1, by omega, by simp, by rw [hfn], by rw [hq], hW⟩
          have hq15 : a / 2 ^ m ≤ 15 := Nat.le_trans (Nat.div_le_self _ _) ha
          clear hfn hq hA3 hc3
          generalize a / 2 ^ m = q at *
          generalize cut16 (fT a d P m) = H at *
          generalize gB d m = X at *
          have i1 : (m : Int) < 4 := by omega
          have i2 : (0 : Int) ≤ (m : Int) := by omega
          by_cases hp : q % 2 = 0
          · have hqi : ((q : Int) % 2 == 0) = true := by simp; omega
            have hn0 : nodeT (q % 2) H X = tagB 3 [H, X] := by unfold nodeT; rw [if_pos hp]
            rw [hn0, cut16_tag 3 _ (tagOk_two 3 H X (by omega) (by omega) (by omega))] at HN
            have hkt := sTagHash_lit 3 [H, X] 2 #[.string H, .string X] wr _ rfl rfl (by omega) rfl
            generalize hashB 3 [H, X] 16 = G at *
            clear hp hn0
            go_wp2_with fail
            refine hkt.out.mono ?_
            rintro e w8 ⟨rfl, hb8⟩
            have b8 : Below (w.heap.size + 1) W0 w8 := hbr.trans (hb8.mono hws)
            clear hb8 hkt
            go_wp2
            go_roundw
            case rel => exact HN.out _ b8
            case measure => simp [intOf]; omega
          · have hqi : ((q : Int) % 2 == 0) = false := by simp; omega
            have hn0 : nodeT (q % 2) H X = tagB 3 [X, H] := by unfold nodeT; rw [if_neg hp]
            rw [hn0, cut16_tag 3 _ (tagOk_two 3 X H (by omega) (by omega) (by omega))] at HN
            have hkt := sTagHash_lit 3 [X, H] 2 #[.string X, .string H] wr _ rfl rfl (by omega) rfl
            generalize hashB 3 [X, H] 16 = G at *
            clear hp hn0
            go_wp2_with fail
            refine hkt.out.mono ?_
            rintro e w8 ⟨rfl, hb8⟩
            have b8 : Below (w.heap.size + 1) W0 w8 := hbr.trans (hb8.mono hws)
            clear hb8 hkt
            go_wp2
            go_roundw
            case rel => exact HN.out _ b8
            case measure => simp [intOf]; omega
        · have hme : m = 4 := by omega
          subst hme
          rw [HZ.out]
          have hfin := (HLA.out _ hbr).2
          go_wp2
          go_ret
          exact ⟨rfl, hfin⟩

theorem sSigOk_no (r t : ByteArray) (a : Int) (vo vs vd : Value) (g1 o1 g2 o2 g3 o3 : Nat) (o s d : List ByteArray) (w : World) (ho : SS w vo g1 o1 o) (hs : SS w vs g2 o2 s) (hd : SS w vd g3 o3 d) (hz : t.size ≤ 1100000) (h : (formB a o s d && decide (t.size ≤ 200)) = false) :
    Calls Tryd.prog 35 #[.string r, .string t, .agg #[.int .i64 a, vo, vs, vd]] w fun e w' => e = .returned (.bool false) ∧ Below w.heap.size w w' := by
  have hB : Below w.heap.size w (w.alloc (.cells #[.int .i64 a, vo, vs, vd] 26)) := (Below.refl _ _).alloc (Nat.le_refl _) _
  have hc := l05Form_any a vo vs vd g1 o1 g2 o2 g3 o3 o s d _ (ho.below hB ho.lt) (hs.below hB hs.lt) (hd.below hB hd.lt)
  have HB : Hid (Below w.heap.size w (w.alloc (.cells #[.int .i64 a, vo, vs, vd] 26))) := hB
  have HC : Hid (Calls Tryd.prog 91 #[.agg #[.int .i64 a, vo, vs, vd]] (w.alloc (.cells #[.int .i64 a, vo, vs, vd] 26)) fun e w' => e = .returned (.bool (formB a o s d)) ∧ Below (w.alloc (.cells #[.int .i64 a, vo, vs, vd] 26)).heap.size (w.alloc (.cells #[.int .i64 a, vo, vs, vd] 26)) w') := hc
  obtain ⟨ao, co, rfl, _, x1⟩ := ho
  obtain ⟨as2, cs2, rfl, _, x2⟩ := hs
  obtain ⟨ad, cd, rfl, _, x3⟩ := hd
  generalize formB a o s d = F at *
  clear x1 x2 x3 hc hB
  cases F with
  | false =>
    clear h
    go_enter Tryd.func35, Tryd.ntmps35
    go_wp2_with fail
    refine HC.out.mono ?_
    rintro e w1 ⟨rfl, hb1⟩
    go_wp2
    go_ret
    exact ⟨rfl, HB.out.trans (hb1.mono HB.out.size)⟩
  | true =>
    have ht : 200 < t.size := by simpa using h
    clear h
    go_enter Tryd.func35, Tryd.ntmps35
    go_wp2_with fail
    refine HC.out.mono ?_
    rintro e w1 ⟨rfl, hb1⟩
    go_wp2
    go_ret
    exact ⟨rfl, HB.out.trans (hb1.mono HB.out.size)⟩

theorem sSigOk_any (r t : ByteArray) (a : Int) (vo vs vd : Value) (g1 o1 g2 o2 g3 o3 : Nat) (o s d : List ByteArray) (w : World) (ho : SS w vo g1 o1 o) (hs : SS w vs g2 o2 s) (hd : SS w vd g3 o3 d) (hz : t.size ≤ 1100000) :
    Calls Tryd.prog 35 #[.string r, .string t, .agg #[.int .i64 a, vo, vs, vd]] w fun e w' => e = .returned (.bool (okS r t a o s d)) ∧ Below w.heap.size w w' := by
  unfold okS
  cases h : (formB a o s d && decide (t.size ≤ 200)) with
  | false => exact sSigOk_no r t a vo vs vd g1 o1 g2 o2 g3 o3 o s d w ho hs hd hz h
  | true =>
    rw [Bool.and_eq_true, decide_eq_true_eq] at h
    obtain ⟨hA, _⟩ := formB_parts h.1
    obtain ⟨a, rfl⟩ := Int.eq_ofNat_of_zero_le hA.1
    rw [Bool.true_and]
    exact sSigOk_yes r t a vo vs vd g1 o1 g2 o2 g3 o3 o s d w ho hs hd h.1 h.2

end Go.Proofs.YtmfoliocibjdnaaDoor
