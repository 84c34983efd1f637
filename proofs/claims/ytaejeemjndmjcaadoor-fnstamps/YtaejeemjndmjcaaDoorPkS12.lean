/-
  Texts laid together: Sgx.
-/
import Derived.Test.YtaejeemjndmjcaaDoorPkS11
import Derived.Deep.AppendLies
/-
  What is digested of a signature, in plain words: its locks, its public text, the texts on the way to the root; two rows of texts that grow side by side.
-/
namespace Go.Proofs.YtaejeemjndmjcaaDoor
open Go.RowKit Go.BigFrame
set_option linter.unusedVariables false

/-- the bit of a byte at a level, the highest first -/
def bitN (b i : Nat) : Nat := b / 2 ^ (7 - i) % 2
theorem bitN_lt (b i : Nat) : bitN b i < 2 := Nat.mod_lt _ (by omega)
theorem bitI_nat (b i : Nat) (hb : b < 256) : bitI (b : Int) i = (bitN b i : Int) := by
  unfold bitI bitN
  have e1 : ((b : Int) / 2 ^ (7 - i)) = ((b / 2 ^ (7 - i) : Nat) : Int) := by simp
  rw [e1]
  have hlt : b / 2 ^ (7 - i) < 256 := Nat.lt_of_le_of_lt (Nat.div_le_self _ _) hb
  generalize b / 2 ^ (7 - i) = n at *
  have e : bits .and .i64 (n : Int) 1 = IntKind.i64.wrap ((BitVec.ofInt 64 (n : Int) &&& BitVec.ofInt 64 1).toNat : Int) := rfl
  have e2 : (BitVec.ofInt 64 (n : Int) &&& BitVec.ofInt 64 1).toNat = n % 2 := by
    rw [BitVec.toNat_and, BitVec.ofInt_natCast, BitVec.toNat_ofNat, Nat.mod_eq_of_lt (by omega)]
    have : (BitVec.ofInt 64 1).toNat = 1 := by decide
    rw [this, Nat.and_one_is_mod]
  rw [e, e2, IntWalk.i64_in _ (by omega)]

def gB (l : List ByteArray) (i : Nat) : ByteArray := l.getD i ByteArray.empty
theorem gB_eq (l : List ByteArray) (i : Nat) (h : i < l.length) : l[i] = gB l i := by
  unfold gB
  rw [List.getD_eq_getElem?_getD, List.getElem?_eq_getElem h]
  rfl
/-- two locks of a bit -/
def lk2 (b : Nat) (o s : List ByteArray) (i : Nat) : List ByteArray := if bitN b i = 0 then [lockB (gB o i), gB s i] else [gB s i, lockB (gB o i)]
/-- the locks of the first m bits -/
def lkN (b : Nat) (o s : List ByteArray) (m : Nat) : List ByteArray := (List.range m).flatMap (lk2 b o s)
theorem lk2_len (b : Nat) (o s : List ByteArray) (i : Nat) : (lk2 b o s i).length = 2 := by
  unfold lk2
  split <;> rfl
theorem lkN_step (b : Nat) (o s : List ByteArray) (m : Nat) : lkN b o s (m + 1) = lkN b o s m ++ lk2 b o s m := by
  unfold lkN
  rw [List.range_succ, List.flatMap_append]
  simp
theorem lkN_len (b : Nat) (o s : List ByteArray) (m : Nat) : (lkN b o s m).length = 2 * m := by
  induction m with
  | zero => rfl
  | succ m ih =>
    rw [lkN_step, List.length_append, ih, lk2_len]
    omega
/-- the text of one opened secret -/
def tx1 (o : List ByteArray) (i : Nat) : ByteArray := tagB 6 [gB o i]
def txN (o : List ByteArray) (m : Nat) : List ByteArray := (List.range m).map (tx1 o)
theorem txN_step (o : List ByteArray) (m : Nat) : txN o (m + 1) = txN o m ++ [tx1 o m] := by
  unfold txN
  rw [List.range_succ, List.map_append]
  rfl
theorem txN_len (o : List ByteArray) (m : Nat) : (txN o m).length = m := by simp [txN]
/-- the text of the public key -/
def pubT (b : Nat) (o s : List ByteArray) : ByteArray := tagB 6 (lkN b o s 8)
def cut16 (t : ByteArray) : ByteArray := cutH t 16
/-- the text of a node: what came up stands left or right -/
def nodeT (p : Nat) (h x : ByteArray) : ByteArray := if p = 0 then tagB 3 [h, x] else tagB 3 [x, h]
/-- the texts on the way up -/
def fT (a : Nat) (d : List ByteArray) (t : ByteArray) : Nat → ByteArray
  | 0 => t
  | i + 1 => nodeT (a / 2 ^ i % 2) (cut16 (fT a d t i)) (gB d i)
def fN (a : Nat) (d : List ByteArray) (t : ByteArray) (m : Nat) : List ByteArray := (List.range m).map (fT a d t)
theorem fN_step (a : Nat) (d : List ByteArray) (t : ByteArray) (m : Nat) : fN a d t (m + 1) = fN a d t m ++ [fT a d t m] := by
  unfold fN
  rw [List.range_succ, List.map_append]
  rfl
theorem fN_len (a : Nat) (d : List ByteArray) (t : ByteArray) (m : Nat) : (fN a d t m).length = m := by simp [fN]
/-- what SigTexts is where the form is right -/
def sgT (b a : Nat) (o s d : List ByteArray) : List ByteArray := txN o 8 ++ fN a d (pubT b o s) 5
theorem sgT_len (b a : Nat) (o s d : List ByteArray) : (sgT b a o s d).length = 13 := by simp [sgT, txN_len, fN_len]
/-- what SigTexts is -/
def sigT (t : ByteArray) (a : Int) (o s d : List ByteArray) : List ByteArray := if formB a o s d && decide (t.size ≤ 200) then sgT (bitsB t) a.toNat o s d else []
theorem sigT_len (t : ByteArray) (a : Int) (o s d : List ByteArray) : (sigT t a o s d).length ≤ 13 := by
  unfold sigT
  split
  · rw [sgT_len]
    omega
  · simp

theorem cut16_tag (k : Int) (l : List ByteArray) (h : tagOk k l = true) : cut16 (tagB k l) = hashB k l 16 := by
  unfold cut16 hashB
  rw [if_pos h]
theorem lock_cut (o : List ByteArray) (i : Nat) (h : (gB o i).size ≤ 200) : cut16 (tx1 o i) = lockB (gB o i) := by
  unfold tx1 lockB
  refine cut16_tag 6 _ ?_
  rw [tagOk_one 6 _ (by omega), decide_eq_true h]
theorem cut16_size (k : Int) (l : List ByteArray) : (cut16 (tagB k l)).size ≤ 16 := by
  unfold cut16 cutH cutB
  rw [if_pos (by omega)]
  rw [ByteArray.size_extract]
  show min 16 _ - 0 ≤ 16
  omega
theorem fT_size (a : Nat) (d : List ByteArray) (t : ByteArray) (ht : t.size ≤ 12601) (i : Nat) : (fT a d t i).size ≤ 12601 := by
  cases i with
  | zero => exact ht
  | succ i =>
    show (nodeT _ _ _).size ≤ _
    unfold nodeT
    split
    · exact tagB_size _ _
    · exact tagB_size _ _

/-- one row of texts stays what it is behind what was appended to another -/
theorem OS.kept {B : Nat} {w0 w w' : World} {v : Value} {row : Option Nat} {l : List ByteArray} (h : OS B w0 w v l) (hg : w.grownBy w' row) (hB : ∀ k, row = some k → B ≤ k) (hne : v.ownBlock = none ∨ v.ownBlock ≠ row) : OS B w0 w' v l :=
  ⟨World.ownsRow.kept h.1 hg hne, h.2.1.grown hg h.2.2 hB, Nat.le_trans h.2.2 hg.size⟩

/-- two rows of texts, each with memory of its own -/
def TwR (B : Nat) (w0 w : World) (u v : Value) (l r : List ByteArray) : Prop := OS B w0 w u l ∧ OS B w0 w v r ∧ (∀ g, u.ownBlock = some g → v.ownBlock ≠ some g)
theorem TwR.swap {B : Nat} {w0 w : World} {u v : Value} {l r : List ByteArray} (h : TwR B w0 w u v l r) : TwR B w0 w v u r l := ⟨h.2.1, h.1, fun g hg hu => h.2.2 g hu hg⟩
theorem TwR.later {B : Nat} {w0 w w' : World} {u v : Value} {l r : List ByteArray} (h : TwR B w0 w u v l r) (hb : Below w.heap.size w w') : TwR B w0 w' u v l r := ⟨h.1.later hb, h.2.1.later hb, h.2.2⟩
theorem TwR.alloc {B : Nat} {w0 w : World} {u v : Value} {l r : List ByteArray} (h : TwR B w0 w u v l r) (x : Obj) : TwR B w0 (w.alloc x) u v l r := ⟨h.1.alloc x, h.2.1.alloc x, h.2.2⟩
theorem TwR.drew {B : Nat} {w0 w : World} {u v : Value} {l r : List ByteArray} (h : TwR B w0 w u v l r) : TwR B w0 w.drew u v l r := ⟨h.1.drew, h.2.1.drew, h.2.2⟩

theorem lit_at (w : World) (news : List ByteArray) (cs : Array Value) (hc : cs = (svs news).toArray) : ∀ j u, (svs news)[j]? = some u → (w.alloc (.cells cs 9)).cell? ((⟨w.heap.size, 0, none⟩ : Addr).add j) = some u := by
  intro j u hj
  subst hc
  have e : (⟨w.heap.size, 0, none⟩ : Addr).add j = ⟨w.heap.size, j, none⟩ := by unfold Addr.add; split <;> simp_all
  rw [e, World.cell?_alloc_at _ _ _ _ rfl]
  simpa using hj

/-- what an append to the first row leaves -/
theorem TwR.grow {B : Nat} {w0 w w' : World} {u v : Value} {l r news : List ByteArray} {g cap n : Nat} (h : TwR B w0 w u v l r) (hn : l.length + news.length = n) (h1 : w'.ownsRow B 9 1 (.slice (some ⟨g, 0, none⟩) n cap) n (svs l ++ svs news)) (h2 : w.grownBy w' u.ownBlock) (h3 : u.ownBlock = some g ∨ g = w.heap.size) :
    TwR B w0 w' (.slice (some ⟨g, 0, none⟩) n cap) v (l ++ news) r := by
  subst hn
  have hB : ∀ k, u.ownBlock = some k → B ≤ k := fun k hk => (h.1.1.lt k hk).1
  refine ⟨⟨by rw [List.length_append, svs_append]; exact h1, h.1.2.1.grown h2 h.1.2.2 hB, Nat.le_trans h.1.2.2 h2.size⟩, h.2.1.kept h2 hB ?_, ?_⟩
  · cases hv : v.ownBlock with
    | none => exact .inl rfl
    | some k => exact .inr (fun e => h.2.2 k e.symm hv)
  · intro k hk hv
    simp [Value.ownBlock] at hk
    subst hk
    rcases h3 with h3 | h3
    · exact h.2.2 g h3 hv
    · have := (h.2.1.1.lt g hv).2
      omega

/-- texts that are written out, appended to the first of two rows -/
theorem wp_tw {w : World} {ops : Array Oper} {rest : List Oper} {o : Oper} {a : Act} {Q : Exit → Act → World → Prop} (hgd : o.guard = none) (s x : Operand)
    (ho : o.op = .call { callee := .builtin .append, args := #[s, x], argTypes := #[26, 26] })
    (B : Nat) (w0 : World) (u v : Value) (l r news : List ByteArray) (hs : a.eval s = u) (h : TwR B w0 w u v l r) (p m c : Nat) (hx : a.eval x = .slice (some ⟨p, 0, none⟩) m c) (hm : news.length = m) (h0 : 0 < m)
    (hnews : ∀ j u, (svs news)[j]? = some u → w.cell? ((⟨p, 0, none⟩ : Addr).add j) = some u) (hlen : l.length + m ≤ 1000000)
    (hk : ∀ v' w', TwR B w0 w' v' v (l ++ news) r → wpList Tryd.prog ops Q rest (a.put o.dst v') w') : wpList Tryd.prog ops Q (o :: rest) a w := by
  obtain ⟨i0, hi, hz0, hz1, hz2⟩ := info_parts Tryd.info9
  refine wpList_append_lies w hgd s x 26 ho B 9 i0 (.string ByteArray.empty) 1 16 Tryd.underlying26 hi hz0 hz1 hz2 rfl (by decide) u l.length (svs l) hs h.1.1 ⟨p, 0, none⟩ m c (svs news) hx (by simp [svs, hm]) hnews
    (fun u hu => by simp [svs] at hu; obtain ⟨b, _, rfl⟩ := hu; rfl) h0 (by unfold maxLen; omega) (by omega) h.1.2.2 w.heap.size rfl ?_
  intro g cap w' h1 h2 h3 _
  exact hk _ _ (h.grow (by omega) h1 h2 h3)
theorem step_tw {w : World} {ops : Array Oper} {o : Oper} {a : Act} {K : Act → World → Prop} {Q : Exit → Act → World → Prop} {E : Prop} (hgd : o.guard = none) (s x : Operand)
    (ho : o.op = .call { callee := .builtin .append, args := #[s, x], argTypes := #[26, 26] })
    (B : Nat) (w0 : World) (u v : Value) (l r news : List ByteArray) (hs : a.eval s = u) (h : TwR B w0 w u v l r) (p m c : Nat) (hx : a.eval x = .slice (some ⟨p, 0, none⟩) m c) (hm : news.length = m) (h0 : 0 < m)
    (hnews : ∀ j u, (svs news)[j]? = some u → w.cell? ((⟨p, 0, none⟩ : Addr).add j) = some u) (hlen : l.length + m ≤ 1000000)
    (hk : ∀ v' w', TwR B w0 w' v' v (l ++ news) r → K (a.put o.dst v') w') : if Region.wanted o (yielded ops a.tmps) = true then Oper.wp Tryd.prog o a w K Q else E := by
  obtain ⟨i0, hi, hz0, hz1, hz2⟩ := info_parts Tryd.info9
  refine step_append_lies w hgd s x 26 ho B 9 i0 (.string ByteArray.empty) 1 16 Tryd.underlying26 hi hz0 hz1 hz2 rfl (by decide) u l.length (svs l) hs h.1.1 ⟨p, 0, none⟩ m c (svs news) hx (by simp [svs, hm]) hnews
    (fun u hu => by simp [svs] at hu; obtain ⟨b, _, rfl⟩ := hu; rfl) h0 (by unfold maxLen; omega) (by omega) h.1.2.2 w.heap.size rfl ?_
  intro g cap w' h1 h2 h3 _
  exact hk _ _ (h.grow (by omega) h1 h2 h3)

/-- what the texts of a key are -/
theorem keyText_any (k : Int) (v : Value) (g o : Nat) (l : List ByteArray) (w : World) (hv : SS w v g o l) :
    Calls Tryd.prog 107 #[.int .i64 k, v] w fun e w' => e = .returned (.string (tagB k l)) ∧ Below w.heap.size w w' := by
  have hc := tagged_any k v g o l w hv
  obtain ⟨a, cap, rfl, _⟩ := hv
  generalize tagB k l = T at *
  generalize tagOk k l = R at *
  go_enter Tryd.func107, Tryd.ntmps107
  go_wp2_with fail
  refine hc.mono ?_
  rintro e w1 ⟨rfl, hb1⟩
  go_wp2
  go_ret
  exact ⟨rfl, hb1⟩
theorem keyText_lit (k : Int) (l : List ByteArray) (n : Nat) (cs : Array Value) (w : World) (g : Nat) (hg : w.heap.size = g) (hn : l.length = n) (hl : n ≤ 60) (hc : cs = (svs l).toArray) :
    Hid (Calls Tryd.prog 107 #[.int .i64 k, .slice (some ⟨g, 0, none⟩) n n] (w.alloc (.cells cs 9)) fun e w' => e = .returned (.string (tagB k l)) ∧ Below w.heap.size w w') := by
  subst hg
  exact (keyText_any k _ w.heap.size 0 l (w.alloc (.cells cs 9)) (ss_lits w l cs n hn (by omega) hc)).mono fun e w' ⟨he, hb⟩ => ⟨he, ((Below.refl _ _).alloc (Nat.le_refl _) _).trans (hb.mono (by simp))⟩
theorem sTagText_lit (k : Int) (l : List ByteArray) (n : Nat) (cs : Array Value) (w : World) (g : Nat) (hg : w.heap.size = g) (hn : l.length = n) (hl : n ≤ 60) (hc : cs = (svs l).toArray) :
    Hid (Calls Tryd.prog 44 #[.int .i64 k, .slice (some ⟨g, 0, none⟩) n n] (w.alloc (.cells cs 9)) fun e w' => e = .returned (.tuple #[.string (tagB k l), .bool (tagOk k l)]) ∧ Below w.heap.size w w') := by
  subst hg
  exact (sTagText_any k _ w.heap.size 0 l (w.alloc (.cells cs 9)) (ss_lits w l cs n hn (by omega) hc)).mono fun e w' ⟨he, hb⟩ => ⟨he, ((Below.refl _ _).alloc (Nat.le_refl _) _).trans (hb.mono (by simp))⟩

theorem val_any (b i : Nat) (x : Int) (w : World) (hb : b < 256) (hx : x = (i : Int)) (hi : i ≤ 7) :
    Calls Tryd.prog 87 #[.int .u8 (b : Int), .int .i64 x] w fun e w' => e = .returned (.int .i64 (bitN b i : Int)) ∧ w' = w := by
  subst hx
  have hc := BitOf_yes (b : Int) i w hi
  rw [bitI_nat b i hb] at hc
  generalize bitN b i = B at *
  go_enter Tryd.func87, Tryd.ntmps87
  go_wp2_with fail
  refine hc.mono ?_
  rintro e w1 ⟨rfl, rfl⟩
  go_wp2
  go_ret
  exact ⟨rfl, rfl⟩
theorem sBitOf_at (b i : Nat) (x : Int) (w : World) (hb : b < 256) (hx : x = (i : Int)) (hi : i ≤ 7) :
    Calls Tryd.prog 45 #[.int .i64 (b : Int), .int .i64 x] w fun e w' => e = .returned (.int .i64 (bitN b i : Int)) ∧ w' = w := by
  subst hx
  have hc := sBitOf_yes (b : Int) i w hi
  rw [bitI_nat b i hb] at hc
  exact hc

end Go.Proofs.YtaejeemjndmjcaaDoor
