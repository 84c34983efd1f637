/-
  The digest by numbers, so that it can be reckoned: what is known of it.
-/
import Derived.Test.YtklmjdaikmokgaaDoorCut
namespace Go.Proofs.YtklmjdaikmokgaaDoor.H
set_option linter.unusedVariables false

def nr (x n : Nat) : Nat := x / 2 ^ n ||| x * 2 ^ (32 - n) % 4294967296
def na (x y : Nat) : Nat := (x + y) % 4294967296
def ns0 (x : Nat) : Nat := (nr x 7 ^^^ nr x 18) ^^^ x / 2 ^ 3
def ns1 (x : Nat) : Nat := (nr x 17 ^^^ nr x 19) ^^^ x / 2 ^ 10
def nb1 (x : Nat) : Nat := (nr x 6 ^^^ nr x 11) ^^^ nr x 25
def nb0 (x : Nat) : Nat := (nr x 2 ^^^ nr x 13) ^^^ nr x 22
def nch (e f g : Nat) : Nat := (e &&& f) ^^^ ((e ^^^ 4294967295) &&& g)
def nmaj (a b c : Nat) : Nat := ((a &&& b) ^^^ (a &&& c)) ^^^ (b &&& c)

theorem rotr_nat (x : UInt32) (n : Nat) (h : n ≤ 32) : (rotr x n).toNat = nr x.toNat n := by
  have h1 : x.toNat / 2 ^ n < 4294967296 := Nat.lt_of_le_of_lt (Nat.div_le_self _ _) (u32_lt x)
  have h2 : x.toNat * 2 ^ (32 - n) % 4294967296 < 4294967296 := Nat.mod_lt _ (by omega)
  unfold rotr nr
  exact toNat_of _ (Nat.or_lt_two_pow (n := 32) h1 h2)
theorem shr_nat (x : UInt32) (n : Nat) : (shr x n).toNat = x.toNat / 2 ^ n := toNat_of _ (Nat.lt_of_le_of_lt (Nat.div_le_self _ _) (u32_lt x))
theorem add_nat (x y : UInt32) : (x + y).toNat = na x.toNat y.toNat := UInt32.toNat_add x y
theorem sig0_nat (x : UInt32) : (sig0 x).toNat = ns0 x.toNat := by simp only [sig0, ns0, UInt32.toNat_xor, rotr_nat _ _ (show 7 ≤ 32 by omega), rotr_nat _ _ (show 18 ≤ 32 by omega), shr_nat]
theorem sig1_nat (x : UInt32) : (sig1 x).toNat = ns1 x.toNat := by simp only [sig1, ns1, UInt32.toNat_xor, rotr_nat _ _ (show 17 ≤ 32 by omega), rotr_nat _ _ (show 19 ≤ 32 by omega), shr_nat]
theorem big1_nat (x : UInt32) : (big1 x).toNat = nb1 x.toNat := by simp only [big1, nb1, UInt32.toNat_xor, rotr_nat _ _ (show 6 ≤ 32 by omega), rotr_nat _ _ (show 11 ≤ 32 by omega), rotr_nat _ _ (show 25 ≤ 32 by omega)]
theorem big0_nat (x : UInt32) : (big0 x).toNat = nb0 x.toNat := by simp only [big0, nb0, UInt32.toNat_xor, rotr_nat _ _ (show 2 ≤ 32 by omega), rotr_nat _ _ (show 13 ≤ 32 by omega), rotr_nat _ _ (show 22 ≤ 32 by omega)]
theorem ch_nat (e f g : UInt32) : (ch e f g).toNat = nch e.toNat f.toNat g.toNat := by
  simp only [ch, nch, UInt32.toNat_xor, UInt32.toNat_and]
  rfl
theorem maj_nat (a b c : UInt32) : (maj a b c).toNat = nmaj a.toNat b.toNat c.toNat := by simp only [maj, nmaj, UInt32.toNat_xor, UInt32.toNat_and]

/-- the words of a block, the newest first -/
def wl (f : Nat → Nat) : Nat → List Nat
  | 0 => [f 15, f 14, f 13, f 12, f 11, f 10, f 9, f 8, f 7, f 6, f 5, f 4, f 3, f 2, f 1, f 0]
  | k + 1 => na (na (na ((wl f k).getD 15 0) (ns0 ((wl f k).getD 14 0))) ((wl f k).getD 6 0)) (ns1 ((wl f k).getD 1 0)) :: wl f k
theorem wl_is (f : Nat → UInt32) (k j : Nat) (h : j < 16 + k) : (wl (fun i => (f i).toNat) k).getD j 0 = (wMore f k (15 + k - j)).toNat := by
  induction k generalizing j with
  | zero =>
    have h16 : j = 0 ∨ j = 1 ∨ j = 2 ∨ j = 3 ∨ j = 4 ∨ j = 5 ∨ j = 6 ∨ j = 7 ∨ j = 8 ∨ j = 9 ∨ j = 10 ∨ j = 11 ∨ j = 12 ∨ j = 13 ∨ j = 14 ∨ j = 15 := by omega
    rcases h16 with rfl | rfl | rfl | rfl | rfl | rfl | rfl | rfl | rfl | rfl | rfl | rfl | rfl | rfl | rfl | rfl <;> rfl
  | succ k ih =>
    cases j with
    | zero =>
      have i15 := ih 15 (by omega)
      have i14 := ih 14 (by omega)
      have i6 := ih 6 (by omega)
      have i1 := ih 1 (by omega)
      have e : 15 + (k + 1) - 0 = 16 + k := by omega
      have e15 : 15 + k - 15 = 16 + k - 16 := by omega
      have e14 : 15 + k - 14 = 16 + k - 15 := by omega
      have e6 : 15 + k - 6 = 16 + k - 7 := by omega
      have e1 : 15 + k - 1 = 16 + k - 2 := by omega
      rw [e15] at i15
      rw [e14] at i14
      rw [e6] at i6
      rw [e1] at i1
      show na (na (na _ _) _) _ = _
      rw [e, i15, i14, i6, i1]
      show _ = (upd (wMore f k) (16 + k) (wStep (wMore f k) (16 + k)) (16 + k)).toNat
      simp only [upd, if_true, wStep, add_nat, sig0_nat, sig1_nat]
    | succ j =>
      have i := ih j (by omega)
      have e : 15 + (k + 1) - (j + 1) = 15 + k - j := by omega
      rw [e]
      show (wl (fun i => (f i).toNat) k).getD j 0 = (upd (wMore f k) (16 + k) (wStep (wMore f k) (16 + k)) (15 + k - j)).toNat
      rw [i]
      have hne : ¬ 15 + k - j = 16 + k := by omega
      simp only [upd, if_neg hne]

/-- one round on eight numbers -/
def rl1 (l : List Nat) (k w : Nat) : List Nat :=
  [na (na (na (na (na (l.getD 7 0) (nb1 (l.getD 4 0))) (nch (l.getD 4 0) (l.getD 5 0) (l.getD 6 0))) k) w) (na (nb0 (l.getD 0 0)) (nmaj (l.getD 0 0) (l.getD 1 0) (l.getD 2 0))), l.getD 0 0, l.getD 1 0, l.getD 2 0,
   na (l.getD 3 0) (na (na (na (na (l.getD 7 0) (nb1 (l.getD 4 0))) (nch (l.getD 4 0) (l.getD 5 0) (l.getD 6 0))) k) w), l.getD 4 0, l.getD 5 0, l.getD 6 0]
def rl (l : List Nat) (k w : Nat → Nat) : Nat → List Nat
  | 0 => l
  | n + 1 => rl1 (rl l k w n) (k n) (w n)
theorem rl_is (s k w : Nat → UInt32) (l : List Nat) (hl : ∀ j, j < 8 → l.getD j 0 = (s j).toNat) (n : Nat) : ∀ j, j < 8 → (rl l (fun i => (k i).toNat) (fun i => (w i).toNat) n).getD j 0 = (rounds s k w n j).toNat := by
  induction n with
  | zero => exact hl
  | succ n ih =>
    intro j hj
    have i0 := ih 0 (by omega)
    have i1 := ih 1 (by omega)
    have i2 := ih 2 (by omega)
    have i3 := ih 3 (by omega)
    have i4 := ih 4 (by omega)
    have i5 := ih 5 (by omega)
    have i6 := ih 6 (by omega)
    have i7 := ih 7 (by omega)
    show (rl1 (rl l (fun i => (k i).toNat) (fun i => (w i).toNat) n) (k n).toNat (w n).toNat).getD j 0 = (round (rounds s k w n) (k n) (w n) j).toNat
    unfold rl1
    rw [i0, i1, i2, i3, i4, i5, i6, i7]
    have h8 : j = 0 ∨ j = 1 ∨ j = 2 ∨ j = 3 ∨ j = 4 ∨ j = 5 ∨ j = 6 ∨ j = 7 := by omega
    rcases h8 with rfl | rfl | rfl | rfl | rfl | rfl | rfl | rfl
    · show na _ _ = (one (rounds s k w n) (k n) (w n) + two (rounds s k w n)).toNat
      simp only [add_nat, one, two, big1_nat, big0_nat, ch_nat, maj_nat]
    · rfl
    · rfl
    · rfl
    · show na _ _ = (rounds s k w n 3 + one (rounds s k w n) (k n) (w n)).toNat
      simp only [add_nat, one, big1_nat, ch_nat]
    · rfl
    · rfl
    · rfl

theorem rl_congr (l : List Nat) (k w k' w' : Nat → Nat) (n : Nat) (h : ∀ i, i < n → k i = k' i ∧ w i = w' i) : rl l k w n = rl l k' w' n := by
  induction n with
  | zero => rfl
  | succ n ih =>
    show rl1 (rl l k w n) (k n) (w n) = rl1 (rl l k' w' n) (k' n) (w' n)
    rw [ih (fun i hi => h i (by omega)), (h n (by omega)).1, (h n (by omega)).2]
theorem wl_congr (f f' : Nat → Nat) (k : Nat) (h : ∀ i, i < 16 → f i = f' i) : wl f k = wl f' k := by
  induction k with
  | zero =>
    unfold wl
    rw [h 0 (by omega), h 1 (by omega), h 2 (by omega), h 3 (by omega), h 4 (by omega), h 5 (by omega), h 6 (by omega), h 7 (by omega), h 8 (by omega), h 9 (by omega), h 10 (by omega), h 11 (by omega), h 12 (by omega), h 13 (by omega), h 14 (by omega), h 15 (by omega)]
  | succ k ih =>
    unfold wl
    rw [ih]

def wordN (b : Nat → Nat) (i : Nat) : Nat := b (4 * i) * 16777216 + b (4 * i + 1) * 65536 + b (4 * i + 2) * 256 + b (4 * i + 3)
theorem wHead_is (b : Nat → Nat) (n i : Nat) (hi : i < n) : wHead b n i = word b i := by
  induction n with
  | zero => omega
  | succ n ih =>
    show upd (wHead b n) n (word b n) i = _
    unfold upd
    by_cases h : i = n
    · rw [if_pos h, h]
    · rw [if_neg h]
      exact ih (by omega)
theorem word_nat (b : Nat → Nat) (hb : ∀ j, b j < 256) (i : Nat) : (word b i).toNat = wordN b i := by
  have h0 := hb (4 * i)
  have h1 := hb (4 * i + 1)
  have h2 := hb (4 * i + 2)
  have h3 := hb (4 * i + 3)
  exact toNat_of _ (by omega)

/-- a block on eight numbers, its bytes and the keys by number -/
def blL (l : List Nat) (b : Nat → Nat) (ks : List Nat) : List Nat :=
  let r := rl l (fun i => ks.getD i 0) (fun i => (wl (wordN b) 48).getD (63 - i) 0) 64
  [na (l.getD 0 0) (r.getD 0 0), na (l.getD 1 0) (r.getD 1 0), na (l.getD 2 0) (r.getD 2 0), na (l.getD 3 0) (r.getD 3 0), na (l.getD 4 0) (r.getD 4 0), na (l.getD 5 0) (r.getD 5 0), na (l.getD 6 0) (r.getD 6 0), na (l.getD 7 0) (r.getD 7 0)]

theorem wAll_is (b b' : Nat → Nat) (hb : ∀ j, b j < 256) (hbb : ∀ j, j < 64 → b j = b' j) (i : Nat) (hi : i < 64) : (wAll b i).toNat = (wl (wordN b') 48).getD (63 - i) 0 := by
  have hw : ∀ i, i < 16 → (fun i => (wHead b 16 i).toNat) i = wordN b' i := fun i hi => by
    show (wHead b 16 i).toNat = _
    rw [wHead_is b 16 i hi, word_nat b hb]
    unfold wordN
    rw [hbb _ (by omega), hbb _ (by omega), hbb _ (by omega), hbb _ (by omega)]
  have h1 := wl_is (wHead b 16) 48 (63 - i) (by omega)
  rw [wl_congr _ _ 48 hw] at h1
  have e : 15 + 48 - (63 - i) = i := by omega
  rw [e] at h1
  unfold wAll
  exact h1.symm

theorem sum8 (l r : List Nat) (j : Nat) (hj : j < 8) : [na (l.getD 0 0) (r.getD 0 0), na (l.getD 1 0) (r.getD 1 0), na (l.getD 2 0) (r.getD 2 0), na (l.getD 3 0) (r.getD 3 0), na (l.getD 4 0) (r.getD 4 0), na (l.getD 5 0) (r.getD 5 0), na (l.getD 6 0) (r.getD 6 0), na (l.getD 7 0) (r.getD 7 0)].getD j 0 = na (l.getD j 0) (r.getD j 0) := by
  have h8 : j = 0 ∨ j = 1 ∨ j = 2 ∨ j = 3 ∨ j = 4 ∨ j = 5 ∨ j = 6 ∨ j = 7 := by omega
  rcases h8 with rfl | rfl | rfl | rfl | rfl | rfl | rfl | rfl <;> rfl

theorem blL_any (s k W : Nat → UInt32) (N : Nat) (W' : Nat → Nat) (ks l : List Nat) (hW : ∀ i, i < N → (W i).toNat = W' i) (hk : ∀ i, i < N → ks.getD i 0 = (k i).toNat) (hl : ∀ j, j < 8 → l.getD j 0 = (s j).toNat) (j : Nat) (hj : j < 8) :
    na (l.getD j 0) ((rl l (fun i => ks.getD i 0) W' N).getD j 0) = (s j + rounds s k W N j).toNat := by
  have e1 : rl l (fun i => (k i).toNat) (fun i => (W i).toNat) N = rl l (fun i => ks.getD i 0) W' N := rl_congr _ _ _ _ _ _ fun i hi => ⟨(hk i hi).symm, hW i hi⟩
  have h := rl_is s k W l hl N j hj
  rw [e1] at h
  rw [add_nat, h, hl j hj]

theorem blL_is (s k : Nat → UInt32) (b b' : Nat → Nat) (ks l : List Nat) (hb : ∀ j, b j < 256) (hbb : ∀ j, j < 64 → b j = b' j) (hk : ∀ i, i < 64 → ks.getD i 0 = (k i).toNat) (hl : ∀ j, j < 8 → l.getD j 0 = (s j).toNat) :
    ∀ j, j < 8 → (blL l b' ks).getD j 0 = (block s k b j).toNat := by
  intro j hj
  have h := blL_any s k (wAll b) 64 (fun i => (wl (wordN b') 48).getD (63 - i) 0) ks l (fun i hi => wAll_is b b' hb hbb i hi) hk hl j hj
  unfold blL block
  exact (sum8 l _ j hj).trans h
end Go.Proofs.YtklmjdaikmokgaaDoor.H
namespace Go.Proofs.YtklmjdaikmokgaaDoor
set_option linter.unusedVariables false

def keyN : List Nat := [1116352408, 1899447441, 3049323471, 3921009573, 961987163, 1508970993, 2453635748, 2870763221, 3624381080, 310598401, 607225278, 1426881987, 1925078388, 2162078206, 2614888103, 3248222580, 3835390401, 4022224774, 264347078, 604807628, 770255983, 1249150122, 1555081692, 1996064986, 2554220882, 2821834349, 2952996808, 3210313671, 3336571891, 3584528711, 113926993, 338241895, 666307205, 773529912, 1294757372, 1396182291, 1695183700, 1986661051, 2177026350, 2456956037, 2730485921, 2820302411, 3259730800, 3345764771, 3516065817, 3600352804, 4094571909, 275423344, 430227734, 506948616, 659060556, 883997877, 958139571, 1322822218, 1537002063, 1747873779, 1955562222, 2024104815, 2227730452, 2361852424, 2428436474, 2756734187, 3204031479, 3329325298]
def firstN : List Nat := [1779033703, 3144134277, 1013904242, 2773480762, 1359893119, 2600822924, 528734635, 1541459225]
theorem keyN_is : ∀ i, i < 64 → keyN.getD i 0 = (keyF i).toNat := by
  have h : ∀ i : Fin 64, keyN.getD i.val 0 = (keyF i.val).toNat := by decide +kernel
  exact fun i hi => h ⟨i, hi⟩
theorem firstN_is : ∀ i, i < 8 → firstN.getD i 0 = (firstF i).toNat := by
  have h : ∀ i : Fin 8, firstN.getD i.val 0 = (firstF i.val).toNat := by decide +kernel
  exact fun i hi => h ⟨i, hi⟩

/-- the state behind so many blocks of the bytes L -/
def stL (L : List UInt8) : Nat → List Nat
  | 0 => firstN
  | k + 1 => H.blL (stL L k) (fun j => (L.getD (64 * k + j) 0).toNat) keyN
theorem stL_is (p : ByteArray) (L : List UInt8) (hL : p.data.toList = L) (n : Nat) (hn : 64 * n ≤ p.size) : ∀ j, j < 8 → (stL L n).getD j 0 = (stN p n j).toNat := by
  induction n with
  | zero => exact firstN_is
  | succ n ih =>
    refine H.blL_is (stN p n) keyF (bAt (p.extract (64 * n) (64 * n + 64))) _ keyN _ (fun j => bAt_lt _ j) (fun j hj => ?_) keyN_is (ih (by omega))
    have hz : (p.extract (64 * n) (64 * n + 64)).size = 64 := by rw [ByteArray.size_extract]; omega
    rw [bAt_eq _ j (by omega), ByteArray.getElem_extract, ← bAt_eq p (64 * n + j) (by omega), ← hL]
    rfl
def be4N (n : Nat) : List UInt8 := [UInt8.ofNat (n / 16777216), UInt8.ofNat (n / 65536), UInt8.ofNat (n / 256), UInt8.ofNat n]
def digN (l : List Nat) : List UInt8 := be4N (l.getD 0 0) ++ (be4N (l.getD 1 0) ++ (be4N (l.getD 2 0) ++ (be4N (l.getD 3 0) ++ (be4N (l.getD 4 0) ++ (be4N (l.getD 5 0) ++ (be4N (l.getD 6 0) ++ be4N (l.getD 7 0)))))))
theorem digN_is (s : Nat → UInt32) (l : List Nat) (h : ∀ j, j < 8 → l.getD j 0 = (s j).toNat) : digL s 8 = digN l := by
  unfold digN
  rw [h 0 (by omega), h 1 (by omega), h 2 (by omega), h 3 (by omega), h 4 (by omega), h 5 (by omega), h 6 (by omega), h 7 (by omega)]
  rfl
theorem dig_of (t : ByteArray) (n : Nat) (L : List UInt8) (hL : padL t.data.toList = L) (hn : nbl t = n) (l : List Nat) (hl : stL L n = l) : digB t = ⟨(digN l).toArray⟩ := by
  have hz := padB_size t
  rw [hn] at hz
  have hp : (padB t).data.toList = L := by rw [← hL]; simp [padB]
  have h := stL_is (padB t) L hp n (by omega)
  rw [hl] at h
  unfold digB
  rw [hn, digN_is _ l h]

end Go.Proofs.YtklmjdaikmokgaaDoor
