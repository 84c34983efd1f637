/-
  Texts laid together: So, Sr, Yj, Yk, Yo, Yv, Ylq.
-/
import Derived.Shelf.SlSortCmp.WholeK
import Derived.Test.YtmcejkfknbjjkaaGreatDoorProg
import Derived.Test.YtmcejkfknbjjkaaGreatDoorPkJ
import Derived.Test.YtmcejkfknbjjkaaGreatDoorPkP
import Derived.Test.YtmcejkfknbjjkaaGreatDoorPkE
import Derived.Test.YtmcejkfknbjjkaaGreatDoorPkK
import Derived.Deep.AppendLies
import Derived.Test.YtmcejkfknbjjkaaGreatDoorPkL
import Derived.Test.YtmcejkfknbjjkaaGreatDoorPkS
/-
  The library's own contract on slices.SortFunc, laid at this program: a table of numbers and one theorem.
-/
namespace Go.Proofs
open Go.Shelf
def Tryz.sortLe_ren : Go.Shelf.Ren := ⟨fun | 6 => 42 | 15 => 91 | 14 => 90 | 28 => 138 | 29 => 139 | 20 => 130 | 21 => 131 | 22 => 132 | 23 => 133 | 24 => 134 | 25 => 135 | 26 => 136 | 27 => 137 | 46 => 163 | 47 => 164 | 48 => 165 | 49 => 166 | 50 => 167 | 57 => 172 | n => n, fun | 22 => 24 | 24 => 34 | 25 => 72 | 3 => 3 | 39 => 30 | 0 => 0 | 53 => 144 | 55 => 163 | 4 => 4 | 46 => 155 | 45 => 154 | 50 => 159 | 5 => 5 | 9 => 9 | 66 => 194 | 70 => 198 | 76 => 203 | 77 => 204 | n => n, fun | n => n⟩
theorem Tryz.sortLe : Go.Proofs.SlLaysF0.n6 Tryz.prog Tryz.sortLe_ren := {
  mixed := by kernel_rfl
  f6 := ⟨Tryz.f42.name, by decide, Tryz.func42.trans (congrArg some (by kernel_rfl))⟩
  f14 := ⟨Tryz.f90.name, by decide, Tryz.func90.trans (congrArg some (by kernel_rfl))⟩
  f15 := Tryz.func91.trans (congrArg some (by kernel_rfl))
  f20 := ⟨Tryz.f130.name, by decide, Tryz.func130.trans (congrArg some (by kernel_rfl))⟩
  f21 := ⟨Tryz.f131.name, by decide, Tryz.func131.trans (congrArg some (by kernel_rfl))⟩
  f22 := ⟨Tryz.f132.name, by decide, Tryz.func132.trans (congrArg some (by kernel_rfl))⟩
  f23 := ⟨Tryz.f133.name, by decide, Tryz.func133.trans (congrArg some (by kernel_rfl))⟩
  f24 := ⟨Tryz.f134.name, by decide, Tryz.func134.trans (congrArg some (by kernel_rfl))⟩
  f25 := ⟨Tryz.f135.name, by decide, Tryz.func135.trans (congrArg some (by kernel_rfl))⟩
  f26 := ⟨Tryz.f136.name, by decide, Tryz.func136.trans (congrArg some (by kernel_rfl))⟩
  f27 := ⟨Tryz.f137.name, by decide, Tryz.func137.trans (congrArg some (by kernel_rfl))⟩
  f28 := Tryz.func138.trans (congrArg some (by kernel_rfl))
  f29 := Tryz.func139.trans (congrArg some (by kernel_rfl))
  f46 := ⟨Tryz.f163.name, by decide, Tryz.func163.trans (congrArg some (by kernel_rfl))⟩
  f47 := Tryz.func164.trans (congrArg some (by kernel_rfl))
  f48 := Tryz.func165.trans (congrArg some (by kernel_rfl))
  f49 := ⟨Tryz.f166.name, by decide, Tryz.func166.trans (congrArg some (by kernel_rfl))⟩
  f50 := ⟨Tryz.f167.name, by decide, Tryz.func167.trans (congrArg some (by kernel_rfl))⟩
  f57 := ⟨Tryz.f172.name, by decide, Tryz.func172.trans (congrArg some (by kernel_rfl))⟩
  t0 := Tryz.underlying0
  a0 := Tryz.isAgg0
  z0 := Tryz.sizeOf0
  v0 := Tryz.zeroValue0
  t3 := Tryz.underlying3
  a3 := Tryz.isAgg3
  z3 := Tryz.sizeOf3
  v3 := Tryz.zeroValue3
  t4 := Tryz.underlying4
  a4 := Tryz.isAgg4
  z4 := Tryz.sizeOf4
  v4 := Tryz.zeroValue4
  t5 := Tryz.underlying5
  a5 := Tryz.isAgg5
  z5 := Tryz.sizeOf5
  v5 := Tryz.zeroValue5
  t9 := Tryz.underlying9
  a9 := Tryz.isAgg9
  z9 := Tryz.sizeOf9
  v9 := Tryz.zeroValue9
  t22 := Tryz.underlying24
  a22 := Tryz.isAgg24
  z22 := Tryz.sizeOf24
  v22 := Tryz.zeroValue24
  t25 := Tryz.underlying72
  a25 := Tryz.isAgg72
  z25 := Tryz.sizeOf72
  v25 := Tryz.zeroValue72
  t39 := Tryz.underlying30
  a39 := Tryz.isAgg30
  z39 := Tryz.sizeOf30
  v39 := Tryz.zeroValue30
  t45 := Tryz.underlying154
  a45 := Tryz.isAgg154
  z45 := Tryz.sizeOf154
  v45 := Tryz.zeroValue154
  t46 := Tryz.underlying155
  a46 := Tryz.isAgg155
  z46 := Tryz.sizeOf155
  v46 := Tryz.zeroValue155
  t50 := Tryz.underlying159
  a50 := Tryz.isAgg159
  z50 := Tryz.sizeOf159
  v50 := Tryz.zeroValue159
  t53 := Tryz.underlying144
  a53 := Tryz.isAgg144
  z53 := Tryz.sizeOf144
  v53 := Tryz.zeroValue144
  t55 := Tryz.underlying163
  a55 := Tryz.isAgg163
  z55 := Tryz.sizeOf163
  v55 := Tryz.zeroValue163
  t66 := Tryz.underlying194
  a66 := Tryz.isAgg194
  z66 := Tryz.sizeOf194
  v66 := Tryz.zeroValue194
  t70 := Tryz.underlying198
  a70 := Tryz.isAgg198
  z70 := Tryz.sizeOf198
  v70 := Tryz.zeroValue198
  t76 := Tryz.underlying203
  a76 := Tryz.isAgg203
  z76 := Tryz.sizeOf203
  v76 := Tryz.zeroValue203
  t77 := Tryz.underlying204
  a77 := Tryz.isAgg204
  z77 := Tryz.sizeOf204
  v77 := Tryz.zeroValue204 }
end Go.Proofs
/-
  Leaves sorted by their names: the library's own contract on slices.SortFunc at this program's leaves.
-/
namespace Go.Proofs.YtmcejkfknbjjkaaGreatDoor
open Go.RowKit Go.Shelf Go.Lib
open Go.Sort (SWO PermIn SortedIn HoldsK flatK get_flatK grow holdsK_grow holdsK_putRowK holdsK_ahead)
set_option linter.unusedVariables false
set_option linter.unusedSimpArgs false

/-- a leaf as a pair, for the library's words -/
def pr (f : Le) : ByteArray × ByteArray := (f.n, f.v)
def lf (p : ByteArray × ByteArray) : Le := ⟨p.1, p.2⟩
def pcs (p : ByteArray × ByteArray) : List Value := [.string p.1, .string p.2]
def pcf (p q : ByteArray × ByteArray) : Int := LV.cmpN p.1 q.1
theorem ltOf_pcf (p q : ByteArray × ByteArray) : ltOf pcf p q = F.ltN p.1 q.1 := by
  unfold ltOf pcf
  rw [Bool.eq_iff_iff, decide_eq_true_eq]
  exact LV.cmpN_lt _ _
theorem swo_pcf : SWO (ltOf pcf) := {
  irrefl := fun x => by rw [ltOf_pcf]; exact F.ltN_irrefl _
  trans := fun x y z h1 h2 => by rw [ltOf_pcf] at *; exact F.ltN_trans h1 h2
  ntrans := fun x y z h1 h2 => by
    rw [ltOf_pcf] at *
    cases h : F.ltN x.1 z.1
    · rfl
    · rcases F.ltN_tri x.1 y.1 with h3 | h3 | h3
      · rw [h3] at h1; cases h1
      · rw [h3, h2] at h; cases h
      · rw [F.ltN_trans h3 h] at h2; cases h2 }

theorem cmpLays_any (blk off size : Nat) (w : World) : CmpLays Tryz.prog 43 #[] pcs 2 pcf blk off size w :=
  fun _ _ _ _ x y => compareNames_grow (lf x) (lf y) _

theorem holds_of {w : World} {v : Value} {g : Nat} {l : List Le} (h : RW 2 lcs w v g l) : HoldsK pcs 2 w g 0 (l.map pr).toArray := by
  intro t ht
  have ht' : t < l.length * 2 := by simpa using ht
  have hq : t / 2 < l.length := by omega
  have e : (flatK pcs 2 (l.map pr).toArray)[t]! = (lcs l[t / 2])[t % 2]! := by
    rw [get_flatK _ _ _ t (by simpa using ht')]
    have : (l.map pr).toArray[t / 2]! = pr l[t / 2] := by simp [hq]
    rw [this]
    rfl
  obtain ⟨⟨a, c, _, _, _, hc⟩, hth⟩ := h
  have hm : t % 2 < 2 := Nat.mod_lt _ (by omega)
  have et : t = t / 2 * 2 + t % 2 := by omega
  rw [e]
  refine ⟨?_, ?_⟩
  · have := hc (t / 2) hq (t % 2) _ (List.getElem?_eq_getElem (by rw [lcs_len]; exact hm))
    rw [Nat.zero_add] at this ⊢
    rw [← et] at this
    rw [this, getElem!_pos (lcs l[t / 2]) (t % 2) (by rw [lcs_len]; exact hm)]
    rfl
  · have := (hth (t / 2) hq (t % 2) hm).2
    rw [← et] at this
    rw [Nat.zero_add]
    exact this

theorem row_of_holds {w : World} {g n cap : Nat} {d : Array (ByteArray × ByteArray)} (h : HoldsK pcs 2 w g 0 d) (hn : d.size = n) (hl : n ≤ 1100000) (hg : g < w.heap.size) : RW 2 lcs w (.slice (some ⟨g, 0, none⟩) n cap) g (d.toList.map lf) := by
  subst hn
  have key : ∀ j i, j < d.size → i < 2 → w.cell? ⟨g, j * 2 + i, none⟩ = some ((lcs (lf d[j]!))[i]!) ∧ w.frozen? ⟨g, j * 2 + i, none⟩ = false := by
    intro j i hj hi
    have h1 := h (j * 2 + i) (by simp; omega)
    rw [get_flatK _ _ _ _ (by omega), show (j * 2 + i) / 2 = j by omega, show (j * 2 + i) % 2 = i by omega, Nat.zero_add] at h1
    exact h1
  refine ⟨⟨some ⟨g, 0, none⟩, cap, by simp, by simpa using hl, fun _ => ⟨rfl, hg⟩, fun j hj i u hu => ?_⟩, fun j hj i hi => ?_⟩
  · have hj' : j < d.size := by simpa using hj
    have hi : i < 2 := by have := (List.getElem?_eq_some_iff.1 hu).1; rw [lcs_len] at this; exact this
    have hk := (key j i hj' hi).1
    rw [Nat.zero_add, hk]
    have e : (d.toList.map lf)[j]'hj = lf d[j]! := by simp [hj']
    rw [e, List.getElem?_eq_getElem (by rw [lcs_len]; exact hi)] at hu
    rw [← hu, getElem!_pos (lcs (lf d[j]!)) i (by rw [lcs_len]; exact hi)]
  · have hj' : j < d.size := by simpa using hj
    have hk := key j i hj' hi
    exact ⟨by rw [hk.1]; rfl, hk.2⟩

theorem grown_sort (w : World) (g n : Nat) (d : Array (ByteArray × ByteArray)) (os : Array Obj) : w.grownBy (sortWorldK pcs 2 w g 0 n d os) (some g) := by
  refine ⟨rfl, rfl, rfl, ?_, fun i hi hne => ?_⟩
  · simp [sortWorldK, grow, Go.Sort.putRowK, Go.Sort.putRow, Go.Sort.mapBlock, Go.Sort.ahead]
  · have hne' : g ≠ i := fun e => hne (by rw [e])
    simp [sortWorldK, grow, Go.Sort.putRowK, Go.Sort.putRow, Go.Sort.mapBlock, Go.Sort.ahead, Array.getElem?_append, hi, Array.getElem_modify, hne']

/-- what is sorted, told by its names -/
theorem sorted_is {l L : List Le} {d' : Array (ByteArray × ByteArray)} (hL : LV.Srt L) (hm : ∀ f, f ∈ l ↔ f ∈ L) (hnd : l.Pairwise (fun a b => a.n ≠ b.n)) (hp : PermIn 0 (l.map pr).toArray.size (l.map pr).toArray d') (hs : SortedIn (ltOf pcf) 0 (l.map pr).toArray.size d') : d'.toList.map lf = L := by
  obtain ⟨hsz, _, hperm⟩ := hp
  have hsz' : d'.size = l.length := by simpa using hsz
  have hperm' : d'.toList.Perm (l.map pr) := by
    have e1 : d'.extract 0 (l.map pr).toArray.size = d' := by rw [← hsz]; exact Array.extract_size
    have e2 : (l.map pr).toArray.extract 0 (l.map pr).toArray.size = (l.map pr).toArray := Array.extract_size
    rw [e1, e2] at hperm
    simpa using hperm
  have hpl : (d'.toList.map lf).Perm l := by
    have := hperm'.map lf
    have e : (l.map pr).map lf = l := by
      rw [List.map_map]
      exact List.map_id'' (fun f => rfl) l
    rw [e] at this
    exact this
  have hnd' : (d'.toList.map lf).Pairwise (fun a b => a.n ≠ b.n) := hpl.symm.pairwise hnd (fun {a b} h => Ne.symm h)
  refine LV.srt_ext ?_ hL (fun f => by rw [hpl.mem_iff]; exact hm f)
  unfold LV.Srt
  rw [List.pairwise_iff_getElem] at hnd' ⊢
  intro i j hi hj hij
  have hi' : i < d'.size := by simpa using hi
  have hj' : j < d'.size := by simpa using hj
  have h1 := hs i j (Nat.zero_le _) hij (by simp; omega)
  rw [ltOf_pcf] at h1
  have h2 := hnd' i j hi hj hij
  have ei : (d'.toList.map lf)[i] = lf d'[i]! := by simp [hi']
  have ej : (d'.toList.map lf)[j] = lf d'[j]! := by simp [hj']
  rw [ei, ej] at h2 ⊢
  rcases F.ltN_tri (lf d'[i]!).n (lf d'[j]!).n with h3 | h3 | h3
  · exact h3
  · exact absurd h3 h2
  · have h4 : F.ltN (d'[j]!).1 (d'[i]!).1 = true := h3
    rw [h1] at h4
    cases h4

theorem sort_any (g cap : Nat) (l L : List Le) (w : World) (h : RW 2 lcs w (.slice (some ⟨g, 0, none⟩) l.length cap) g l) (hg : g < w.heap.size) (hL : LV.Srt L) (hm : ∀ f, f ∈ l ↔ f ∈ L) (hnd : l.Pairwise (fun a b => a.n ≠ b.n)) (hl : l.length ≤ 100000) :
    Calls Tryz.prog 42 #[.slice (some ⟨g, 0, none⟩) l.length cap, .func (.func 43) #[] #[]] w fun e w' => e = .returned (.tuple #[]) ∧ l.length = L.length ∧ RW 2 lcs w' (.slice (some ⟨g, 0, none⟩) L.length cap) g L ∧ w.grownBy w' (some g) := by
  have eg : ∀ args w, (callFunc 43 args).run Tryz.prog w = .ok (.enter 43 args) w := enters_of Tryz.func43 (by kernel_rfl) rfl
  have hH := holds_of h
  have hcon := AnyQ.slices_SortFunc Tryz.sortLe 2 Tryz.isAgg34 Tryz.sizeOf34 pcs (fun _ => rfl) (fun x v hv => by simp [pcs] at hv; rcases hv with rfl | rfl <;> rfl) pcf swo_pcf 43 #[] g 0 cap (l.map pr).toArray w eg (cmpLays_any g 0 (l.map pr).toArray.size w) hH hg (by simp; omega)
  change Calls Tryz.prog 42 _ _ _ at hcon
  have e1 : (l.map pr).toArray.size = l.length := by simp
  rw [e1] at hcon
  refine hcon.mono ?_
  rintro e w' ⟨rfl, d', n, os, hp, hs, rfl⟩
  have hd : d'.toList.map lf = L := sorted_is hL hm hnd (by rw [e1]; exact hp) (by rw [e1]; exact hs)
  have hlen : l.length = L.length := by
    have h1 : (d'.toList.map lf).length = L.length := by rw [hd]
    rw [List.length_map, Array.length_toList, hp.1, e1] at h1
    exact h1
  have hh : HoldsK pcs 2 (sortWorldK pcs 2 w g 0 n d' os) g 0 d' := holdsK_grow pcs 2 _ _ _ _ _ (by simpa [Go.Sort.putRowK] using hg) (holdsK_putRowK pcs 2 _ _ _ _ _ (holdsK_ahead pcs 2 _ n _ _ _ hH) (by rw [hp.1]))
  have hgs := (grown_sort w g n d' os).size
  have hr := row_of_holds (cap := cap) hh (show d'.size = L.length by rw [hp.1, e1, hlen]) (by omega) (by omega)
  rw [hd] at hr
  exact ⟨rfl, hlen, hr, grown_sort w g n d' os⟩

end Go.Proofs.YtmcejkfknbjjkaaGreatDoor
/-
  All parts together: the specification's answer.
-/
namespace Go.Proofs.YtmcejkfknbjjkaaGreatDoor
open Go.RowKit Go.BigFrame Go.Sort
set_option linter.unusedVariables false
set_option linter.unusedSimpArgs false

/-- a row of rows of leaves -/
def PS (w : World) (v : Value) (g o : Nat) (P : List (List Le)) : Prop := ∃ a c, v = .slice a P.length c ∧ P.length ≤ 1100000 ∧ (0 < P.length → a = some ⟨g, o, none⟩ ∧ g < w.heap.size) ∧
  ∀ j (h : j < P.length), ∃ aj cj gj oj, w.cell? ⟨g, o + j, none⟩ = some (.slice aj P[j].length cj) ∧ RS 2 lcs w (.slice aj P[j].length cj) gj oj P[j]
theorem PS.later {w w' : World} {v : Value} {g o : Nat} {P : List (List Le)} (h : PS w v g o P) (hb : Below w.heap.size w w') : PS w' v g o P := by
  obtain ⟨a, c, hv, hl, hA, hc⟩ := h
  refine ⟨a, c, hv, hl, fun hp => ⟨(hA hp).1, Nat.lt_of_lt_of_le (hA hp).2 hb.size⟩, fun j hj => ?_⟩
  obtain ⟨aj, cj, gj, oj, h1, h2⟩ := hc j hj
  exact ⟨aj, cj, gj, oj, (cell_kept (hb.block g (hA (by omega)).2)).trans h1, h2.later hb⟩
theorem PS.at {w : World} {v : Value} {g o : Nat} {P : List (List Le)} (h : PS w v g o P) (j : Nat) (hj : j < P.length) : ∃ aj cj gj oj, w.cell? ⟨g, o + j, none⟩ = some (.slice aj P[j].length cj) ∧ RS 2 lcs w (.slice aj P[j].length cj) gj oj P[j] := by
  obtain ⟨a, c, hv, hl, hA, hc⟩ := h
  exact hc j hj
def SmallP (P : List (List Le)) : Prop := ∀ p ∈ P, SmallL p

/-- what has been put so far -/
def AlI (w wr : World) (a : Option Addr) (cap q : Nat) (O A : List Le) : Prop := RW 2 lcs wr (.slice a O.length cap) q O ∧ w.heap.size ≤ q ∧ Below w.heap.size w wr ∧ (a = none → cap = 0) ∧ LV.PutI A O
theorem AlI.small {w wr : World} {a : Option Addr} {cap q : Nat} {O A : List Le} (h : AlI w wr a cap q O A) : SmallL O := fun f hf => by
  have := LV.leB_sizes (h.2.2.2.2.1.2.1 f hf)
  omega
def YaO (w : World) (P : List (List Le)) (u n i : Value) (wr : World) : Prop := ∃ (m : Nat) (a : Option Addr) (cap q : Nat) (O : List Le), m ≤ P.length ∧ i = .int .i64 m ∧ u = .slice a O.length cap ∧ n = .int .i64 ((P.take m).flatten.length : Int) ∧ Hid (AlI w wr a cap q O (P.take m).flatten)
def YaI (w : World) (B p : List Le) (u n i : Value) (wr : World) : Prop := ∃ (m : Nat) (a : Option Addr) (cap q : Nat) (O : List Le), m ≤ p.length ∧ i = .int .i64 m ∧ u = .slice a O.length cap ∧ n = .int .i64 ((B.length + m : Nat) : Int) ∧ Hid (AlI w wr a cap q O (B ++ p.take m))
theorem parts_step {P : List (List Le)} {m : Nat} (hm : m < P.length) : (P.take (m + 1)).flatten = (P.take m).flatten ++ P[m] := by
  rw [List.take_succ_eq_append_getElem hm, List.flatten_append]
  simp
theorem parts_len {P : List (List Le)} {m : Nat} (hm : m < P.length) : (P.take m).flatten.length + P[m].length ≤ P.flatten.length := by
  have h := congrArg List.length (congrArg List.flatten (List.take_append_drop (m + 1) P))
  rw [List.flatten_append, List.length_append, parts_step hm, List.length_append] at h
  omega
theorem app_cut (X p t r Y : List Le) (f : Le) (h : p = t ++ f :: r) : X ++ p ++ Y = (X ++ t) ++ f :: (r ++ Y) := by
  subst h
  simp
theorem parts_split {P : List (List Le)} {m k : Nat} (hm : m < P.length) (hk : k < P[m].length) : ∃ R, P.flatten = ((P.take m).flatten ++ P[m].take k) ++ P[m][k] :: R := by
  have h : P.flatten = (P.take (m + 1)).flatten ++ (P.drop (m + 1)).flatten := by rw [← List.flatten_append, List.take_append_drop]
  rw [parts_step hm] at h
  have h2 : P[m] = P[m].take k ++ P[m][k] :: P[m].drop (k + 1) := by
    rw [← List.drop_eq_getElem_cons hk]
    exact (List.take_append_drop k _).symm
  exact ⟨P[m].drop (k + 1) ++ (P.drop (m + 1)).flatten, h.trans (app_cut _ _ _ _ _ _ h2)⟩

end Go.Proofs.YtmcejkfknbjjkaaGreatDoor
/-
  Parts laid together in one room: the program's tooMany and joined.
-/
namespace Go.Proofs.YtmcejkfknbjjkaaGreatDoor
open Go.RowKit Go.BigFrame Go.Sort
set_option linter.unusedVariables false
set_option linter.unusedSimpArgs false

def YtO (w : World) (P : List (List Le)) (x i : Value) (wr : World) : Prop := ∃ m : Nat, m ≤ P.length ∧ i = .int .i64 m ∧ (P.take m).flatten.length ≤ 24 ∧ x = .int .i64 (24 - ((P.take m).flatten.length : Int)) ∧ wr = w

set_option maxRecDepth 100000 in
set_option maxHeartbeats 1000000 in
theorem tooMany_any (v : Value) (g o : Nat) (P : List (List Le)) (w : World) (hv : PS w v g o P) :
    Calls Tryz.prog 40 #[v] w fun e w' => e = .returned (.bool (decide (24 < P.flatten.length))) ∧ w' = w := by
  have HV : Hid (PS w v g o P) := hv
  obtain ⟨R, hR⟩ : ∃ R, decide (24 < P.flatten.length) = R := ⟨_, rfl⟩
  have HR : Hid (decide (24 < P.flatten.length) = R) := hR
  rw [hR]
  obtain ⟨a, cap, rfl, hl, hA, _⟩ := hv
  obtain ⟨n, hn⟩ : ∃ n, P.length = n := ⟨_, rfl⟩
  have HA : Hid (0 < n → a = some ⟨g, o, none⟩) := by rw [← hn]; exact fun h => (hA h).1
  have HN : Hid (P.length = n) := hn
  have HST : Hid (YtO w P (.int .i64 24) (.int .i64 0) w) := ⟨0, by omega, rfl, by simp, by simp, rfl⟩
  rw [hn] at hl HV ⊢
  clear hA hn hR
  go_enter Tryz.func40, Tryz.ntmps40
  go_wp2
  go_loopw [3, 8] (fun x i wr => YtO w P x i wr) (fun _ i _ => n - (intOf i).toNat)
  case atStart => exact HST.out
  case round =>
    obtain ⟨m, hm, rfl, hs, rfl, hw⟩ := hrel
    obtain rfl := hw.symm
    clear HST
    rw [HN.out] at hm
    by_cases hlt : m < n
    · have ea := HA.out (by omega)
      subst ea
      have hmP : m < P.length := by rw [HN.out]; exact hlt
      obtain ⟨aj, cj, gj, oj, c0, hrj⟩ := HV.out.at m hmP
      have hst := congrArg List.length (parts_step hmP)
      rw [List.length_append] at hst
      have hpl := parts_len hmP
      have i1 : (m : Int) < (n : Int) := by omega
      have i2 : (0 : Int) ≤ (m : Int) := by omega
      have hpj := hrj.len
      have HNX : Hid (∀ y : Int, (P.take (m + 1)).flatten.length ≤ 24 → y = 24 - ((P.take (m + 1)).flatten.length : Int) → YtO w P (.int .i64 y) (.int .i64 ((m : Int) + 1)) w) := fun y h1 h2 => ⟨m + 1, by omega, by simp, h1, by rw [h2], rfl⟩
      rw [hst] at HNX
      have HYY : Hid (24 < (P.take m).flatten.length + P[m].length → R = true) := fun h => by rw [← HR.out, decide_eq_true_iff]; omega
      generalize P[m].length = q at *
      generalize (P.take m).flatten.length = s at *
      clear hst hrj hpl HV HR
      by_cases hk : 24 < s + q
      · have hRt := HYY.out hk
        subst hRt
        have i3 : 24 - (s : Int) < (q : Int) := by omega
        clear HYY HNX
        go_wp2
        try rw [Exit.noGoto_ret]
        go_ret
        exact ⟨rfl, rfl⟩
      · have i3 : ¬ (24 - (s : Int) < (q : Int)) := by omega
        have HK : Hid (YtO w P (.int .i64 (24 - (s : Int) - (q : Int))) (.int .i64 ((m : Int) + 1)) w) := HNX.out _ (by omega) (by omega)
        clear HYY HNX
        go_wp2
        go_roundw
        case rel => exact HK.out
        case measure => simp [intOf]; omega
    · have e : (P.take m).flatten = P.flatten := by rw [List.take_of_length_le (by rw [HN.out]; omega)]
      rw [e] at hs
      have hRf : R = false := by rw [← HR.out, decide_eq_false_iff_not]; omega
      subst hRf
      have i1 : ¬ (m : Int) < (n : Int) := by omega
      clear HR HV e
      go_wp2
      go_ret
      exact ⟨rfl, rfl⟩

/-- leaves copied over others -/
theorem run_copy_leaves (w : World) (ty : TypeId) (b o n dCap sCap : Nat) (a : Addr) (cs : List Value) (hn : cs.length = n * 2)
    (hsrc : ∀ j v, cs[j]? = some v → w.cell? (a.add j) = some v) (hc : ∀ j, j < cs.length → (w.cell? ⟨b, o + j, none⟩).isSome = true) (hf : ∀ j, j < cs.length → w.frozen? ⟨b, o + j, none⟩ = false) (h1 : ∀ v ∈ cs, v.oneCell' = true) :
    (Builtin.copy_ #[24, 24] ty #[.slice (some ⟨b, o, none⟩) n dCap, .slice (some a) n sCap]).run Tryz.prog w = .ok (.int .i64 (n : Int)) (w.setCells b o cs) := by
  obtain ⟨i0, hi, hz0, hz1, hz2⟩ := info_parts Tryz.infoLeaf
  have hl := run_firstCells_some (P := Tryz.prog) w 2 n a n sCap cs hn hsrc
  have hst := run_storeCells_cells (P := Tryz.prog) b o cs 0 w (by simpa using hc) (by simpa using hf) h1
  simp [Builtin.copy_, run_underlying Tryz.underlying24, Builtin.lenOf, sizeOf, typeInfo, hi, hz1, hl, hst, goInt]
theorem run_copy_noleaf (w : World) (ty : TypeId) (d a : Option Addr) (dCap sCap : Nat) :
    (Builtin.copy_ #[24, 24] ty #[.slice d 0 dCap, .slice a 0 sCap]).run Tryz.prog w = .ok (.int .i64 0) w := by
  obtain ⟨i0, hi, hz0, hz1, hz2⟩ := info_parts Tryz.infoLeaf
  have hl : ∀ (x : Addr), (loadCells x 0).run Tryz.prog w = .ok #[] w := fun x => by simpa using run_loadCells_list (P := Tryz.prog) w x [] (by simp)
  cases d <;> cases a <;> simp [Builtin.copy_, run_underlying Tryz.underlying24, Builtin.lenOf, Builtin.firstCells, sizeOf, typeInfo, hi, storeCells, hl, goInt]

/-- the first s leaves of A lie in the room -/
def RmI (A : List Le) (gr s : Nat) (W : World) : Prop := (∀ j (h : j < A.length), j < s → W.rangeAt gr (j * 2) (lcs A[j])) ∧ (∀ j, j < 24 → W.there gr (j * 2) 2) ∧ gr < W.heap.size
theorem RmI.later {A : List Le} {gr s : Nat} {W W' : World} (h : RmI A gr s W) (hb : Below W.heap.size W W') : RmI A gr s W' :=
  ⟨fun j hj hjs => range_kept (h.1 j hj hjs) (hb.block gr h.2.2), fun j hj => there_kept (h.2.1 j hj) (hb.block gr h.2.2), Nat.lt_of_lt_of_le h.2.2 hb.size⟩
theorem flat_range {w : World} {g o : Nat} {p : List Le} (h : w.rangeAt g o (p.flatMap lcs)) (j : Nat) (hj : j < p.length) : w.rangeAt g (o + j * 2) (lcs p[j]) := by
  intro i u hu
  have hi : i < 2 := by have := (List.getElem?_eq_some_iff.1 hu).1; rw [lcs_len] at this; exact this
  have := h (j * 2 + i) u (by rw [flat_at (k := 2) (enc := lcs) (fun x => lcs_len x) p j hj i hi]; exact hu)
  rw [← Nat.add_assoc] at this
  exact this
theorem RmI.step {A p : List Le} {gr s : Nat} {W : World} (h : RmI A gr s W) (hs : s + p.length ≤ 24) (hA : ∀ j (hj : j < p.length), ∃ h : s + j < A.length, A[s + j] = p[j]) : RmI A gr (s + p.length) (W.setCells gr (s * 2) (p.flatMap lcs)) := by
  have hfl := flat_len (k := 2) (enc := lcs) (fun x => lcs_len x) p
  refine ⟨fun j hj hjs => ?_, fun j hj => World.there_setCells (h.2.1 j hj) _ _ _, by rw [size_setCells]; exact h.2.2⟩
  rcases Nat.lt_or_ge j s with h1 | h1
  · exact World.rangeAt_setCells_apart (h.1 j hj h1) _ _ _ (.inr (.inl (by rw [lcs_len]; omega)))
  · have hr : (W.setCells gr (s * 2) (p.flatMap lcs)).rangeAt gr (s * 2) (p.flatMap lcs) := by
      refine World.rangeAt_setCells_same _ _ _ _ ?_
      intro i hi
      have := h.2.1 (s + i / 2) (by omega) (i % 2) (by omega)
      rw [show (s + i / 2) * 2 + i % 2 = s * 2 + i by omega] at this
      exact this
    have hr2 := flat_range hr (j - s) (by omega)
    obtain ⟨h3, h4⟩ := hA (j - s) (by omega)
    have e : A[j] = p[j - s]'(by omega) := by rw [← h4]; congr 1; omega
    rw [e]
    rw [show s * 2 + (j - s) * 2 = j * 2 by omega] at hr2
    exact hr2

def YjO (w : World) (P : List (List Le)) (gr : Nat) (x i : Value) (wr : World) : Prop := ∃ m : Nat, m ≤ P.length ∧ i = .int .i64 m ∧ x = .int .i64 ((P.take m).flatten.length : Int) ∧ Hid (RmI P.flatten gr (P.take m).flatten.length wr ∧ Below w.heap.size w wr ∧ w.heap.size ≤ gr)

set_option maxRecDepth 100000 in
set_option maxHeartbeats 1000000 in
theorem joined_any (v : Value) (g o : Nat) (P : List (List Le)) (w : World) (hv : PS w v g o P) (h24 : P.flatten.length ≤ 24) :
    Calls Tryz.prog 41 #[v] w fun e w' => ∃ gr, e = .returned (.slice (some ⟨gr, 0, none⟩) P.flatten.length P.flatten.length) ∧ w.heap.size ≤ gr ∧ RW 2 lcs w' (.slice (some ⟨gr, 0, none⟩) P.flatten.length P.flatten.length) gr P.flatten ∧ gr < w'.heap.size ∧ Below w.heap.size w w' := by
  have HV : Hid (PS w v g o P) := hv
  obtain ⟨A, hAA⟩ : ∃ A, P.flatten = A := ⟨_, rfl⟩
  have HAA : Hid (P.flatten = A) := hAA
  have h24P : Hid (P.flatten.length ≤ 24) := h24
  rw [hAA] at h24 ⊢
  obtain ⟨a, cap, rfl, hl, hA, _⟩ := hv
  obtain ⟨n, hn⟩ : ∃ n, P.length = n := ⟨_, rfl⟩
  have HA : Hid (0 < n → a = some ⟨g, o, none⟩) := by rw [← hn]; exact fun h => (hA h).1
  have HN : Hid (P.length = n) := hn
  obtain ⟨w2, hmk0, hib, hb2, hs2⟩ := made_leaves 24 (by omega) w
  have hmk : (Instr.makeSlice 24 (.int .i64 24) (.int .i64 24)).run Tryz.prog w = .ok (.slice (some ⟨w.heap.size, 0, none⟩) 24 24) w2 := hmk0
  have HST : Hid (YjO w P w.heap.size (.int .i64 0) (.int .i64 0) w2) := ⟨0, by omega, rfl, rfl, ⟨fun j _ h => absurd h (by simp), hib, by omega⟩, hb2, Nat.le_refl _⟩
  rw [hn] at hl HV ⊢
  clear hA hn hmk0 hib hb2
  obtain ⟨gr, hgr⟩ : ∃ gr, w.heap.size = gr := ⟨_, rfl⟩
  rw [hgr] at hmk HST
  go_enter Tryz.func41, Tryz.ntmps41
  go_wp2
  clear hmk
  go_loopw [4, 11] (fun x i wr => YjO w P gr x i wr) (fun _ i _ => n - (intOf i).toNat)
  case atStart => exact HST.out
  case round =>
    obtain ⟨m, hm, rfl, rfl, HI⟩ := hrel
    clear HST
    rw [HN.out] at hm
    by_cases hlt : m < n
    · have ea := HA.out (by omega)
      subst ea
      have hmP : m < P.length := by rw [HN.out]; exact hlt
      have hbel := HI.out.2.1
      obtain ⟨aj, cj, gj, oj, c0, hrj⟩ := (HV.out.later hbel).at m hmP
      have hst := congrArg List.length (parts_step hmP)
      rw [List.length_append] at hst
      have hpl := parts_len hmP
      have h24 := h24P.out
      have i1 : (m : Int) < (n : Int) := by omega
      have i2 : (0 : Int) ≤ (m : Int) := by omega
      have hAp : ∀ j (hj : j < P[m].length), ∃ h : (P.take m).flatten.length + j < P.flatten.length, P.flatten[(P.take m).flatten.length + j] = P[m][j] := fun j hj => by
        obtain ⟨R, hR⟩ := parts_split hmP hj
        refine ⟨by omega, ?_⟩
        have e1 : ((P.take m).flatten ++ P[m].take j).length = (P.take m).flatten.length + j := by rw [List.length_append, List.length_take]; omega
        have e2 : P.flatten[(P.take m).flatten.length + j]? = some P[m][j] := by
          rw [hR, List.getElem?_append_right (by omega), e1, Nat.sub_self]
          rfl
        rw [List.getElem?_eq_getElem (by omega)] at e2
        simpa using e2
      have hstep := HI.out.1.step (p := P[m]) (by omega) hAp
      have HNX : Hid (∀ W, RmI P.flatten gr ((P.take m).flatten.length + P[m].length) W → Below w.heap.size w W → YjO w P gr (.int .i64 (((P.take m).flatten.length : Int) + (P[m].length : Int))) (.int .i64 ((m : Int) + 1)) W) := fun W h1 h2 => by
        refine ⟨m + 1, by omega, by simp, by rw [hst]; simp, ?_, h2, HI.out.2.2⟩
        rw [hst]
        exact h1
      have hB := HI.out.2.2
      have hth : ∀ j, j < (P[m].flatMap lcs).length → (wr.cell? ⟨gr, (P.take m).flatten.length * 2 + j, none⟩).isSome = true ∧ wr.frozen? ⟨gr, (P.take m).flatten.length * 2 + j, none⟩ = false := fun j hj => by
        rw [flat_len (k := 2) (enc := lcs) (fun x => lcs_len x)] at hj
        have := HI.out.1.2.1 ((P.take m).flatten.length + j / 2) (by omega) (j % 2) (by omega)
        rw [show ((P.take m).flatten.length + j / 2) * 2 + j % 2 = (P.take m).flatten.length * 2 + j by omega] at this
        exact this
      generalize P[m] = p at *
      generalize (P.take m).flatten.length = s at *
      obtain ⟨q, hq⟩ : ∃ q, p.length = q := ⟨_, rfl⟩
      have hfl := flat_len (k := 2) (enc := lcs) (fun x => lcs_len x) p
      by_cases hq0 : q = 0
      · have hp0 : p = [] := List.length_eq_zero_iff.1 (by omega)
        have HK : Hid (YjO w P gr (.int .i64 (s : Int)) (.int .i64 ((m : Int) + 1)) wr) := by
          have h1 := HNX.out wr (by rw [hp0]; exact HI.out.1) hbel
          rw [hp0] at h1
          have h2 : YjO w P gr (.int .i64 (s : Int)) (.int .i64 ((m : Int) + 1)) wr := by simpa using h1
          exact h2
        rw [hq, hq0] at c0
        have hcp := run_copy_noleaf wr 3 (some ⟨gr, 0, none⟩) aj 0 cj
        have j1 : (0 : Int) ≤ (s : Int) := by omega
        have j2 : (s : Int) ≤ 24 := by omega
        clear HI HNX hstep hAp hth hfl hrj hst hpl hp0 hq hbel
        go_wp2
        go_roundw
        case rel => exact HK.out
        case measure => simp [intOf]; omega
      · obtain ⟨a', c', ev, _, hA', hcs⟩ := id hrj
        have ea' := (hA' (by omega)).1
        have ej : aj = some ⟨gj, oj, none⟩ := by simp at ev; rw [ev.1, ea']
        subst ej
        have hcp := run_copy_leaves wr 3 gr (s * 2) q q cj ⟨gj, oj, none⟩ (p.flatMap lcs) (by rw [hfl, hq]) (fun j u hj => by rw [Addr.add_mid]; exact flat_cellsL hcs j u hj) (fun j hj => (hth j hj).1) (fun j hj => (hth j hj).2) oneL
        have HK : Hid (YjO w P gr (.int .i64 ((s : Int) + (q : Int))) (.int .i64 ((m : Int) + 1)) (wr.setCells gr (s * 2) (p.flatMap lcs))) := by
          have h1 := HNX.out _ hstep (below_setCells hB _ _ _ hbel)
          rw [hq] at h1
          exact h1
        rw [hq] at c0 hpl
        generalize p.flatMap lcs = CS at *
        have j1 : (0 : Int) ≤ (s : Int) := by omega
        have j2 : (s : Int) + (q : Int) ≤ 24 := by omega
        have j3 : (s : Int) ≤ (s : Int) + (q : Int) := by omega
        have j4 : (0 : Int) ≤ (s : Int) + (q : Int) := by omega
        clear HI HNX hstep hAp hth hfl hrj hst hq hbel ev hA' hcs ea'
        go_wp2
        go_roundw
        case rel => exact HK.out
        case measure => simp [intOf]; omega
    · have e : (P.take m).flatten = A := by rw [List.take_of_length_le (by rw [HN.out]; omega)]; exact HAA.out
      rw [e, HAA.out] at HI
      rw [e]
      have i1 : ¬ (m : Int) < (n : Int) := by omega
      obtain ⟨nf, hnf⟩ : ∃ n, A.length = n := ⟨_, rfl⟩
      have HF : Hid (w.heap.size ≤ gr ∧ RW 2 lcs wr (.slice (some ⟨gr, 0, none⟩) A.length A.length) gr A ∧ gr < wr.heap.size ∧ Below w.heap.size w wr) := by
        refine ⟨HI.out.2.2, ⟨⟨_, _, rfl, by omega, fun _ => ⟨rfl, HI.out.1.2.2⟩, fun j hj => ?_⟩, fun j hj => HI.out.1.2.1 j (by omega)⟩, HI.out.1.2.2, HI.out.2.1⟩
        rw [Nat.zero_add]
        exact HI.out.1.1 j hj hj
      have HNF : Hid (A.length = nf) := hnf
      rw [hnf] at h24 ⊢
      have j1 : (0 : Int) ≤ (nf : Int) := by omega
      have j2 : (nf : Int) ≤ 24 := by omega
      clear HI e HV hnf hAA
      go_wp2
      go_ret
      have h1 := HF.out
      rw [HNF.out, hgr] at h1
      rw [HNF.out]
      exact ⟨gr, rfl, h1⟩

end Go.Proofs.YtmcejkfknbjjkaaGreatDoor
/-
  All parts together: the program's answer.
-/
namespace Go.Proofs.YtmcejkfknbjjkaaGreatDoor
open Go.RowKit Go.Shelf Go.Lib Go.BigFrame
open Go.Sort (SWO PermIn SortedIn HoldsK flatK get_flatK grow holdsK_grow holdsK_putRowK holdsK_ahead)
set_option linter.unusedVariables false
set_option linter.unusedSimpArgs false

/-- what is sorted has the same leaves, in order -/
theorem sorted_perm {l : List Le} {d' : Array (ByteArray × ByteArray)} (hp : PermIn 0 (l.map pr).toArray.size (l.map pr).toArray d') (hs : SortedIn (ltOf pcf) 0 (l.map pr).toArray.size d') : (d'.toList.map lf).Perm l ∧ LV.Wsrt (d'.toList.map lf) := by
  obtain ⟨hsz, _, hperm⟩ := hp
  have hsz' : d'.size = l.length := by simpa using hsz
  have hperm' : d'.toList.Perm (l.map pr) := by
    have e1 : d'.extract 0 (l.map pr).toArray.size = d' := by rw [← hsz]; exact Array.extract_size
    have e2 : (l.map pr).toArray.extract 0 (l.map pr).toArray.size = (l.map pr).toArray := Array.extract_size
    rw [e1, e2] at hperm
    simpa using hperm
  have hpl : (d'.toList.map lf).Perm l := by
    have := hperm'.map lf
    have e : (l.map pr).map lf = l := by
      rw [List.map_map]
      exact List.map_id'' (fun f => rfl) l
    rw [e] at this
    exact this
  refine ⟨hpl, ?_⟩
  unfold LV.Wsrt
  rw [List.pairwise_iff_getElem]
  intro i j hi hj hij
  have hi' : i < d'.size := by simpa using hi
  have hj' : j < d'.size := by simpa using hj
  have h1 := hs i j (Nat.zero_le _) hij (by simp; omega)
  rw [ltOf_pcf] at h1
  have ei : (d'.toList.map lf)[i] = lf d'[i]! := by simp [hi']
  have ej : (d'.toList.map lf)[j] = lf d'[j]! := by simp [hj']
  rw [ei, ej]
  exact h1

theorem sort_perm (g cap : Nat) (l : List Le) (w : World) (h : RW 2 lcs w (.slice (some ⟨g, 0, none⟩) l.length cap) g l) (hg : g < w.heap.size) (hl : l.length ≤ 100000) :
    Calls Tryz.prog 42 #[.slice (some ⟨g, 0, none⟩) l.length cap, .func (.func 43) #[] #[]] w fun e w' => e = .returned (.tuple #[]) ∧ ∃ L : List Le, L.Perm l ∧ LV.Wsrt L ∧ RW 2 lcs w' (.slice (some ⟨g, 0, none⟩) l.length cap) g L ∧ w.grownBy w' (some g) := by
  have eg : ∀ args w, (callFunc 43 args).run Tryz.prog w = .ok (.enter 43 args) w := enters_of Tryz.func43 (by kernel_rfl) rfl
  have hH := holds_of h
  have hcon := AnyQ.slices_SortFunc Tryz.sortLe 2 Tryz.isAgg34 Tryz.sizeOf34 pcs (fun _ => rfl) (fun x v hv => by simp [pcs] at hv; rcases hv with rfl | rfl <;> rfl) pcf swo_pcf 43 #[] g 0 cap (l.map pr).toArray w eg (cmpLays_any g 0 (l.map pr).toArray.size w) hH hg (by simp; omega)
  change Calls Tryz.prog 42 _ _ _ at hcon
  have e1 : (l.map pr).toArray.size = l.length := by simp
  rw [e1] at hcon
  refine hcon.mono ?_
  rintro e w' ⟨rfl, d', n, os, hp, hs, rfl⟩
  obtain ⟨hd1, hd2⟩ := sorted_perm (l := l) (d' := d') (by rw [e1]; exact hp) (by rw [e1]; exact hs)
  have hh : HoldsK pcs 2 (sortWorldK pcs 2 w g 0 n d' os) g 0 d' := holdsK_grow pcs 2 _ _ _ _ _ (by simpa [Go.Sort.putRowK] using hg) (holdsK_putRowK pcs 2 _ _ _ _ _ (holdsK_ahead pcs 2 _ n _ _ _ hH) (by rw [hp.1]))
  have hgs := (grown_sort w g n d' os).size
  have hr := row_of_holds (cap := cap) hh (show d'.size = l.length by rw [hp.1, e1]) (by omega) (by omega)
  exact ⟨rfl, d'.toList.map lf, hd1, hd2, hr, grown_sort w g n d' os⟩

set_option maxRecDepth 100000 in
set_option maxHeartbeats 1000000 in
theorem AllLeaves_any (v : Value) (g o : Nat) (P : List (List Le)) (w : World) (hv : PS w v g o P) (hsm : SmallP P) :
    Calls Tryz.prog 11 #[v] w (LqP (LV.allR P.flatten) (LV.allB P.flatten) w) := by
  have ht := tooMany_any v g o P w hv
  have HM : Hid (∀ W, Below w.heap.size w W → ¬ LV.AllOk P.flatten → LqP (LV.allR P.flatten) (LV.allB P.flatten) w (.returned (.tuple #[.slice (some ⟨W.heap.size, 0, none⟩) 0 0, .bool false])) (W.alloc (.cells #[] 34))) := fun W hW hno => by
    rw [LV.allR_no hno, LV.allB_no hno]
    have ho := OL.made w.heap.size w W hW hW.size
    obtain ⟨gz, hrz, hgz, _⟩ := ho.rw (by simp)
    exact ⟨_, _, gz, rfl, hrz, hgz, ho.2.1⟩
  have hsf : SmallL P.flatten := fun f hf => by
    obtain ⟨p, hp, hf⟩ := List.mem_flatten.1 hf
    exact hsm p hp f hf
  have hj := joined_any v g o P w hv
  generalize P.flatten = A at *
  by_cases h24 : 24 < A.length
  · have hno : ¬ LV.AllOk A := fun h => by have := h.len; omega
    have HF := HM.out w (Below.refl _ _) hno
    rw [decide_eq_true h24] at ht
    clear HM hj hno hsf
    go_enter Tryz.func11, Tryz.ntmps11
    go_wp2_with fail
    refine ht.mono ?_
    rintro e w1 ⟨rfl, hw1⟩
    obtain rfl := hw1.symm
    go_wp2
    go_ret2
    exact HF
  · have hj := hj (by omega)
    rw [decide_eq_false h24] at ht
    have HSO : Hid (∀ W gr, RW 2 lcs W (.slice (some ⟨gr, 0, none⟩) A.length A.length) gr A → gr < W.heap.size → w.heap.size ≤ gr → Below w.heap.size w W → Calls Tryz.prog 42 #[.slice (some ⟨gr, 0, none⟩) A.length A.length, .func (.func 43) #[] #[]] W fun e w' => e = .returned (.tuple #[]) ∧ ∃ L : List Le, L.Perm A ∧ LV.Wsrt L ∧ RS 2 lcs w' (.slice (some ⟨gr, 0, none⟩) A.length A.length) gr 0 L ∧ Below w.heap.size w w') := fun W gr hr hg hB hb => (sort_perm gr A.length A W hr hg (by omega)).mono fun e w' ⟨he, L, h1, h2, h3, h4⟩ => ⟨he, L, h1, h2, h3.1, hb.grown h4 hb.size (fun k hk => by obtain rfl : gr = k := (by simpa using hk); exact hB)⟩
    have HLO : Hid (∀ W gr (L : List Le), L.Perm A → LV.Wsrt L → RS 2 lcs W (.slice (some ⟨gr, 0, none⟩) A.length A.length) gr 0 L → Calls Tryz.prog 44 #[.slice (some ⟨gr, 0, none⟩) A.length A.length] W fun e w' => e = .returned (.bool (LV.allB A)) ∧ Below W.heap.size W w') := fun W gr L h1 h2 h3 => by
      have h := LeavesOk_any _ gr 0 L W h3 (fun f hf => hsf f (h1.mem_iff.1 hf))
      rw [LV.wsrt_ok h1 h2] at h
      exact h
    have HCP : Hid (∀ W gr (L : List Le), L.Perm A → RS 2 lcs W (.slice (some ⟨gr, 0, none⟩) A.length A.length) gr 0 L → Calls Tryz.prog 35 #[.slice (some ⟨gr, 0, none⟩) A.length A.length] W fun e w' => ∃ g, e = .returned (.slice (some ⟨g, 0, none⟩) L.length L.length) ∧ W.heap.size ≤ g ∧ RW 2 lcs w' (.slice (some ⟨g, 0, none⟩) L.length L.length) g L ∧ Below W.heap.size W w') := fun W gr L h1 h2 => leavesCopy_any _ gr 0 L W h2 (fun f hf => hsf f (h1.mem_iff.1 hf))
    have HYE : Hid (∀ L : List Le, L.Perm A → LV.Wsrt L → LV.allB A = true → LV.allR A = L) := fun L h1 h2 h3 => by
      have : LV.leavesB L = true := by rw [LV.wsrt_ok h1 h2]; exact h3
      exact LV.allR_yes h1 (LV.leavesB_iff.1 this)
    have HNO : Hid (LV.allB A = false → ¬ LV.AllOk A) := fun h1 h2 => by rw [LV.allB_yes h2] at h1; cases h1
    have hlen : A.length ≤ 24 := by omega
    obtain ⟨n, hn⟩ : ∃ n, A.length = n := ⟨_, rfl⟩
    rw [hn] at hj HSO HLO HCP
    clear h24 hn hlen hsf
    go_enter Tryz.func11, Tryz.ntmps11
    go_wp2_with fail
    refine ht.mono ?_
    rintro e w1 ⟨rfl, hw1⟩
    obtain rfl := hw1.symm
    clear ht
    go_wp2_with fail
    refine hj.mono ?_
    rintro e w2 ⟨gr, rfl, hg2, hr2, hgl2, hb2⟩
    clear hj
    go_wp2_with fail
    refine (HSO.out _ gr hr2 hgl2 hg2 hb2).mono ?_
    rintro e w3 ⟨rfl, L, hp3, hs3, hr3, hb3⟩
    clear HSO hr2 hb2 hgl2 hg2
    go_wp2_with fail
    refine (HLO.out _ gr L hp3 hs3 hr3).mono ?_
    rintro e w4 ⟨rfl, hb4⟩
    have b4 := hb3.trans (hb4.mono hb3.size)
    have hr4 := hr3.later hb4
    cases hB : LV.allB A with
    | false =>
      have HF := HM.out w4 b4 (HNO.out hB)
      clear HLO HCP HYE HNO HM hr3 hr4 hb3 hb4
      go_wp2
      go_ret2
      exact HF
    | true =>
      have eR := HYE.out L hp3 hs3 hB
      clear HLO HYE HNO HM hr3 hb3 hb4
      go_wp2_with fail
      refine (HCP.out _ gr L hp3 hr4).mono ?_
      rintro e w5 ⟨g5, rfl, hg5, hr5, hb5⟩
      have HF : Hid (LqP L true w (.returned (.tuple #[.slice (some ⟨g5, 0, none⟩) L.length L.length, .bool true])) w5) := ⟨_, _, g5, rfl, hr5, by have := b4.size; omega, b4.trans (hb5.mono b4.size)⟩
      have HE : Hid (LV.allR A = L ∧ LV.allB A = true) := ⟨eR, hB⟩
      clear HCP hr5 hg5 hb5 eR hp3 hs3
      go_wp2
      go_ret2
      rw [HE.out.1, HE.out.2]
      exact HF.out

end Go.Proofs.YtmcejkfknbjjkaaGreatDoor
/-
  Rows of slices of leaves that a law grows, one by one.
-/
namespace Go.Proofs.YtmcejkfknbjjkaaGreatDoor
open Go.RowKit Go.BigFrame Go.Sort
set_option linter.unusedVariables false
set_option linter.unusedSimpArgs false

/-- v owns the slices l -/
def OV (B : Nat) (w0 w : World) (v : Value) (l : List Value) : Prop := w.ownsRow B 24 1 v l.length l ∧ Below B w0 w ∧ B ≤ w.heap.size
theorem OV.later {B : Nat} {w0 w w' : World} {v : Value} {l : List Value} (h : OV B w0 w v l) (hb : Below w.heap.size w w') : OV B w0 w' v l := by
  refine ⟨⟨h.1.1, ?_⟩, h.2.1.trans (hb.mono h.2.2), Nat.le_trans h.2.2 hb.size⟩
  rcases h.1.2 with hn | ⟨g, cap, cur, hv, hbg, hg, rest⟩
  · exact .inl hn
  · refine .inr ⟨g, cap, cur, hv, hbg, ?_, rest⟩
    rw [hb.block g (Array.getElem?_eq_some_iff.1 hg).1]
    exact hg
theorem OV.alloc {B : Nat} {w0 w : World} {v : Value} {l : List Value} (h : OV B w0 w v l) (o : Obj) : OV B w0 (w.alloc o) v l := h.later ((Below.refl _ _).alloc (Nat.le_refl _) _)
theorem OV.made (B : Nat) (w0 w : World) (hb : Below B w0 w) (hB : B ≤ w.heap.size) : OV B w0 (w.alloc (.cells #[] 24)) (.slice (some ⟨w.heap.size, 0, none⟩) 0 0) [] :=
  ⟨World.ownsRow_made w #[] 0 hB (by decide) (by simp), hb.alloc hB _, by simp; omega⟩
theorem OV.shape {B : Nat} {w0 w : World} {v : Value} {l : List Value} (h : OV B w0 w v l) : ∃ a c, v = .slice a l.length c := by
  rcases h.1.2 with ⟨hv, hn⟩ | ⟨g, cap, cur, hv, _⟩
  · exact ⟨none, 0, by rw [hv, hn]⟩
  · exact ⟨_, _, hv⟩
/-- where it lies, and its cells -/
theorem OV.cells {B : Nat} {w0 w : World} {v : Value} {l : List Value} (h : OV B w0 w v l) (h0 : 0 < l.length) : ∃ g c, v = .slice (some ⟨g, 0, none⟩) l.length c ∧ B ≤ g ∧ g < w.heap.size ∧ ∀ j (hj : j < l.length), w.cell? ⟨g, j, none⟩ = some l[j] := by
  rcases h.1.2 with ⟨hv, hn⟩ | ⟨g, cap, cur, hv, hbg, hg, rest⟩
  · omega
  · refine ⟨g, cap, hv, hbg, (Array.getElem?_eq_some_iff.1 hg).1, fun j hj => ?_⟩
    have h1 := h.1.cells (g := g) (by rw [hv]; rfl) j l[j] (List.getElem?_eq_getElem hj)
    rw [Addr.add_mid, Nat.zero_add] at h1
    exact h1
/-- a row that stands beside the one that grew -/
theorem OV.beside {B : Nat} {w0 w w' : World} {v : Value} {l : List Value} {row : Option Nat} (h : OV B w0 w v l) (hg : w.grownBy w' row) (hb : Below B w0 w') (hne : ∀ g, row = some g → v.ownBlock ≠ some g) : OV B w0 w' v l := by
  refine ⟨⟨h.1.1, ?_⟩, hb, Nat.le_trans h.2.2 hg.size⟩
  rcases h.1.2 with hn | ⟨g, cap, cur, hv, hbg, hgg, rest⟩
  · exact .inl hn
  · refine .inr ⟨g, cap, cur, hv, hbg, ?_, rest⟩
    rw [hg.block g (Array.getElem?_eq_some_iff.1 hgg).1 (fun e => hne g e.symm (by rw [hv]; rfl))]
    exact hgg
theorem infoLsW : (Tryz.prog.info? 24).map (fun i => (i.zero, i.size, i.bytes)) = some (some (.slice none 0 0), 1, 24) := by kernel_rfl
/-- a slice appended, and where the row lies then -/
theorem wp_partL {w : World} {ops : Array Oper} {o : Oper} {a : Act} {Q : Exit → Act → World → Prop} {rest : List Oper} (hgd : o.guard = none) (s x : Operand)
    (ho : o.op = .call { callee := .builtin .append, args := #[s, x], argTypes := #[28, 28] })
    (B : Nat) (w0 : World) (u : Value) (l : List Value) (t : Value) (hs : a.eval s = u) (h : OV B w0 w u l) (p : Nat) (hx : a.eval x = .slice (some ⟨p, 0, none⟩) 1 1)
    (hnews : w.cell? ⟨p, 0, none⟩ = some t) (h1 : t.oneCell' = true) (hlen : l.length + 1 ≤ 1000000)
    (hk : ∀ g cap w', OV B w0 w' (.slice (some ⟨g, 0, none⟩) (l.length + 1) cap) (l ++ [t]) → w.grownBy w' u.ownBlock → (u.ownBlock = some g ∨ g = w.heap.size) → wpList Tryz.prog ops Q rest (a.put o.dst (.slice (some ⟨g, 0, none⟩) (l.length + 1) cap)) w') : wpList Tryz.prog ops Q (o :: rest) a w := by
  obtain ⟨i0, hi, hz0, hz1, hz2⟩ := info_parts infoLsW
  refine wpList_append_lies w hgd s x 28 ho B 24 i0 (.slice none 0 0) 1 24 Tryz.underlying28 hi hz0 hz1 hz2 rfl (by decide) u l.length l hs h.1 ⟨p, 0, none⟩ 1 1 [t] hx rfl ?_
    (fun u hu => by simp at hu; subst hu; exact h1) (by omega) (by unfold maxLen; omega) (by omega) h.2.2 w.heap.size rfl ?_
  · intro j u hj
    match j, hj with
    | 0, hj =>
      simp at hj
      subst hj
      rw [Addr.add_mid]
      exact hnews
  · intro g cap w' h1 h2 h3 _
    exact hk _ _ _ ⟨by rw [List.length_append]; exact h1, h.2.1.grown h2 h.2.2 (fun k hk => (h.1.lt k hk).1), Nat.le_trans h.2.2 h2.size⟩ h2 h3
/-- two owned rows of unlike types are two -/
theorem own_apart {B C e f n m k l : Nat} {w : World} {u v : Value} {xs ys : List Value} (h : w.ownsRow B e k u n xs) (h' : w.ownsRow C f l v m ys) (hne : e ≠ f) : ∀ g, u.ownBlock = some g → v.ownBlock ≠ some g := by
  intro g hg hg'
  rcases h.2 with ⟨rfl, _⟩ | ⟨p, cap, cur, rfl, _, hp, _⟩
  · simp [Value.ownBlock] at hg
  · rcases h'.2 with ⟨rfl, _⟩ | ⟨q, cap', cur', rfl, _, hq, _⟩
    · simp [Value.ownBlock] at hg'
    · simp [Value.ownBlock] at hg hg'
      subst hg
      subst hg'
      rw [hp] at hq
      simp at hq
      exact hne hq.2

theorem OS.besideV {B : Nat} {w0 w w' : World} {v : Value} {l : List ByteArray} {row : Option Nat} (h : OS B w0 w v l) (hg : w.grownBy w' row) (hb : Below B w0 w') (hne : ∀ g, row = some g → v.ownBlock ≠ some g) : OS B w0 w' v l := by
  refine ⟨⟨h.1.1, ?_⟩, hb, Nat.le_trans h.2.2 hg.size⟩
  rcases h.1.2 with hn | ⟨g, cap, cur, hv, hbg, hgg, rest⟩
  · exact .inl hn
  · refine .inr ⟨g, cap, cur, hv, hbg, ?_, rest⟩
    rw [hg.block g (Array.getElem?_eq_some_iff.1 hgg).1 (fun e => hne g e.symm (by rw [hv]; rfl))]
    exact hgg

/-- what the law has made of the first m shards: the parts, and their roots -/
def FpI (B : Nat) (w0 W : World) (u r : Value) (vs : List Value) (P : List (List Le)) (R : List ByteArray) : Prop :=
  OV B w0 W u vs ∧ OS B w0 W r R ∧ vs.length = P.length ∧ ∀ j (h : j < P.length) (hv : j < vs.length), ∃ aj cj gj, vs[j] = .slice aj P[j].length cj ∧ RS 2 lcs W (.slice aj P[j].length cj) gj 0 P[j] ∧ (0 < P[j].length → u.ownBlock ≠ some gj ∧ r.ownBlock ≠ some gj)
theorem FpI.later {B : Nat} {w0 W W' : World} {u r : Value} {vs : List Value} {P : List (List Le)} {R : List ByteArray} (h : FpI B w0 W u r vs P R) (hb : Below W.heap.size W W') : FpI B w0 W' u r vs P R :=
  ⟨h.1.later hb, h.2.1.later hb, h.2.2.1, fun j hj hv => by
    obtain ⟨aj, cj, gj, h1, h2, h3⟩ := h.2.2.2 j hj hv
    exact ⟨aj, cj, gj, h1, h2.later hb, h3⟩⟩
/-- a part more -/
theorem FpI.part {B : Nat} {w0 W W' : World} {u r : Value} {vs : List Value} {P : List (List Le)} {R : List ByteArray} (h : FpI B w0 W u r vs P R) {g5 cap5 n5 : Nat} {a : Option Addr} {c g : Nat} {p : List Le}
    (ho : OV B w0 W' (.slice (some ⟨g5, 0, none⟩) n5 cap5) (vs ++ [.slice a p.length c])) (hg : W.grownBy W' u.ownBlock) (hl : u.ownBlock = some g5 ∨ g5 = W.heap.size) (hr : RS 2 lcs W (.slice a p.length c) g 0 p) (hgn : 0 < p.length → u.ownBlock ≠ some g ∧ r.ownBlock ≠ some g) : FpI B w0 W' (.slice (some ⟨g5, 0, none⟩) n5 cap5) r (vs ++ [.slice a p.length c]) (P ++ [p]) R := by
  have key : ∀ (q : Nat) (l : List Le) (v : Value), RS 2 lcs W v q 0 l → (0 < l.length → u.ownBlock ≠ some q ∧ r.ownBlock ≠ some q) → RS 2 lcs W' v q 0 l ∧ (0 < l.length → (Value.slice (some ⟨g5, 0, none⟩) n5 cap5).ownBlock ≠ some q ∧ r.ownBlock ≠ some q) := fun q l v h1 h2 => by
    refine ⟨h1.grown hg (fun hp e => (h2 hp).1 e.symm), fun hp => ⟨?_, (h2 hp).2⟩⟩
    have hq : q < W.heap.size := by obtain ⟨_, _, _, _, hA, _⟩ := h1; exact (hA hp).2
    rcases hl with hl | hl
    · have := (h2 hp).1
      rw [hl] at this
      simpa [Value.ownBlock] using this
    · simp [Value.ownBlock]
      omega
  refine ⟨ho, h.2.1.besideV hg ho.2.1 (own_apart h.1.1 h.2.1.1 (by decide)), by rw [List.length_append, List.length_append, h.2.2.1]; rfl, fun j hj hv => ?_⟩
  rcases Nat.lt_or_ge j P.length with h1 | h1
  · obtain ⟨aj, cj, gj, e1, e2, e3⟩ := h.2.2.2 j h1 (by rw [h.2.2.1]; exact h1)
    obtain ⟨k1, k2⟩ := key gj P[j] _ e2 e3
    have eP : (P ++ [p])[j] = P[j] := List.getElem_append_left h1
    have eV : (vs ++ [Value.slice a p.length c])[j] = vs[j]'(by rw [h.2.2.1]; exact h1) := List.getElem_append_left (by rw [h.2.2.1]; exact h1)
    rw [eP, eV]
    exact ⟨aj, cj, gj, e1, k1, k2⟩
  · have hje : j = P.length := by simp at hj; omega
    subst hje
    obtain ⟨k1, k2⟩ := key g p _ hr hgn
    have eP : (P ++ [p])[P.length]'hj = p := by simp
    have eV : (vs ++ [Value.slice a p.length c])[P.length]'hv = .slice a p.length c := by simp [← h.2.2.1]
    rw [eP, eV]
    exact ⟨a, c, g, rfl, k1, k2⟩

/-- a root more -/
theorem FpI.root {B : Nat} {w0 W W' : World} {u r : Value} {vs : List Value} {P : List (List Le)} {R R' : List ByteArray} (h : FpI B w0 W u r vs P R) {g5 cap5 n5 : Nat} (ho : OS B w0 W' (.slice (some ⟨g5, 0, none⟩) n5 cap5) R') (hg : W.grownBy W' r.ownBlock) (hl : r.ownBlock = some g5 ∨ g5 = W.heap.size) : FpI B w0 W' u (.slice (some ⟨g5, 0, none⟩) n5 cap5) vs P R' := by
  refine ⟨h.1.beside hg ho.2.1 (own_apart h.2.1.1 h.1.1 (by decide)), ho, h.2.2.1, fun j hj hv => ?_⟩
  obtain ⟨aj, cj, gj, e1, e2, e3⟩ := h.2.2.2 j hj hv
  refine ⟨aj, cj, gj, e1, e2.grown hg (fun hp e => (e3 hp).2 e.symm), fun hp => ⟨(e3 hp).1, ?_⟩⟩
  have hq : gj < W.heap.size := by obtain ⟨_, _, _, _, hA, _⟩ := e2; exact (hA hp).2
  rcases hl with hl | hl
  · have := (e3 hp).2
    rw [hl] at this
    simpa [Value.ownBlock] using this
  · simp [Value.ownBlock]
    omega
/-- the parts, as a row of rows -/
theorem FpI.ps {B : Nat} {w0 W : World} {u r : Value} {vs : List Value} {P : List (List Le)} {R : List ByteArray} (h : FpI B w0 W u r vs P R) (hl : P.length ≤ 1100000) : ∃ g, PS W u g 0 P := by
  by_cases h0 : 0 < P.length
  · obtain ⟨g, c, hv, hB, hgl, hc⟩ := h.1.cells (by rw [h.2.2.1]; exact h0)
    refine ⟨g, some ⟨g, 0, none⟩, c, by rw [hv, h.2.2.1], hl, fun _ => ⟨rfl, hgl⟩, fun j hj => ?_⟩
    have hjv : j < vs.length := by rw [h.2.2.1]; exact hj
    obtain ⟨aj, cj, gj, e1, e2, _⟩ := h.2.2.2 j hj hjv
    refine ⟨aj, cj, gj, 0, ?_, e2⟩
    rw [Nat.zero_add, hc j hjv, e1]
  · obtain ⟨a, c, hv⟩ := h.1.shape
    exact ⟨0, a, c, by rw [hv, h.2.2.1], hl, fun hp => absurd hp h0, fun j hj => absurd hj (by omega)⟩

end Go.Proofs.YtmcejkfknbjjkaaGreatDoor
/-
  The walk of the law FnParts: it answers true of every code.
-/
namespace Go.Proofs.YtmcejkfknbjjkaaGreatDoor
open Go.RowKit Go.BigFrame Go.Sort
set_option linter.unusedVariables false
set_option linter.unusedSimpArgs false

/-- all parts -/
def ptsL (L : List Le) (k : Int) : List (List Le) := (List.range (shC k)).map fun i : Nat => shL L k (i : Int)
theorem ptsL_len (L : List Le) (k : Int) : (ptsL L k).length = shC k := by simp [ptsL]
theorem ptsL_at (L : List Le) (k : Int) (i : Nat) (h : i < (ptsL L k).length) : (ptsL L k)[i] = shL L k (i : Int) := by simp [ptsL]
theorem ptsL_perm (L : List Le) (k : Int) : (ptsL L k).flatten.Perm L := by
  have h := LV.parts_all (fun f => shN f.n k) L (shC k) (fun f _ => shN_lt f.n k)
  have e : (ptsL L k).flatten = (List.range (shC k)).flatMap fun i => L.filter fun f => decide (shN f.n k = i) := by
    unfold ptsL
    rw [← List.flatMap_def]
    exact congrArg (fun F => List.flatMap F (List.range (shC k))) (funext fun i => shL_nat L k i)
  rw [e]
  exact h
/-- the roots of the parts, each asked alone -/
theorem root_part {L : List Le} (hL : LV.LOk L) (d i : Nat) (hd : d ≤ 2) (hi : i < 2 ^ d) : srB (shL L (d : Int) (i : Int)) (d : Int) (i : Int) 16 = trB 16 (8 - d) i L := by
  rw [shL_und L d i hd, sr_at (by omega) (ok_und hL _ _) d i hd hi, tr_part]

def FpR (B : Nat) (w0 : World) (L : List Le) (k : Int) (RT : List ByteArray) (u r i : Value) (wr : World) : Prop := ∃ (m : Nat) (vs : List Value), m ≤ shC k ∧ i = .int .i64 m ∧ Hid (FpI B w0 wr u r vs ((ptsL L k).take m) (RT.take m))
def FqR (w : World) (n : Nat) (i : Value) (wr : World) : Prop := ∃ m : Nat, m ≤ n ∧ i = .int .i64 m ∧ Below w.heap.size w wr

set_option maxRecDepth 100000 in
set_option maxHeartbeats 4000000 in
theorem partsLaw_any (a0 : Option Addr) (len0 cap0 : Nat) (w : World) (hl0 : len0 ≤ 1048576) (hc : Code w.heap.size w (.slice a0 len0 cap0)) (hK : TabK w) (hF : TabF w) :
    Calls Tryz.prog 3 #[.slice a0 len0 cap0] w fun e w' => e = .returned (.bool true) ∧ Below w.heap.size w w' := by
  have HC : Hid (∀ W, Below w.heap.size w W → Code W.heap.size W (.slice a0 len0 cap0)) := fun W hW => code_laterR hc hW
  have HT : Hid (∀ W, Below w.heap.size w W → Tb W) := fun W hW => Tb.later ⟨hK, hF⟩ hW
  clear hc hK hF
  go_enter Tryz.func3, Tryz.ntmps3
  go_wp2_with fail
  refine (big_no a0 len0 cap0 _ hl0).mono ?_
  rintro e w0 ⟨rfl, rfl⟩
  go_wp2_with fail
  refine (DrawLeaves_any _ _ (HC.out _ (Below.refl _ _))).mono ?_
  rintro e w1 ⟨a1, c1, g1, L, rfl, ⟨hl8, hLk, _⟩, hr1, hg1, hb1⟩
  go_wp2_with fail
  refine (DrawPlaces_any _ _ (HC.out _ hb1)).mono ?_
  rintro e w3 ⟨pv, rfl, ⟨pg, pc, xs, rfl, hx12', hxs, hpg, hpl, hcells⟩, hb3⟩
  have b3 := hb1.trans (hb3.mono hb1.size)
  have z0 := hcells 0 (by omega)
  have hp0 := hxs (xs[0]'(by omega)) (List.getElem_mem _)
  generalize xs[0]'(by omega) = p0 at *
  clear hcells hxs hx12'
  have em : (p0 : Int).tmod 3 = ((p0 % 3 : Nat) : Int) := by rw [Int.tmod_eq_emod_of_nonneg (by omega)]; omega
  have hm3 : p0 % 3 < 3 := Nat.mod_lt _ (by omega)
  obtain ⟨d, hd⟩ : ∃ d, p0 % 3 = d := ⟨_, rfl⟩
  rw [hd] at em hm3
  have hd2 : d ≤ 2 := by omega
  have h32 : (1 : Int) ≤ 16 ∧ (16 : Int) ≤ 32 := by omega
  have hsL := small_okR hLk
  obtain ⟨N, hN⟩ : ∃ N, shC (d : Int) = N := ⟨_, rfl⟩
  have hNd : N = 2 ^ d := by rw [← hN]; exact shC_pow d hd2
  have hN4 : N ≤ 4 := by rcases shC_cases (d : Int) with h | h | h <;> omega
  have hRTl := rtL_len 16 L (8 - d) d
  have hcr := cr_root h32 hLk d hd2
  have hrt := rtL_right h32 hLk (8 - d) d hd2
  have HSL : Hid (∀ W (i : Nat), Below w0.heap.size w0 W → RS 2 lcs W (.slice a1 L.length c1) g1 0 L → Calls Tryz.prog 8 #[.slice a1 L.length c1, .int .i64 (d : Int), .int .i64 (i : Int)] W (LbP (shL L (d : Int) (i : Int)) W)) := fun W i hW hr => ShardLeaves_any _ g1 0 L (d : Int) (i : Int) W hr hsL (HT.out _ hW)
  have HSO : Hid (∀ W (i j : Nat) (hj : j < (shL L (d : Int) (i : Int)).length), Below w0.heap.size w0 W → Calls Tryz.prog 9 #[.string ((shL L (d : Int) (i : Int))[j]).n, .int .i64 (d : Int)] W fun e w' => e = .returned (.int .i64 (i : Int)) ∧ Below W.heap.size W w') := fun W i j hj hW => by
    have hm := List.getElem_mem hj
    have h1 := (List.mem_filter.1 hm).2
    unfold shP at h1
    have h2 : (shN ((shL L (d : Int) (i : Int))[j]).n (d : Int) : Int) = (i : Int) := by simpa using h1
    have h := ShardOf_any ((shL L (d : Int) (i : Int))[j]).n (d : Int) W (hsL _ (List.mem_filter.1 hm).1).1 (HT.out _ hW)
    rw [h2] at h
    exact h
  have HSR : Hid (∀ W (i : Nat) v g, i < N → Below w0.heap.size w0 W → RS 2 lcs W v g 0 (shL L (d : Int) (i : Int)) → Calls Tryz.prog 10 #[v, .int .i64 (d : Int), .int .i64 (i : Int), .int .i64 16] W fun e w' => e = .returned (.string (trB 16 (8 - d) i L)) ∧ Below W.heap.size W w') := fun W i v g hi hW hr => by
    have h := ShardRoot_any v g 0 _ (d : Int) (i : Int) 16 W hr (shL_small hsL) (HT.out _ hW)
    rw [root_part hLk d i hd2 (by omega)] at h
    exact h
  have hperm := ptsL_perm L (d : Int)
  have HAL : Hid (∀ W v g, PS W v g 0 (ptsL L (d : Int)) → Calls Tryz.prog 11 #[v] W fun e w' => ∃ a c g, e = .returned (.tuple #[.slice a L.length c, .bool true]) ∧ RS 2 lcs w' (.slice a L.length c) g 0 L ∧ Below W.heap.size W w') := fun W v g hp => by
    have h := AllLeaves_any v g 0 _ W hp (fun p hp => by
      obtain ⟨j, hj, rfl⟩ := List.getElem_of_mem hp
      rw [ptsL_at]
      exact shL_small hsL)
    rw [LV.allR_yes hperm.symm hLk, LV.allB_yes ⟨L, hperm.symm, hLk⟩] at h
    exact h.mono fun e w' ⟨a, c, g, h1, h2, _, h4⟩ => ⟨a, c, g, h1, h2.1, h4⟩
  have HCR : Hid (∀ W v g, Below w0.heap.size w0 W → SS W v g 0 (rtL 16 L (8 - d) d) → Calls Tryz.prog 12 #[v, .int .i64 16] W fun e w' => e = .returned (.tuple #[.string (trB 16 8 0 L), .bool true]) ∧ Below W.heap.size W w') := fun W v g hW hs => by
    have h := CombineRoots_any v g 0 _ 16 W hs (HT.out _ hW)
    rw [hcr, hrt] at h
    exact h
  have HSM : Hid (∀ W a c g, RS 2 lcs W (.slice a L.length c) g 0 L → RS 2 lcs W (.slice a1 L.length c1) g1 0 L → Calls Tryz.prog 13 #[.slice a L.length c, .slice a1 L.length c1] W fun e w' => e = .returned (.bool true) ∧ Below W.heap.size W w') := fun W a c g h1 h2 => sameLeaves_yes _ _ g 0 g1 0 L W h1 h2
  have HRO : Hid (∀ W, RS 2 lcs W (.slice a1 L.length c1) g1 0 L → Calls Tryz.prog 14 #[.slice a1 L.length c1, .int .i64 16] W fun e w' => e = .returned (.string (trB 16 8 0 L)) ∧ Below W.heap.size W w') := fun W hr => by
    have h := sRootOf_any _ g1 0 L 16 W hr hsL
    rw [nh_root h32 hLk] at h
    exact h
  have HRT : Hid (∀ i (h : i < N) (h2 : i < (rtL 16 L (8 - d) d).length), (rtL 16 L (8 - d) d)[i] = trB 16 (8 - d) i L) := fun i h h2 => by simp [rtL]
  have HSZ : Hid (∀ i : Nat, (shL L (d : Int) (i : Int)).length ≤ 8) := fun i => Nat.le_trans (shL_len _ _ _) hl8
  have HPL : Hid ((ptsL L (d : Int)).length = N ∧ (rtL 16 L (8 - d) d).length = N ∧ ∀ i (h : i < (ptsL L (d : Int)).length), (ptsL L (d : Int))[i] = shL L (d : Int) (i : Int)) := ⟨by rw [ptsL_len, hN], by rw [hRTl, hNd], fun i h => ptsL_at L _ i h⟩
  have HR3 : Hid (RS 2 lcs w3 (.slice a1 L.length c1) g1 0 L ∧ Below w0.heap.size w0 w3) := ⟨(hr1.later hb3).1, b3⟩
  have HNC : Hid (shC (d : Int) = N) := hN
  have hpw : (2 : Int) ^ d = (N : Int) := by rw [hNd]; simp
  generalize trB 16 8 0 L = R8 at *
  generalize rtL 16 L (8 - d) d = RT at *
  clear hr1 hb1 hb3 b3 hLk hd hg1 hpg hpl hl8 hcr hrt hperm hRTl hsL HC HT hN hNd h32
  have HST : Hid (FpR w3.heap.size w3 L (d : Int) RT (.slice (some ⟨w3.heap.size, 0, none⟩) 0 0) (.slice (some ⟨w3.heap.size + 1, 0, none⟩) 0 0) (.int .i64 0) ((w3.alloc (.cells #[] 24)).alloc (.cells #[] 9))) := by
    have ho := OV.made w3.heap.size w3 w3 (Below.refl _ _) (Nat.le_refl _)
    have ho2 := OS.made (w3.alloc (.cells #[] 24))
    have hsz : (w3.alloc (.cells #[] 24)).heap.size = w3.heap.size + 1 := by simp
    refine ⟨0, [], by omega, rfl, ho.alloc _, ?_, rfl, fun j hj => absurd hj (by simp)⟩
    have h := OS.upW ho.2.1 ho.2.2 ho2
    rw [hsz] at h
    exact h
  go_wp2
  go_loopw [5, 6, 7] (fun u r i wr => FpR w3.heap.size w3 L (d : Int) RT u r i wr) (fun _ _ i _ => N - (intOf i).toNat)
  case atStart => exact HST.out
  case round =>
    obtain ⟨m, vs, hm, rfl, HI⟩ := hrel
    clear HST z0 em hp0
    rw [HNC.out] at hm
    have hB := HI.out.1.2.1
    have hbw := HR3.out.2.trans (hB.mono HR3.out.2.size)
    have hrL := HR3.out.1.later hB
    have hsh : (IntKind.i64.wrap ((1 : Int) * 2 ^ d)) = (N : Int) := by rw [Int.one_mul, hpw]; exact IntWalk.i64_in _ (by omega)
    by_cases hlt : m < N
    · have i1 : (m : Int) < (N : Int) := by omega
      have hm8 := HSZ.out m
      have hcall := HSL.out wr m hbw hrL
      have HSOm : Hid (∀ W (j : Nat) (hj : j < (shL L (d : Int) (m : Int)).length), Below w0.heap.size w0 W → Calls Tryz.prog 9 #[.string ((shL L (d : Int) (m : Int))[j]).n, .int .i64 (d : Int)] W fun e w' => e = .returned (.int .i64 (m : Int)) ∧ Below W.heap.size W w') := fun W j hj hW => HSO.out W m j hj hW
      have HSRm : Hid (∀ W v g, Below w0.heap.size w0 W → RS 2 lcs W v g 0 (shL L (d : Int) (m : Int)) → Calls Tryz.prog 10 #[v, .int .i64 (d : Int), .int .i64 (m : Int), .int .i64 16] W fun e w' => e = .returned (.string (RT[m]'(by rw [HPL.out.2.1]; exact hlt))) ∧ Below W.heap.size W w') := fun W v g hW hr => by
        rw [HRT.out m hlt]
        exact HSR.out W m v g hlt hW hr
      have hst : (ptsL L (d : Int)).take m ++ [shL L (d : Int) (m : Int)] = (ptsL L (d : Int)).take (m + 1) := by
        have h1 : m < (ptsL L (d : Int)).length := by rw [HPL.out.1]; exact hlt
        rw [← HPL.out.2.2 m h1]
        exact List.take_append_getElem h1
      have hst2 : RT.take m ++ [RT[m]'(by rw [HPL.out.2.1]; exact hlt)] = RT.take (m + 1) := List.take_append_getElem _
      have HNX : Hid (∀ W u r vs', FpI w3.heap.size w3 W u r vs' ((ptsL L (d : Int)).take m ++ [shL L (d : Int) (m : Int)]) (RT.take m ++ [RT[m]'(by rw [HPL.out.2.1]; exact hlt)]) → FpR w3.heap.size w3 L (d : Int) RT u r (.int .i64 ((m : Int) + 1)) W) := fun W u r vs' h => by
        rw [hst, hst2] at h
        exact ⟨m + 1, vs', by rw [HNC.out]; omega, by simp, h⟩
      have hPl : ((ptsL L (d : Int)).take m).length = m := by rw [List.length_take, HPL.out.1]; omega
      have hRl : (RT.take m).length = m := by rw [List.length_take, HPL.out.2.1]; omega
      have hvl := HI.out.2.2.1
      rw [hPl] at hvl
      generalize RT[m]'(by rw [HPL.out.2.1]; exact hlt) = X at *
      generalize shL L (d : Int) (m : Int) = p at *
      generalize (ptsL L (d : Int)).take m = P at *
      generalize RT.take m = RR at *
      unfold LbP at hcall
      clear hst hst2 HSL HSO HSR HRT hrL HSZ
      go_wp2_with fail
      refine hcall.mono ?_
      rintro e w4 ⟨a4, c4, g4, rfl, hr4, hg4, hb4⟩
      have HI4 : Hid (FpI w3.heap.size w3 w4 u5 u6 vs P RR ∧ RS 2 lcs w4 (.slice a4 p.length c4) g4 0 p ∧ (0 < p.length → u5.ownBlock ≠ some g4 ∧ u6.ownBlock ≠ some g4)) := ⟨HI.out.later hb4, hr4.1, fun _ => ⟨fun e => by have := (HI.out.1.1.lt g4 e).2; omega, fun e => by have := (HI.out.2.1.1.lt g4 e).2; omega⟩⟩
      have hbw4 := hbw.trans (hb4.mono hbw.size)
      obtain ⟨np, hnp⟩ : ∃ n, p.length = n := ⟨_, rfl⟩
      have HNP : Hid (p.length = np) := hnp
      have HRR : Hid (∀ W, Below w4.heap.size w4 W → RS 2 lcs W (.slice a4 np c4) g4 0 p) := fun W hW => by rw [← hnp]; exact HI4.out.2.1.later hW
      rw [hnp] at hm8 ⊢
      have HST2 : Hid (FqR w4 np (.int .i64 0) w4) := ⟨0, by omega, rfl, Below.refl _ _⟩
      clear hcall hr4 hg4 hb4 HI hnp hB
      go_wp2
      go_loopw [9] (fun i wr => FqR w4 np i wr) (fun i _ => np - (intOf i).toNat)
      case atStart => exact HST2.out
      case round =>
        obtain ⟨j, hj, rfl, hbj⟩ := hrel
        clear HST2
        have hbwj := hbw4.trans (hbj.mono hbw4.size)
        have hrj := HRR.out _ hbj
        by_cases hjt : j < np
        · have hjp : j < p.length := by rw [HNP.out]; exact hjt
          have ej : a4 = some ⟨g4, 0, none⟩ := by
            obtain ⟨a', c', ev, _, hA', _⟩ := hrj
            have := (hA' (by omega)).1
            simp at ev
            rw [ev.1, this]
          subst ej
          obtain ⟨d0, d1⟩ := hrj.leaf j hjp
          rw [Nat.zero_add] at d0 d1
          have hso := HSOm.out _ j hjp hbwj
          generalize p[j]'hjp = f at *
          have j1 : (j : Int) < (np : Int) := by omega
          have j2 : (0 : Int) ≤ (j : Int) := by omega
          have qq : ((m : Int) != (m : Int)) = false := by simp
          clear hrj
          go_wp2_with fail
          refine hso.mono ?_
          rintro e w5 ⟨rfl, hb5⟩
          have hbj5 := hbj.trans (hb5.mono hbj.size)
          clear hso hb5 d0 d1
          go_wp2
          go_roundw
          case rel => exact ⟨j + 1, by omega, by go_num, hbj5⟩
          case measure => simp [intOf]; omega
        · have j1 : ¬ (j : Int) < (np : Int) := by omega
          have HI5 : Hid (FpI w3.heap.size w3 wr u5 u6 vs P RR ∧ RS 2 lcs wr (.slice a4 p.length c4) g4 0 p ∧ (0 < p.length → u5.ownBlock ≠ some g4 ∧ u6.ownBlock ≠ some g4)) := ⟨HI4.out.1.later hbj, HI4.out.2.1.later hbj, HI4.out.2.2⟩
          have HI6 : Hid (FpI w3.heap.size w3 (wr.alloc (.cells #[.slice a4 p.length c4] 24)) u5 u6 vs P RR ∧ RS 2 lcs (wr.alloc (.cells #[.slice a4 p.length c4] 24)) (.slice a4 p.length c4) g4 0 p) := ⟨HI5.out.1.later ((Below.refl _ _).alloc (Nat.le_refl _) _), HI5.out.2.1.later ((Below.refl _ _).alloc (Nat.le_refl _) _)⟩
          rw [HNP.out] at HI6
          clear HI4 hrj HSOm
          go_wp2_with (at_builtin; refine wp_partL rfl _ _ rfl w3.heap.size w3 _ vs (.slice a4 np c4) rfl HI6.out.1.1 wr.heap.size rfl ?e1 rfl ?e2 ?_)
          case e2 => omega
          intro g7 cap7 w7 ho7 hg7 hl7
          have HI7 : Hid (FpI w3.heap.size w3 w7 (.slice (some ⟨g7, 0, none⟩) (m + 1) cap7) u6 (vs ++ [.slice a4 np c4]) (P ++ [p]) RR ∧ RS 2 lcs w7 (.slice a4 np c4) g4 0 p) := by
            have h1 := HI6.out.1.part (p := p) (a := a4) (c := c4) (g := g4) (n5 := m + 1) (cap5 := cap7) (g5 := g7) (by rw [HNP.out]; exact ho7) hg7 (by simpa using hl7) (by rw [HNP.out]; exact HI6.out.2) HI5.out.2.2
            rw [HNP.out] at h1
            refine ⟨h1, HI6.out.2.grown hg7 (fun hp e => (HI5.out.2.2 hp).1 e.symm)⟩
          have hB7 := HI7.out.1.1.2.1
          have hbw7 := HR3.out.2.trans (hB7.mono HR3.out.2.size)
          have hsr := HSRm.out w7 _ g4 hbw7 HI7.out.2
          clear ho7 hg7 hl7 HI5 HI6 HSRm
          go_wp2_with fail
          refine hsr.mono ?_
          rintro e w8 ⟨rfl, hb8⟩
          have HI8 : Hid (FpI w3.heap.size w3 (w8.alloc (.cells #[.string X] 9)) (.slice (some ⟨g7, 0, none⟩) (m + 1) cap7) u6 (vs ++ [.slice a4 np c4]) (P ++ [p]) RR) := HI7.out.1.later (hb8.alloc hb8.size _)
          clear hsr HI7 hb8
          go_wp2_with (at_builtin; refine wp_txtL rfl _ _ rfl w3.heap.size w3 _ RR X rfl HI8.out.2.1 w8.heap.size rfl ?c1 ?c2 ?_)
          case c1 => exact one_text _ _ _
          case c2 => omega
          intro g9 cap9 w9 ho9 hg9 hl9
          have HI9 : Hid (FpI w3.heap.size w3 w9 (.slice (some ⟨g7, 0, none⟩) (m + 1) cap7) (.slice (some ⟨g9, 0, none⟩) (m + 1) cap9) (vs ++ [.slice a4 np c4]) (P ++ [p]) (RR ++ [X])) := HI8.out.root ho9 hg9 (by simpa using hl9)
          have HK : Hid (FpR w3.heap.size w3 L (d : Int) RT (.slice (some ⟨g7, 0, none⟩) (m + 1) cap7) (.slice (some ⟨g9, 0, none⟩) (m + 1) cap9) (.int .i64 ((m : Int) + 1)) w9) := HNX.out _ _ _ _ HI9.out
          clear ho9 hg9 hl9 HI8 HI9 HNX
          go_wp2
          go_roundw
          case rel => exact HK.out
          case measure => simp [intOf]; omega
    · have hme : m = N := by omega
      have e1 : (ptsL L (d : Int)).take m = ptsL L (d : Int) := List.take_of_length_le (by rw [HPL.out.1]; omega)
      have e2 : RT.take m = RT := List.take_of_length_le (by rw [HPL.out.2.1]; omega)
      rw [e1, e2] at HI
      have i1 : ¬ (m : Int) < (N : Int) := by omega
      obtain ⟨gp, hps⟩ : ∃ gp, PS wr u5 gp 0 (ptsL L (d : Int)) := HI.out.ps (by rw [HPL.out.1]; omega)
      obtain ⟨gs, hss⟩ := HI.out.2.1.ss (by rw [HPL.out.2.1]; omega)
      have hal := HAL.out wr u5 gp hps
      have HW : Hid (Below w0.heap.size w0 wr ∧ RS 2 lcs wr (.slice a1 L.length c1) g1 0 L ∧ SS wr u6 gs 0 RT) := ⟨hbw, hrL, hss⟩
      clear HI e1 e2 HSL HSO HSR HRT HPL hps hss HAL hbw hrL hB
      go_wp2_with fail
      refine hal.mono ?_
      rintro e w4 ⟨a4, c4, g4, rfl, hr4, hb4⟩
      have HW4 : Hid (Below w0.heap.size w0 w4 ∧ RS 2 lcs w4 (.slice a1 L.length c1) g1 0 L ∧ SS w4 u6 gs 0 RT) := ⟨HW.out.1.trans (hb4.mono HW.out.1.size), HW.out.2.1.later hb4, HW.out.2.2.below hb4 HW.out.2.2.lt⟩
      clear hal hb4 HW
      go_wp2_with fail
      refine (HCR.out _ _ gs HW4.out.1 HW4.out.2.2).mono ?_
      rintro e w5 ⟨rfl, hb5⟩
      have HW5 : Hid (Below w0.heap.size w0 w5 ∧ RS 2 lcs w5 (.slice a1 L.length c1) g1 0 L ∧ RS 2 lcs w5 (.slice a4 L.length c4) g4 0 L) := ⟨HW4.out.1.trans (hb5.mono HW4.out.1.size), HW4.out.2.1.later hb5, hr4.later hb5⟩
      clear hb5 HW4 hr4 HCR
      go_wp2_with fail
      refine (HSM.out _ _ _ g4 HW5.out.2.2 HW5.out.2.1).mono ?_
      rintro e w6 ⟨rfl, hb6⟩
      have HW6 : Hid (Below w0.heap.size w0 w6 ∧ RS 2 lcs w6 (.slice a1 L.length c1) g1 0 L) := ⟨HW5.out.1.trans (hb6.mono HW5.out.1.size), HW5.out.2.1.later hb6⟩
      clear hb6 HW5 HSM
      go_wp2_with fail
      refine (HRO.out _ HW6.out.2).mono ?_
      rintro e w7 ⟨rfl, hb7⟩
      have b7 := HW6.out.1.trans (hb7.mono HW6.out.1.size)
      have q1 : (R8.toList == R8.toList) = true := by simp
      clear hb7 HW6 HRO
      go_wp2
      go_ret
      exact ⟨rfl, b7⟩

end Go.Proofs.YtmcejkfknbjjkaaGreatDoor
