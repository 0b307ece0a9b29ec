/-
 What the law of the last of these texts stands on, part 7.
-/
import Derived.Test.YtoinjdmlembgeaaGreatMg06
import Derived.Deep.OwnRows
namespace Go.Proofs.YtoinjdmlembgeaaGreat
set_option linter.unusedSimpArgs false
set_option linter.unusedVariables false
open Go.ChangeShapes Go.WideShapes Go.ChangeAt Go.RowKit Go.Joins Go.Deep
theorem slt_cons (a b : UInt8) (x y : List UInt8) : Op.bytesLess (a :: x) (b :: y) = (decide (a < b) || (a == b && Op.bytesLess x y)) := rfl
theorem ydu (a b : UInt8) (x y : List UInt8) : Op.bytesLess (a :: x) (b :: y) = true ↔ a.toNat < b.toNat ∨ (a = b ∧ Op.bytesLess x y = true) := by
 rw [slt_cons]
 simp [UInt8.lt_iff_toNat_lt]
theorem ycz (x : List UInt8) : Op.bytesLess x [] = false := by cases x <;> rfl
theorem ybO : ∀ x : List UInt8, Op.bytesLess x x = false
 | [] => rfl
 | a :: x => by
  rw [slt_cons, ybO x]
  simp
theorem slt_trans : ∀ x y z : List UInt8, Op.bytesLess x y = true → Op.bytesLess y z = true → Op.bytesLess x z = true
 | x, y, [], _, h => by rw [ycz] at h; cases h
 | x, [], _ :: _, h, _ => by rw [ycz] at h; cases h
 | [], _ :: _, _ :: _, _, _ => rfl
 | a :: x, b :: y, c :: z, h1, h2 => by
  rw [ydu] at h1 h2 ⊢
  rcases h1 with h1 | ⟨rfl, h1⟩
  ·rcases h2 with h2 | ⟨rfl, h2⟩
   ·exact Or.inl (by omega)
   ·exact Or.inl h1
  ·rcases h2 with h2 | ⟨rfl, h2⟩
   ·exact Or.inl h2
   ·exact Or.inr ⟨rfl, slt_trans x y z h1 h2⟩
theorem yg9 : ∀ x y : List UInt8, x ≠ y → Op.bytesLess x y = true ∨ Op.bytesLess y x = true
 | [], [], h => absurd rfl h
 | [], _ :: _, _ => Or.inl rfl
 | _ :: _, [], _ => Or.inr rfl
 | a :: x, b :: y, h => by
  rw [ydu, ydu]
  by_cases e : a = b
  ·subst e
   rcases yg9 x y (fun e => h (by rw [e])) with h2 | h2
   ·exact Or.inl (Or.inr ⟨rfl, h2⟩)
   ·exact Or.inr (Or.inr ⟨rfl, h2⟩)
  ·have : a.toNat ≠ b.toNat := fun e2 => e (UInt8.toNat_inj.1 e2)
   rcases Nat.lt_or_gt_of_ne this with h2 | h2
   ·exact Or.inl (Or.inl h2)
   ·exact Or.inr (Or.inl h2)
structure SOrd (lt : Nat → Nat → Bool) (n : Nat) : Prop where
 irr : ∀ p, lt p p = false
 tr : ∀ p q r, lt p q = true → lt q r = true → lt p r = true
 tot : ∀ p q, p < n → q < n → p ≠ q → lt p q = true ∨ lt q p = true
theorem SOrd.asym {lt : Nat → Nat → Bool} {n : Nat} (h : SOrd lt n) (p q : Nat) (h1 : lt p q = true) : lt q p = false := by
 cases h2 : lt q p with
 | false => rfl
 | true =>
  have := h.tr p q p h1 h2
  rw [h.irr] at this
  cases this
def yfo (lt : Nat → Nat → Bool) (l : List Nat) : Prop := l.Pairwise fun p q => lt p q = true
theorem yfR {lt : Nat → Nat → Bool} {n : Nat} (h : SOrd lt n) : ∀ (a b : List Nat), yfo lt a → yfo lt b → (∀ p, p ∈ a ↔ p ∈ b) → a = b
 | [], [], _, _, _ => rfl
 | [], q :: t, _, _, hm => by
  have := (hm q).2 (List.mem_cons_self ..)
  cases this
 | p :: s, [], _, _, hm => by
  have := (hm p).1 (List.mem_cons_self ..)
  cases this
 | p :: s, q :: t, ha, hb, hm => by
  have ha' := List.pairwise_cons.1 ha
  have hb' := List.pairwise_cons.1 hb
  have e : p = q := by
   rcases List.mem_cons.1 ((hm p).1 (List.mem_cons_self ..)) with e | e
   ·exact e
   ·rcases List.mem_cons.1 ((hm q).2 (List.mem_cons_self ..)) with e2 | e2
    ·exact e2.symm
    ·have h1 := hb'.1 p e
     have h2 := ha'.1 q e2
     rw [h.asym q p h1] at h2
     cases h2
  subst e
  rw [yfR h s t ha'.2 hb'.2 fun r => ?_]
  constructor
  ·intro hr
   rcases List.mem_cons.1 ((hm r).1 (List.mem_cons_of_mem _ hr)) with e | e
   ·subst e
    have := ha'.1 r hr
    rw [h.irr] at this
    cases this
   ·exact e
  ·intro hr
   rcases List.mem_cons.1 ((hm r).2 (List.mem_cons_of_mem _ hr)) with e | e
   ·subst e
    have := hb'.1 r hr
    rw [h.irr] at this
    cases this
   ·exact e
theorem ygJ {lt : Nat → Nat → Bool} {n : Nat} (h : SOrd lt n) : ∀ l : List Nat, yfo lt l → l.Nodup
 | [], _ => List.nodup_nil
 | p :: t, hl => by
  have hl' := List.pairwise_cons.1 hl
  refine List.nodup_cons.2 ⟨fun hp => ?_, ygJ h t hl'.2⟩
  have := hl'.1 p hp
  rw [h.irr] at this
  cases this
theorem ybA {lt : Nat → Nat → Bool} {l : List Nat} (h : yfo lt l) (i j : Nat) (hi : i < l.length) (hj : j < l.length) (hij : i < j) : lt l[i] l[j] = true := List.pairwise_iff_getElem.1 h i j hi hj hij
theorem ssort_of {lt : Nat → Nat → Bool} {l : List Nat} (h : ∀ i j (hi : i < l.length) (hj : j < l.length), i < j → lt l[i] l[j] = true) : yfo lt l := List.pairwise_iff_getElem.2 fun i j hi hj hij => h i j hi hj hij
def scut (lt : Nat → Nat → Bool) (p : Nat) : List Nat → Nat
 | [] => 0
 | q :: t => if lt q p = true then scut lt p t + 1 else 0
def sins (lt : Nat → Nat → Bool) (p : Nat) (l : List Nat) : List Nat := l.take (scut lt p l) ++ p :: l.drop (scut lt p l)
def slay (lt : Nat → Nat → Bool) : Nat → List Nat
 | 0 => []
 | k + 1 => sins lt k (slay lt k)
theorem scut_le (lt : Nat → Nat → Bool) (p : Nat) : ∀ l, scut lt p l ≤ l.length
 | [] => Nat.le_refl _
 | q :: t => by
  have := scut_le lt p t
  unfold scut
  split <;> simp <;> omega
theorem scut_is (lt : Nat → Nat → Bool) (p : Nat) : ∀ (l : List Nat) (c : Nat), c ≤ l.length → (∀ i (h : i < l.length), i < c → lt l[i] p = true) → (∀ i (h : i < l.length), i = c → lt l[i] p = false) → scut lt p l = c
 | [], c, hc, _, _ => by simp at hc; subst hc; rfl
 | q :: t, 0, _, _, h2 => by
  have := h2 0 (by simp) rfl
  simp only [List.getElem_cons_zero] at this
  unfold scut
  rw [if_neg (by rw [this]; decide)]
 | q :: t, c + 1, hc, h1, h2 => by
  have h0 := h1 0 (by simp) (by omega)
  simp only [List.getElem_cons_zero] at h0
  unfold scut
  rw [if_pos h0, scut_is lt p t c (by simpa using hc) (fun i hi hic => by
   have := h1 (i + 1) (by simpa using hi) (by omega)
   simpa using this) (fun i hi hic => by
   have := h2 (i + 1) (by simpa using hi) (by omega)
   simpa using this)]
theorem scut_less (lt : Nat → Nat → Bool) (p : Nat) : ∀ (l : List Nat) (i : Nat) (h : i < l.length), i < scut lt p l → lt l[i] p = true
 | [], i, h, _ => absurd h (by simp)
 | q :: t, i, h, hc => by
  unfold scut at hc
  by_cases e : lt q p = true
  ·rw [if_pos e] at hc
   cases i with
   | zero => exact e
   | succ i => exact scut_less lt p t i (by simpa using h) (by omega)
  ·rw [if_neg e] at hc
   omega
theorem scut_more {lt : Nat → Nat → Bool} {n : Nat} (hl : SOrd lt n) (p : Nat) (hp : p < n) : ∀ (l : List Nat) (i : Nat) (h : i < l.length), yfo lt l → (∀ q ∈ l, q < n ∧ q ≠ p) → scut lt p l ≤ i → lt p l[i] = true
 | [], i, h, _, _, _ => absurd h (by simp)
 | q :: t, i, h, hs, hq, hc => by
  have hs' := List.pairwise_cons.1 hs
  unfold scut at hc
  by_cases e : lt q p = true
  ·rw [if_pos e] at hc
   cases i with
   | zero => omega
   | succ i => exact scut_more hl p hp t i (by simpa using h) hs'.2 (fun r hr => hq r (List.mem_cons_of_mem _ hr)) (by omega)
  ·have hqp := hq q (List.mem_cons_self ..)
   have h1 : lt p q = true := by
    rcases hl.tot q p hqp.1 hp hqp.2 with h2 | h2
    ·exact absurd h2 e
    ·exact h2
   cases i with
   | zero => exact h1
   | succ i => exact hl.tr p q _ h1 (hs'.1 _ (List.getElem_mem (by simpa using h)))
theorem sins_mem (lt : Nat → Nat → Bool) (p : Nat) (l : List Nat) (q : Nat) : q ∈ sins lt p l ↔ q = p ∨ q ∈ l := by
 unfold sins
 rw [List.mem_append, List.mem_cons]
 have h := List.take_append_drop (scut lt p l) l
 have h2 : q ∈ l ↔ q ∈ l.take (scut lt p l) ∨ q ∈ l.drop (scut lt p l) := by rw [← List.mem_append, h]
 rw [h2]
 constructor
 ·rintro (a | a | a)
  ·exact Or.inr (Or.inl a)
  ·exact Or.inl a
  ·exact Or.inr (Or.inr a)
 ·rintro (a | a | a)
  ·exact Or.inr (Or.inl a)
  ·exact Or.inl a
  ·exact Or.inr (Or.inr a)
theorem sins_sort {lt : Nat → Nat → Bool} {n : Nat} (hl : SOrd lt n) (p : Nat) (hp : p < n) (l : List Nat) (hs : yfo lt l) (hq : ∀ q ∈ l, q < n ∧ q ≠ p) : yfo lt (sins lt p l) := by
 have hc := scut_le lt p l
 have hmore : ∀ q ∈ l.drop (scut lt p l), lt p q = true := fun q hq2 => by
  obtain ⟨i, hi, rfl⟩ := List.getElem_of_mem hq2
  rw [List.length_drop] at hi
  rw [List.getElem_drop]
  exact scut_more hl p hp l _ (by omega) hs hq (by omega)
 have hless : ∀ q ∈ l.take (scut lt p l), lt q p = true := fun q hq2 => by
  obtain ⟨i, hi, rfl⟩ := List.getElem_of_mem hq2
  rw [List.length_take] at hi
  rw [List.getElem_take]
  exact scut_less lt p l i (by omega) (by omega)
 unfold sins yfo
 refine List.pairwise_append.2 ⟨List.Pairwise.sublist (List.take_sublist _ _) hs, List.pairwise_cons.2 ⟨hmore, List.Pairwise.sublist (List.drop_sublist _ _) hs⟩, fun a ha b hb => ?_⟩
 rcases List.mem_cons.1 hb with rfl | hb
 ·exact hless a ha
 ·exact hl.tr a p b (hless a ha) (hmore b hb)
theorem yeO (lt : Nat → Nat → Bool) : ∀ k q, q ∈ slay lt k ↔ q < k
 | 0, q => by simp [slay]
 | k + 1, q => by
  show q ∈ sins lt k (slay lt k) ↔ _
  rw [sins_mem, yeO lt k q]
  omega
theorem yeS {lt : Nat → Nat → Bool} {n : Nat} (hl : SOrd lt n) : ∀ k, k ≤ n → yfo lt (slay lt k)
 | 0, _ => List.Pairwise.nil
 | k + 1, hk => sins_sort hl k (by omega) _ (yeS hl k (by omega)) fun q hq => by
  have := (yeO lt k q).1 hq
  omega
theorem ygi (lt : Nat → Nat → Bool) : ∀ k, (slay lt k).length = k
 | 0 => rfl
 | k + 1 => by
  show (sins lt k (slay lt k)).length = k + 1
  have h1 := ygi lt k
  have h2 := scut_le lt k (slay lt k)
  unfold sins
  rw [List.length_append, List.length_cons, List.length_take, List.length_drop]
  omega
theorem slay_unique {lt : Nat → Nat → Bool} {n : Nat} (hl : SOrd lt n) (a : List Nat) (hs : yfo lt a) (hm : ∀ p, p ∈ a ↔ p < n) : a = slay lt n :=
 yfR hl a (slay lt n) hs (yeS hl n (Nat.le_refl _)) fun p => by rw [hm p, yeO]
def slt (s : List UInt8) (p q : Nat) : Bool := Op.bytesLess (s.drop p) (s.drop q)
theorem ycx (s : List UInt8) : SOrd (slt s) (s.length + 1) := by
 refine ⟨fun p => ybO _, fun p q r h1 h2 => slt_trans _ _ _ h1 h2, fun p q hp hq hne => yg9 _ _ fun e => ?_⟩
 have := congrArg List.length e
 rw [List.length_drop, List.length_drop] at this
 omega
def klt (keys : List Int) (p q : Nat) : Bool := decide (keys.getD p 0 < keys.getD q 0) || (decide (keys.getD p 0 = keys.getD q 0) && decide (p < q))
theorem yeq (keys : List Int) (p q : Nat) : klt keys p q = true ↔ keys.getD p 0 < keys.getD q 0 ∨ (keys.getD p 0 = keys.getD q 0 ∧ p < q) := by simp [klt]
theorem yeh (keys : List Int) (n : Nat) : SOrd (klt keys) n := by
 refine ⟨fun p => ?_, fun p q r h1 h2 => ?_, fun p q hp hq hne => ?_⟩
 ·cases h : klt keys p p with
  | false => rfl
  | true => rw [yeq] at h; omega
 ·rw [yeq] at h1 h2 ⊢
  omega
 ·rw [yeq, yeq]
  omega
def splc (l : List Nat) : List Int := l.map fun p : Nat => (p : Int)
theorem yao (l : List Nat) : (splc l).length = l.length := by simp [splc]
theorem yey (l : List Nat) (i : Nat) (h : i < (splc l).length) : (splc l)[i] = ((l[i]'(by rw [yao] at h; exact h) : Nat) : Int) := by simp [splc]
theorem splc_take (l : List Nat) (k : Nat) : (splc l).take k = splc (l.take k) := by simp [splc]
theorem splc_drop (l : List Nat) (k : Nat) : (splc l).drop k = splc (l.drop k) := by simp [splc]
theorem ygl (a b : List Nat) : splc (a ++ b) = splc a ++ splc b := by simp [splc]
def sarr (s : List UInt8) : List Nat := slay (slt s) (s.length + 1)
def saF (s : List UInt8) : List Int × Int := if 20000 < s.length then ([], 3) else (splc (sarr s), 0)
theorem yb4 (s : List UInt8) : (sarr s).length = s.length + 1 := ygi _ _
theorem ybT (s : List UInt8) : yfo (slt s) (sarr s) := yeS (ycx s) _ (Nat.le_refl _)
theorem yd6 (s : List UInt8) (p : Nat) : p ∈ sarr s ↔ p < s.length + 1 := yeO _ _ _
theorem sarr_le (s : List UInt8) (i : Nat) (h : i < (sarr s).length) : (sarr s)[i] ≤ s.length := by
 have := (yd6 s _).1 (List.getElem_mem h)
 omega
theorem yfs (s : List UInt8) : (sarr s).Nodup := ygJ (ycx s) _ (ybT s)
theorem ybn {l : List Nat} (hn : l.Nodup) {i j : Nat} (hi : i < l.length) (hj : j < l.length) (h : l[i] = l[j]) : i = j := by
 have hp := List.pairwise_iff_getElem.1 hn
 rcases Nat.lt_trichotomy i j with h1 | h1 | h1
 ·exact absurd h (hp i j hi hj h1)
 ·exact h1
 ·exact absurd h.symm (hp j i hj hi h1)
theorem sarr_inj (s : List UInt8) (i j : Nat) (hi : i < (sarr s).length) (hj : j < (sarr s).length) (h : (sarr s)[i] = (sarr s)[j]) : i = j := ybn (yfs s) hi hj h
theorem sarr_next (s : List UInt8) (i : Nat) (h : i + 1 < (sarr s).length) : Op.bytesLess (s.drop (sarr s)[i]) (s.drop (sarr s)[i + 1]) = true := ybA (ybT s) i (i + 1) (by omega) h (by omega)
theorem yeA (s : List UInt8) : (sarr s).Perm (List.range (s.length + 1)) := by
 rw [List.perm_iff_count]
 intro p
 rw [(yfs s).count, List.nodup_range.count]
 by_cases h : p < s.length + 1
 ·rw [if_pos ((yd6 s p).2 h), if_pos (List.mem_range.2 h)]
 ·rw [if_neg fun h2 => h ((yd6 s p).1 h2), if_neg fun h2 => h (List.mem_range.1 h2)]
theorem yhr : (Tryz.prog.info? 3).map (fun i => (i.zero, i.size, i.bytes)) = some (some (.int .i64 0), 1, 8) := by kernel_rfl
def bcs (l : List Nat) : List Value := l.map fun d : Nat => Value.int .i64 (d : Int)
theorem ydN (l : List Nat) : (bcs l).length = l.length := by simp [bcs]
theorem bcs_get (l : List Nat) (i : Nat) (h : i < l.length) : (bcs l)[i]? = some (.int .i64 (l[i] : Int)) := by simp [bcs, h]
theorem ybQ (a b : List Nat) : bcs (a ++ b) = bcs a ++ bcs b := by simp [bcs]
theorem bcs_set (A C : List Nat) (b c : Nat) : (bcs (A ++ b :: C)).toArray.setIfInBounds A.length (.int .i64 (c : Int)) = (bcs (A ++ c :: C)).toArray := by
 rw [List.setIfInBounds_toArray]
 congr 1
 simp [bcs]
theorem yf6 (l : List Nat) : ∀ u ∈ bcs l, u.oneCell' = true := by
 intro u hu
 obtain ⟨d, _, rfl⟩ := List.mem_map.1 hu
 rfl
theorem ye3 (n : Nat) (h : n ≤ 17592186044416) (w : World) :
  (Instr.makeSlice 28 (.int .i64 (n : Int)) (.int .i64 (n : Int))).run Tryz.prog w = .ok (.slice (some ⟨w.heap.size, 0, none⟩) n n) (w.alloc (.cells (bcs (List.replicate n 0)).toArray 3)) := by
 have e : madeCells #[.int .i64 0] n = (bcs (List.replicate n 0)).toArray := by
  apply Array.ext'
  simp [madeCells, Nat.mod_one, bcs]
  rw [List.map_const', List.length_range]
 rw [← e]
 exact run_make_row' (P := Tryz.prog) 28 3 (.int .i64 0) 8 Tryz.underlying28 yhr rfl .i64 .i64 n (by omega) (by omega) w
theorem dig_low (k N : Nat) : dig (k + 1) N = N / 2 ^ k % 2 :: dig k N := by
 rw [Nat.add_comm, ycu 1 k]
 rfl
set_option maxRecDepth 100000 in
set_option maxHeartbeats 1000000 in
theorem refDig_in (N W : Nat) (w : World) (hW : W ≤ 32) (hN : N < 9223372036854775808) : Calls Tryz.prog 112 #[.int .i64 N, .int .i64 W] w fun e w' =>
  ∃ h, e = .returned (.tuple #[.slice (some ⟨h, 0, none⟩) W W, .bool ((N : Int) / 2 ^ W == 0)]) ∧ Blk w' h 3 (bcs (dig W N)).toArray ∧ w.heap.size ≤ h ∧ Below w.heap.size w w' := by
 have hmk := ye3 W (by omega) w
 have hWi : (W : Int) ≤ 32 := by omega
 have hN0 : (0 : Int) ≤ N := by omega
 have HN := Lib.hid hN
 clear hN
 go_enter Tryz.func112, Tryz.ntmps112
 go_wp2
 clear hmk
 go_loopw [0, 7] (fun n i wr => ∃ j x : Nat, j ≤ W ∧ i = .int .i64 ((j : Int) - 1) ∧ n = .int .i64 x ∧ Hid (x = N / 2 ^ (W - j)) ∧ Hid (Blk wr w.heap.size 3 (bcs (List.replicate j 0 ++ dig (W - j) N)).toArray) ∧ Hid (Below w.heap.size w wr)) (fun _ i _ => (intOf i + 1).toNat)
 case atStart => exact ⟨W, N, Nat.le_refl _, rfl, rfl, by show N = _; simp, by show Blk _ _ _ _; simpa [dig] using Blk.new w 3 _, by show Below _ _ _; go_grown⟩
 case round =>
  obtain ⟨j, x, hj, rfl, rfl, Hx, HB, Hb⟩ := hrel
  by_cases hlt : 0 < j
  ·obtain ⟨j, rfl⟩ : ∃ i, j = i + 1 := ⟨j - 1, by omega⟩
   have e1 : ((j + 1 : Nat) : Int) - 1 = (j : Int) := by omega
   rw [e1]
   have hb0 := HB.out
   rw [List.replicate_succ', List.append_assoc] at hb0
   have hf : wr.frozen? ⟨w.heap.size, j, none⟩ = false := hb0.frozen _
   have hc : wr.cell? ⟨w.heap.size, j, none⟩ = some (.int .i64 0) := by
    rw [hb0.cell]
    simp [bcs]
   have hnew := hb0.set_ j (.int .i64 ((x % 2 : Nat) : Int))
   rw [show ([0] ++ dig (W - (j + 1)) N : List Nat) = 0 :: dig (W - (j + 1)) N from rfl] at hnew
   have hset := bcs_set (List.replicate j 0) (dig (W - (j + 1)) N) 0 (x % 2)
   rw [List.length_replicate] at hset
   rw [hset] at hnew
   have hglt := hb0.lt
   have hjW : (j : Int) < W := by omega
   have Hnew := Lib.hid hnew
   clear hnew hset hb0 e1
   go_wp2
   go_roundw
   case rel =>
    refine ⟨j, x / 2, by omega, rfl, iv (by have := HN.out; have : N / 2 ^ (W - (j + 1)) ≤ N := Nat.div_le_self _ _; have := Hx.out; unfold wrap64; omega), ?_, ?_, ?_⟩
    ·show x / 2 = N / 2 ^ (W - j)
     rw [Hx.out, show W - j = W - (j + 1) + 1 from by omega, Nat.pow_succ, Nat.div_div_eq_div_mul]
    ·show Blk _ _ _ _
     have h1 := Hnew.out
     rw [Hx.out, ← dig_low, show W - (j + 1) + 1 = W - j from by omega] at h1
     simpa [Hx.out] using h1
    ·show Below _ _ _
     have := Hb.out
     go_grown
   case measure => simp [intOf]
  ·obtain rfl : j = 0 := by omega
   have hx := Hx.out
   have hfin : ((x : Int) == 0) = ((N : Int) / 2 ^ W == 0) := by
    rw [hx, Nat.sub_zero]
    norm_cast
   have Hfin := Lib.hid hfin
   clear hfin hx
   go_wp2
   go_ret2
   refine ⟨w.heap.size, by rw [← Hfin.out]; rfl, ?_, Nat.le_refl _, Hb.out⟩
   have := HB.out
   simpa using this
theorem ydD (n width : Int) (w : World) (h : fits n width) : Calls Tryz.prog 112 #[.int .i64 n, .int .i64 width] w fun e w' =>
  ∃ g, e = .returned (.tuple #[.slice (some ⟨g, 0, none⟩) width.toNat width.toNat, .bool true]) ∧ Blk w' g 3 (bcs (digI n width)).toArray ∧ w.heap.size ≤ g ∧ Below w.heap.size w w' := by
 obtain ⟨h1, h2, h3, h4⟩ := h
 obtain ⟨W, rfl⟩ := Int.eq_ofNat_of_zero_le h1
 obtain ⟨N, rfl⟩ := Int.eq_ofNat_of_zero_le h3
 refine (refDig_in N W w (by omega) (by have h5 : 2 ^ W ≤ 2 ^ 32 := Nat.pow_le_pow_right (by omega) (by omega); rw [show (2 : Nat) ^ 32 = 4294967296 from by decide] at h5; simp only [Int.toNat_natCast] at h4; have h6 : N < 2 ^ W := (by exact_mod_cast h4); omega)).mono ?_
 rintro e w' ⟨g, rfl, hB, hg, hb⟩
 refine ⟨g, ?_, hB, hg, hb⟩
 have hd : (N : Int) / 2 ^ W = 0 := Int.ediv_eq_zero_of_lt h3 (by simpa using h4)
 rw [hd]
 rfl
theorem yeH {w : World} {h : Nat} {t : TypeId} (l : List Value) (hB : Blk w h t l.toArray) (n : Nat) (hn : l.length = n) : Reads w w.heap.size 1 (some ⟨h, 0, none⟩) n l :=
 ⟨by omega, fun _ => ⟨h, 0, rfl, hB.lt, fun j u hu => by rw [Nat.zero_add, hB.cell]; simpa using hu⟩⟩
theorem reads_at {w : World} {B n : Nat} {A : Option Addr} {l : List Nat} (hr : Reads w B 1 A n (bcs l)) (hn : 0 < n) : ∃ b off, A = some ⟨b, off, none⟩ ∧ b < B ∧ ∀ k, (hk : k < l.length) → w.cell? ⟨b, off + k, none⟩ = some (.int .i64 (l[k] : Int)) := by
 obtain ⟨b, off, e, hb, hc⟩ := hr.2 hn
 exact ⟨b, off, e, hb, fun k hk => hc k _ (bcs_get l k hk)⟩
def rng (n : Nat) (f : Nat → Int) : List Int := (List.range n).map f
theorem yce (n : Nat) (f : Nat → Int) : (rng n f).length = n := by simp [rng]
theorem ycJ (n : Nat) (f : Nat → Int) (k : Nat) (h : k < (rng n f).length) : (rng n f)[k] = f k := by simp [rng]
theorem rng_ext {n : Nat} {f g : Nat → Int} (h : ∀ k, k < n → f k = g k) : rng n f = rng n g := by
 unfold rng
 apply List.map_congr_left
 intro k hk
 exact h k (List.mem_range.1 hk)
theorem yhA {n : Nat} {f g : Nat → Int} (k : Nat) (v : Int) (h : ∀ j, j < n → g j = if j = k then v else f j) : (rng n f).set k v = rng n g := by
 apply List.ext_getElem
 ·rw [List.length_set, yce, yce]
 ·intro j h1 h2
  rw [yce] at h2
  rw [List.getElem_set, ycJ, ycJ, h j h2]
  by_cases e : k = j
  ·rw [if_pos e, if_pos e.symm]
  ·rw [if_neg e, if_neg fun h => e h.symm]
theorem rng_zero (n : Nat) : List.replicate n (0 : Int) = rng n fun _ => 0 := by
 apply List.ext_getElem
 ·rw [yce, List.length_replicate]
 ·intro j h1 h2
  rw [ycJ, List.getElem_replicate]
def bcnt (key : Nat → Nat) (row : List Nat) (k : Nat) : Nat := row.countP fun p => decide (key p = k)
def bsum (key : Nat → Nat) (row : List Nat) : Nat → Nat
 | 0 => 0
 | k + 1 => bsum key row k + bcnt key row k
def bk (key : Nat → Nat) (row : List Nat) (k : Nat) : List Nat := row.filter fun p => decide (key p = k)
def bks (key : Nat → Nat) (row : List Nat) : Nat → List Nat
 | 0 => []
 | m + 1 => bks key row m ++ bk key row m
theorem bk_len (key : Nat → Nat) (row : List Nat) (k : Nat) : (bk key row k).length = bcnt key row k := by
 unfold bk bcnt
 rw [List.countP_eq_length_filter]
theorem bks_len (key : Nat → Nat) (row : List Nat) : ∀ m, (bks key row m).length = bsum key row m
 | 0 => rfl
 | m + 1 => by
  show (bks key row m ++ bk key row m).length = bsum key row m + bcnt key row m
  rw [List.length_append, bks_len key row m, bk_len]
theorem bks_mem (key : Nat → Nat) (row : List Nat) (p : Nat) : ∀ m, p ∈ bks key row m ↔ p ∈ row ∧ key p < m
 | 0 => by simp [bks]
 | m + 1 => by
  show p ∈ bks key row m ++ bk key row m ↔ _
  rw [List.mem_append, bks_mem key row p m]
  unfold bk
  rw [List.mem_filter, decide_eq_true_iff]
  constructor
  ·rintro (⟨a, b⟩ | ⟨a, b⟩)
   ·exact ⟨a, by omega⟩
   ·exact ⟨a, by omega⟩
  ·rintro ⟨a, b⟩
   by_cases e : key p = m
   ·exact Or.inr ⟨a, e⟩
   ·exact Or.inl ⟨a, by omega⟩
theorem bks_pair {key : Nat → Nat} {row : List Nat} {R : Nat → Nat → Prop} (h : row.Pairwise R) : ∀ m, (bks key row m).Pairwise fun p q => key p < key q ∨ (key p = key q ∧ R p q)
 | 0 => List.Pairwise.nil
 | m + 1 => by
  show (bks key row m ++ bk key row m).Pairwise _
  refine List.pairwise_append.2 ⟨bks_pair h m, ?_, fun a ha b hb => ?_⟩
  ·have h1 : (bk key row m).Pairwise R := List.Pairwise.sublist List.filter_sublist h
   refine List.Pairwise.imp_of_mem (fun {a b} ha hb hab => Or.inr ⟨?_, hab⟩) h1
   unfold bk at ha hb
   rw [List.mem_filter, decide_eq_true_iff] at ha hb
   rw [ha.2, hb.2]
  ·have h1 := (bks_mem key row a m).1 ha
   unfold bk at hb
   rw [List.mem_filter, decide_eq_true_iff] at hb
   exact Or.inl (by omega)
theorem ycm (key : Nat → Nat) (row : List Nat) (i k : Nat) : bcnt key (row.take i) k ≤ bcnt key row k := by
 unfold bcnt
 exact List.Sublist.countP_le (List.take_sublist _ _)
theorem ybB (key : Nat → Nat) (row : List Nat) (i k : Nat) (hi : i < row.length) : bcnt key (row.take (i + 1)) k = bcnt key (row.take i) k + if key row[i] = k then 1 else 0 := by
 unfold bcnt
 rw [List.take_succ_eq_append_getElem hi, List.countP_append, List.countP_singleton]
 simp
theorem bcnt_room (key : Nat → Nat) (row : List Nat) (i : Nat) (hi : i < row.length) : bcnt key (row.take i) (key row[i]) < bcnt key row (key row[i]) := by
 have h1 := ybB key row i (key row[i]) hi
 have h2 := ycm key row (i + 1) (key row[i])
 rw [if_pos rfl] at h1
 omega
theorem bcnt_le (key : Nat → Nat) (row : List Nat) (k : Nat) : bcnt key row k ≤ row.length := by
 unfold bcnt
 exact List.countP_le_length
theorem bsum_lt (key : Nat → Nat) (row : List Nat) : ∀ m, bsum key row m = row.countP fun p => decide (key p < m)
 | 0 => by
  unfold bsum
  symm
  rw [List.countP_eq_zero]
  intro a _
  simp
 | m + 1 => by
  show bsum key row m + bcnt key row m = _
  rw [bsum_lt key row m]
  unfold bcnt
  induction row with
  | nil => rfl
  | cons a t ih =>
   simp only [List.countP_cons, decide_eq_true_eq]
   split <;> split <;> split <;> omega
theorem bsum_le (key : Nat → Nat) (row : List Nat) (m : Nat) : bsum key row m ≤ row.length := by
 rw [bsum_lt]
 exact List.countP_le_length
theorem ydy (key : Nat → Nat) (row : List Nat) (m : Nat) (h : ∀ p ∈ row, key p < m) : bsum key row m = row.length := by
 rw [bsum_lt, List.countP_eq_length]
 intro a ha
 exact decide_eq_true (h a ha)
theorem bsum_mono (key : Nat → Nat) (row : List Nat) (a b : Nat) (h : a ≤ b) : bsum key row a ≤ bsum key row b := by
 obtain ⟨d, rfl⟩ := Nat.exists_eq_add_of_le h
 induction d with
 | zero => exact Nat.le_refl _
 | succ d ih =>
  have := ih (by omega)
  show bsum key row a ≤ bsum key row (a + d) + bcnt key row (a + d)
  omega
def bmid (key : Nat → Nat) (row : List Nat) (i : Nat) : Nat → List Int
 | 0 => []
 | m + 1 => bmid key row i m ++ (splc (bk key (row.take i) m) ++ List.replicate (bcnt key row m - bcnt key (row.take i) m) 0)
theorem ygn (key : Nat → Nat) (row : List Nat) (i : Nat) : ∀ m, (bmid key row i m).length = bsum key row m
 | 0 => rfl
 | m + 1 => by
  have h := ycm key row i m
  show (bmid key row i m ++ (splc (bk key (row.take i) m) ++ List.replicate (bcnt key row m - bcnt key (row.take i) m) 0)).length = bsum key row m + bcnt key row m
  rw [List.length_append, List.length_append, ygn key row i m, yao, bk_len, List.length_replicate]
  omega
theorem yhz (key : Nat → Nat) (row : List Nat) : ∀ m, bmid key row 0 m = List.replicate (bsum key row m) 0
 | 0 => rfl
 | m + 1 => by
  show bmid key row 0 m ++ (splc (bk key (row.take 0) m) ++ List.replicate (bcnt key row m - bcnt key (row.take 0) m) 0) = List.replicate (bsum key row m + bcnt key row m) 0
  rw [yhz key row m, List.take_zero]
  simp [bk, bcnt, splc, List.replicate_append_replicate]
theorem bmid_all (key : Nat → Nat) (row : List Nat) : ∀ m, bmid key row row.length m = splc (bks key row m)
 | 0 => rfl
 | m + 1 => by
  show bmid key row row.length m ++ (splc (bk key (row.take row.length) m) ++ List.replicate (bcnt key row m - bcnt key (row.take row.length) m) 0) = splc (bks key row m ++ bk key row m)
  rw [bmid_all key row m, List.take_length, Nat.sub_self, List.replicate_zero, List.append_nil, ygl]
theorem bk_step (key : Nat → Nat) (row : List Nat) (i k : Nat) (hi : i < row.length) : bk key (row.take (i + 1)) k = bk key (row.take i) k ++ if key row[i] = k then [row[i]] else [] := by
 unfold bk
 rw [List.take_succ_eq_append_getElem hi, List.filter_append]
 by_cases e : key row[i] = k <;> simp [e]
theorem yhP (key : Nat → Nat) (row : List Nat) (i : Nat) (hi : i < row.length) : ∀ m, key row[i] < m → (bmid key row i m).set (bsum key row (key row[i]) + bcnt key (row.take i) (key row[i])) (row[i] : Nat) = bmid key row (i + 1) m
 | 0, h => absurd h (by omega)
 | m + 1, h => by
  have hr := bcnt_room key row i hi
  have hl := ygn key row i m
  show (bmid key row i m ++ (splc (bk key (row.take i) m) ++ List.replicate (bcnt key row m - bcnt key (row.take i) m) 0)).set _ _ = bmid key row (i + 1) m ++ (splc (bk key (row.take (i + 1)) m) ++ List.replicate (bcnt key row m - bcnt key (row.take (i + 1)) m) 0)
  by_cases e : key row[i] = m
  ·have same : bmid key row (i + 1) m = bmid key row i m := by
    have go : ∀ q, q ≤ m → bmid key row (i + 1) q = bmid key row i q := by
     intro q
     induction q with
     | zero => intro _; rfl
     | succ q ih =>
      intro hq
      show bmid key row (i + 1) q ++ (splc (bk key (row.take (i + 1)) q) ++ List.replicate (bcnt key row q - bcnt key (row.take (i + 1)) q) 0) = bmid key row i q ++ (splc (bk key (row.take i) q) ++ List.replicate (bcnt key row q - bcnt key (row.take i) q) 0)
      rw [ih (by omega), bk_step key row i q hi, ybB key row i q hi, if_neg (by omega), if_neg (by omega), List.append_nil, Nat.add_zero]
    exact go m (Nat.le_refl _)
   rw [same, bk_step key row i m hi, ybB key row i m hi, if_pos e, if_pos e]
   rw [e] at hr ⊢
   have hb := bk_len key (row.take i) m
   rw [List.set_append_right _ _ (by omega), hl, show bsum key row m + bcnt key (row.take i) m - bsum key row m = bcnt key (row.take i) m from by omega, List.set_append_right _ _ (by rw [yao, hb]; exact Nat.le_refl _), yao, hb, Nat.sub_self, show bcnt key row m - bcnt key (row.take i) m = (bcnt key row m - (bcnt key (row.take i) m + 1)) + 1 from by omega, List.replicate_succ, List.set_cons_zero, ygl, List.append_assoc]
   rfl
  ·have hkm : key row[i] < m := by omega
   have h2 := bsum_mono key row (key row[i] + 1) m (by omega)
   have h3 : bsum key row (key row[i] + 1) = bsum key row (key row[i]) + bcnt key row (key row[i]) := rfl
   rw [List.set_append_left _ _ (by omega), yhP key row i hi m hkm, bk_step key row i m hi, ybB key row i m hi, if_neg e, if_neg e, List.append_nil]
   rfl
def bmax (key : Nat → Nat) (row : List Nat) : Nat → Nat
 | 0 => 0
 | i + 1 => max (bmax key row i) (key (row.getD i 0))
theorem bmax_ge (key : Nat → Nat) (row : List Nat) : ∀ i j, j < i → key (row.getD j 0) ≤ bmax key row i
 | 0, j, h => by omega
 | i + 1, j, h => by
  show _ ≤ max (bmax key row i) (key (row.getD i 0))
  by_cases e : j = i
  ·subst e; omega
  ·have := bmax_ge key row i j (by omega)
   omega
theorem bmax_le (key : Nat → Nat) (row : List Nat) (B : Nat) (hB : ∀ p ∈ row, key p ≤ B) : ∀ i, i ≤ row.length → bmax key row i ≤ B
 | 0, _ => Nat.zero_le _
 | i + 1, h => by
  have h1 := bmax_le key row B hB i (by omega)
  have h2 := hB row[i] (List.getElem_mem (by omega))
  show max (bmax key row i) (key (row.getD i 0)) ≤ B
  rw [List.getD_eq_getElem?_getD, List.getElem?_eq_getElem (by omega)]
  simp only [Option.getD_some]
  omega
theorem ygq (key : Nat → Nat) (row : List Nat) : ∀ p ∈ row, key p < bmax key row row.length + 1 := by
 intro p hp
 obtain ⟨i, hi, rfl⟩ := List.getElem_of_mem hp
 have := bmax_ge key row row.length i hi
 rw [List.getD_eq_getElem?_getD, List.getElem?_eq_getElem hi] at this
 simp only [Option.getD_some] at this
 omega
def bn1 (key : Nat → Nat) (row : List Nat) (m i : Nat) : List Int := rng (m + 2) fun j => if j = 0 then 0 else (bcnt key (row.take i) (j - 1) : Nat)
def bn2 (key : Nat → Nat) (row : List Nat) (m k : Nat) : List Int := rng (m + 2) fun j => if j ≤ k then (bsum key row j : Nat) else (bcnt key row (j - 1) : Nat)
def bn3 (key : Nat → Nat) (row : List Nat) (m i : Nat) : List Int := rng (m + 2) fun j => if j ≤ m then (bsum key row j + bcnt key (row.take i) j : Nat) else (bcnt key row (j - 1) : Nat)
theorem bn1_zero (key : Nat → Nat) (row : List Nat) (m : Nat) : bn1 key row m 0 = List.replicate (m + 2) 0 := by
 rw [rng_zero]
 refine rng_ext fun j _ => ?_
 split
 ·rfl
 ·simp [bcnt]
theorem bn1_step (key : Nat → Nat) (row : List Nat) (m i : Nat) (hi : i < row.length) : (bn1 key row m i).set (key row[i] + 1) ((bcnt key (row.take i) (key row[i]) : Nat) + 1 : Int) = bn1 key row m (i + 1) := by
 refine yhA _ _ fun j _ => ?_
 by_cases e : j = key row[i] + 1
 ·subst e
  rw [if_pos rfl, if_neg (by omega), Nat.add_sub_cancel, ybB key row i _ hi, if_pos rfl]
  omega
 ·rw [if_neg e]
  split
  ·rfl
  ·rw [ybB key row i _ hi, if_neg (by omega)]
   omega
theorem bn1_all (key : Nat → Nat) (row : List Nat) (m : Nat) : bn1 key row m row.length = bn2 key row m 0 := by
 refine rng_ext fun j _ => ?_
 rw [List.take_length]
 by_cases e : j = 0
 ·subst e; rfl
 ·rw [if_neg e, if_neg (by omega)]
theorem bn2_step (key : Nat → Nat) (row : List Nat) (m k : Nat) : (bn2 key row m k).set (k + 1) ((bcnt key row k : Nat) + (bsum key row k : Nat) : Int) = bn2 key row m (k + 1) := by
 refine yhA _ _ fun j _ => ?_
 by_cases e : j = k + 1
 ·subst e
  rw [if_pos rfl, if_pos (Nat.le_refl _), show bsum key row (k + 1) = bsum key row k + bcnt key row k from rfl]
  omega
 ·rw [if_neg e]
  by_cases h : j ≤ k
  ·rw [if_pos h, if_pos (by omega)]
  ·rw [if_neg h, if_neg (by omega)]
theorem bn2_all (key : Nat → Nat) (row : List Nat) (m : Nat) : bn2 key row m m = bn3 key row m 0 := by
 refine rng_ext fun j _ => ?_
 split
 ·simp [bcnt]
 ·rfl
theorem bn3_step (key : Nat → Nat) (row : List Nat) (m i : Nat) (hi : i < row.length) (hk : key row[i] ≤ m) : (bn3 key row m i).set (key row[i]) ((bsum key row (key row[i]) + bcnt key (row.take i) (key row[i]) : Nat) + 1 : Int) = bn3 key row m (i + 1) := by
 refine yhA _ _ fun j _ => ?_
 by_cases e : j = key row[i]
 ·subst e
  rw [if_pos rfl, if_pos hk, ybB key row i _ hi, if_pos rfl]
  omega
 ·rw [if_neg e, ybB key row i _ hi, if_neg (show ¬ key row[i] = j from fun h => e h.symm)]
  rfl
theorem bn1_get (key : Nat → Nat) (row : List Nat) (m i k : Nat) (h : k + 1 < (bn1 key row m i).length) : (bn1 key row m i)[k + 1] = (bcnt key (row.take i) k : Nat) :=
 (ycJ _ _ _ h).trans (by rw [if_neg (by omega), Nat.add_sub_cancel])
theorem bn2_get1 (key : Nat → Nat) (row : List Nat) (m k : Nat) (h : k + 1 < (bn2 key row m k).length) : (bn2 key row m k)[k + 1] = (bcnt key row k : Nat) :=
 (ycJ _ _ _ h).trans (by rw [if_neg (by omega), Nat.add_sub_cancel])
theorem bn2_get0 (key : Nat → Nat) (row : List Nat) (m k : Nat) (h : k < (bn2 key row m k).length) : (bn2 key row m k)[k] = (bsum key row k : Nat) :=
 (ycJ _ _ _ h).trans (by rw [if_pos (Nat.le_refl _)])
theorem bn3_get (key : Nat → Nat) (row : List Nat) (m i k : Nat) (hk : k ≤ m) (h : k < (bn3 key row m i).length) : (bn3 key row m i)[k] = (bsum key row k + bcnt key (row.take i) k : Nat) :=
 (ycJ _ _ _ h).trans (by rw [if_pos hk])
theorem bn1_len (key : Nat → Nat) (row : List Nat) (m i : Nat) : (bn1 key row m i).length = m + 2 := yce _ _
theorem bn2_len (key : Nat → Nat) (row : List Nat) (m i : Nat) : (bn2 key row m i).length = m + 2 := yce _ _
theorem bn3_len (key : Nat → Nat) (row : List Nat) (m i : Nat) : (bn3 key row m i).length = m + 2 := yce _ _
theorem bplace_lt (key : Nat → Nat) (row : List Nat) (i : Nat) (hi : i < row.length) : bsum key row (key row[i]) + bcnt key (row.take i) (key row[i]) < row.length := by
 have h1 := bcnt_room key row i hi
 have h2 := bsum_le key row (key row[i] + 1)
 have h3 : bsum key row (key row[i] + 1) = bsum key row (key row[i]) + bcnt key row (key row[i]) := rfl
 omega
theorem bfits_yes (n width : Int) (w : World) (h : fits n width) : Calls Tryz.prog 105 #[.int .i64 n, .int .i64 width] w fun e w' => e = .returned (.bool true) ∧ w = w' := by
 obtain ⟨h1, h2, h3, h4⟩ := h
 obtain ⟨W, rfl⟩ := Int.eq_ofNat_of_zero_le h1
 obtain ⟨N, rfl⟩ := Int.eq_ofNat_of_zero_le h3
 go_enter Tryz.func105, Tryz.ntmps105
 go_wp2
 go_ret
 refine ⟨?_, rfl⟩
 have hd : (N : Int) / 2 ^ W = 0 := Int.ediv_eq_zero_of_lt h3 (by simpa using h4)
 show Ending.returned (.bool ((N : Int) / 2 ^ W == 0)) = _
 rw [hd]
 rfl
theorem ycw (g : Nat) (w : World) : Calls Tryz.prog 90 #[.pointer (some ⟨g, 0, none⟩)] w fun e w' => e = .returned (.pointer (some ⟨g, 0, none⟩)) ∧ w = w' := by
 go_enter Tryz.func90, Tryz.ntmps90
 go_wp2
 go_ret
 exact ⟨rfl, rfl⟩
theorem ybI (s : ByteArray) (w : World) : Calls Tryz.prog 54 #[.string s] w fun e w' => e = .returned (.pointer (some ⟨w.heap.size, 0, none⟩)) ∧ w.alloc (.cells #[.string s, .int .i64 0] 134) = w' := by
 go_enter Tryz.func54, Tryz.ntmps54
 go_wp2
 go_ret
 exact ⟨rfl, rfl⟩
theorem ybV (l : List UInt8) (p : Nat) (g : Nat) (w : World) (hl : l.length ≤ 4611686018427387) (hp : p ≤ 8 * l.length) (hB : Blk w g 134 #[.string ⟨l.toArray⟩, .int .i64 p]) :
  Calls Tryz.prog 91 #[.pointer (some ⟨g, 0, none⟩)] w fun e w' => e = .returned (.int .i64 ((8 * l.length - p : Nat) : Int)) ∧ ∃ k, w.drewN k = w' := by
 obtain ⟨c1, c2, _, _⟩ := hB.two
 go_enter Tryz.func91, Tryz.ntmps91
 go_wp2_with (go_at_call 90; refine (ycw g _).mono ?_; rintro e w1 ⟨rfl, rfl⟩)
 go_quiet (fail)
 go_wp2
 go_ret
 exact ⟨congrArg Ending.returned (iv (by omega)), _, rfl⟩
def WHold (w : World) (B g : Nat) (v : Value) (R : List Nat) : Prop :=
 Blk w g 63 #[v, .int .i64 (fr R)] ∧ w.ownsRow B 5 1 v (text R).length (bc (text R)).toList ∧ Bin R
section
variable {w w' : World} {B g : Nat} {v : Value} {R : List Nat} {S : Nat → Prop}
theorem WHold.touch (h : WHold w B g v R) (ht : Touch w w' S) (hg : ¬ S g) (hv : ∀ k, v.ownBlock = some k → ¬ S k) : WHold w' B g v R := ⟨h.1.touch ht hg, yaz h.2.1 ht hv, h.2.2⟩
theorem WHold.below (h : WHold w B g v R) {C : Nat} (hb : Below C w w') (hC : w.heap.size ≤ C) : WHold w' B g v R := h.touch (yak (S := fun _ => False) hb hC) (fun h => h) (fun _ _ h => h)
end
theorem wtext_any (B g : Nat) (v : Value) (R : List Nat) (w : World) (hH : WHold w B g v R) :
  Calls Tryz.prog 31 #[.pointer (some ⟨g, 0, none⟩)] w fun e w' => e = .returned (.string ⟨(text R).toArray⟩) ∧ w = w' := by
 obtain ⟨A, c, rfl, hc, hr⟩ := yae hH.2.1
 obtain ⟨c1, c2, _, _⟩ := hH.1.two
 have hcv : (convert 36 9 (.slice A (text R).length c)).run Tryz.prog w = .ok (.string ⟨(text R).toArray⟩) w := ycV Tryz.underlying36 Tryz.underlying5 Tryz.underlying9 w A c _ hr
 have hg := hH.1.lt
 clear hH hr hc
 generalize (text R).length = n at *
 generalize (text R).toArray = a at *
 go_enter Tryz.func31, Tryz.ntmps31
 go_wp2
 go_ret
 exact ⟨rfl, rfl⟩
theorem bbyte_info : (Tryz.prog.info? 5).map (fun i => (i.zero, i.size, i.bytes)) = some (some (.int .u8 0), 1, 1) := by kernel_rfl
theorem owns_some {w : World} {base size n : Nat} {e : TypeId} {v : Value} {xs : List Value} (h : w.ownsRow base e size v n xs) (hn : 0 < n) : ∃ g cap, v = .slice (some ⟨g, 0, none⟩) n cap ∧ base ≤ g ∧ n ≤ cap ∧ g < w.heap.size := by
 rcases h.2 with ⟨rfl, h0⟩ | ⟨g, cap, cur, rfl, hb, hheap, hcap, _⟩
 ·omega
 ·refine ⟨g, cap, rfl, hb, hcap, ?_⟩
  rcases Nat.lt_or_ge g w.heap.size with hlt | hge
  ·exact hlt
  ·rw [Array.getElem?_eq_none hge] at hheap; cases hheap
theorem or_u8 (x y f : Nat) (hx : x % 2 ^ f = 0) (hy : y < 2 ^ f) (hxl : x < 256) (hf : f ≤ 8) : bits .or .u8 (x : Int) (y : Int) = ((x + y : Nat) : Int) := by
 have h8 : (2 : Nat) ^ 8 = 256 := by decide
 have hp : 0 < 2 ^ f := Nat.pow_pos (by omega)
 have hs : x + y < 256 := by
  have h1 : x = x / 2 ^ f * 2 ^ f := by have := Nat.div_add_mod x (2 ^ f); rw [hx, Nat.mul_comm] at this; omega
  have h2 : 256 = 2 ^ (8 - f) * 2 ^ f := by rw [← Nat.pow_add, show 8 - f + f = 8 from by omega]
  have h3 : x / 2 ^ f < 2 ^ (8 - f) := by
   rw [Nat.div_lt_iff_lt_mul hp, ← h2]
   exact hxl
  have h4 : (x / 2 ^ f + 1) * 2 ^ f ≤ 2 ^ (8 - f) * 2 ^ f := Nat.mul_le_mul_right _ h3
  rw [Nat.add_mul, ← h2, Nat.one_mul] at h4
  omega
 have h := bits_join .u8 8 (by decide) wraps_u8 f (x : Int) (y : Int) (by omega) (by exact_mod_cast hx) (by omega) (by omega) (by exact_mod_cast hy) (by omega)
 rw [h]
 omega
def WS (g : Nat) (v : Value) : Nat → Prop := fun k => k = g ∨ v.ownBlock = some k
structure PInv (w wr : World) (B g : Nat) (v : Value) (R : List Nat) (W N L : Nat) (v' : Value) : Prop where
 hold : WHold wr B g v' (R ++ dig (W - L) (N / 2 ^ L))
 touch : Touch w wr (WS g v)
 sep : Sep w v v'
 at_ : L = W ∨ L = 0 ∨ fr (R ++ dig (W - L) (N / 2 ^ L)) = 0
theorem fr_app (Q P : List Nat) (h : P.length ≤ fr Q) : fr (Q ++ P) = fr Q - P.length := by
 unfold fr at *
 rw [List.length_append]
 omega
theorem fr_new (Q P : List Nat) (h : fr Q = 0) (h8 : P.length ≤ 8) (h0 : 0 < P.length) : fr (Q ++ P) = 8 - P.length := by
 unfold fr at *
 rw [List.length_append]
 omega
theorem dig_on (R : List Nat) (W N L p : Nat) (hL : L ≤ W) (hp : p ≤ L) : R ++ dig (W - (L - p)) (N / 2 ^ (L - p)) = (R ++ dig (W - L) (N / 2 ^ L)) ++ dig p (N / 2 ^ (L - p)) := by
 rw [List.append_assoc, show W - (L - p) = (W - L) + p from by omega, ycu, Nat.div_div_eq_div_mul, ← Nat.pow_add, show L - p + p = L from by omega]
theorem bc_last (T : List UInt8) (b c : UInt8) : (bc (T ++ [b])).toList.set T.length (.int .u8 (c.toNat : Int)) = (bc (T ++ [c])).toList := by
 simp [bc, List.set_append]
theorem yval (N s p F : Nat) (hN : N < 4294967296) (hF : F ≤ 8) (hp : p ≤ F) (h : F = 8 ∨ N / 2 ^ s < 2 ^ p) : wrap64 ((N : Int) / 2 ^ s * 2 ^ (F - p)) % 256 = ((num (dig p (N / 2 ^ s)) * 2 ^ (F - p) : Nat) : Int) := by
 have e : (N : Int) / 2 ^ s * 2 ^ (F - p) = ((N / 2 ^ s * 2 ^ (F - p) : Nat) : Int) := by norm_cast
 have hle : N / 2 ^ s ≤ N := Nat.div_le_self _ _
 rw [e, ycK]
 generalize N / 2 ^ s = M at *
 have h8 : 2 ^ (F - p) ≤ 2 ^ 8 := Nat.pow_le_pow_right (by omega) (by omega)
 have hb : M * 2 ^ (F - p) ≤ 4294967295 * 2 ^ 8 := Nat.mul_le_mul (by omega) h8
 rw [show (2 : Nat) ^ 8 = 256 from by decide] at hb
 have hw : wrap64 ((M * 2 ^ (F - p) : Nat) : Int) = ((M * 2 ^ (F - p) : Nat) : Int) := by unfold wrap64; omega
 rw [hw]
 have hkey : M * 2 ^ (F - p) % 256 = M % 2 ^ p * 2 ^ (F - p) := by
  rcases h with rfl | h
  ·rw [show 256 = 2 ^ p * 2 ^ (8 - p) from by rw [← Nat.pow_add, show p + (8 - p) = 8 from by omega], Nat.mul_mod_mul_right]
  ·rw [Nat.mod_eq_of_lt h, Nat.mod_eq_of_lt]
   have h1 : M * 2 ^ (F - p) < 2 ^ p * 2 ^ (F - p) := Nat.mul_lt_mul_of_pos_right h (Nat.pow_pos (by omega))
   rw [← Nat.pow_add, show p + (F - p) = F from by omega] at h1
   have h2 : 2 ^ F ≤ 2 ^ 8 := Nat.pow_le_pow_right (by omega) hF
   rw [show (2 : Nat) ^ 8 = 256 from by decide] at h2
   omega
 rw [← hkey]
 generalize M * 2 ^ (F - p) = K
 omega
theorem pstep {w X : World} {B g h cap W N L p F : Nat} {v : Value} {R Q : List Nat} {T : List UInt8} {b : UInt8}
  (hX : Blk X g 63 #[.slice (some ⟨h, 0, none⟩) (T.length + 1) cap, .int .i64 F]) (hown : X.ownsRow B 5 1 (.slice (some ⟨h, 0, none⟩) (T.length + 1) cap) (T.length + 1) (bc (T ++ [b])).toList)
  (ht : Touch w X (WS g v)) (hsep : Sep w v (.slice (some ⟨h, 0, none⟩) (T.length + 1) cap)) (hQ : R ++ dig (W - L) (N / 2 ^ L) = Q) (hbin : Bin Q) (hL : L ≤ W) (hp : p ≤ L) (hpF : p ≤ F) (hF8 : F ≤ 8)
  (htext : text (Q ++ dig p (N / 2 ^ (L - p))) = T ++ [UInt8.ofNat (b.toNat + num (dig p (N / 2 ^ (L - p))) * 2 ^ (F - p))]) (hfr : fr (Q ++ dig p (N / 2 ^ (L - p))) = F - p) (hb : b.toNat % 2 ^ F = 0)
  (hat : L - p = 0 ∨ F - p = 0) (f y : Int) (hf : f = ((F - p : Nat) : Int)) (hy : y = ((num (dig p (N / 2 ^ (L - p))) * 2 ^ (F - p) : Nat) : Int)) :
  PInv w ((X.setCell ⟨g, 1, none⟩ (.int .i64 f)).setCell ⟨h, T.length, none⟩ (.int .u8 (bits .or .u8 (b.toNat : Int) y))).drew B g v R W N (L - p) (.slice (some ⟨h, 0, none⟩) (T.length + 1) cap) := by
 have hne : h ≠ g := fun e => ya7 hown hX (by decide) (by rw [e]; rfl)
 have hd := dig_on R W N L p hL hp
 rw [hQ] at hd
 have hPl : num (dig p (N / 2 ^ (L - p))) < 2 ^ p := by
  have := ydV (ycF p (N / 2 ^ (L - p)))
  rwa [yad] at this
 have hlt : num (dig p (N / 2 ^ (L - p))) * 2 ^ (F - p) < 2 ^ F := by
  have h1 : num (dig p (N / 2 ^ (L - p))) * 2 ^ (F - p) < 2 ^ p * 2 ^ (F - p) := Nat.mul_lt_mul_of_pos_right hPl (Nat.pow_pos (by omega))
  rwa [← Nat.pow_add, show p + (F - p) = F from by omega] at h1
 subst hf
 subst hy
 rw [or_u8 b.toNat _ F hb hlt (u8_lt b) hF8]
 have hs : b.toNat + num (dig p (N / 2 ^ (L - p))) * 2 ^ (F - p) < 256 := by
  have hp' : 0 < 2 ^ F := Nat.pow_pos (by omega)
  have h1 : b.toNat = b.toNat / 2 ^ F * 2 ^ F := by have := Nat.div_add_mod b.toNat (2 ^ F); rw [hb, Nat.mul_comm] at this; omega
  have h2 : 256 = 2 ^ (8 - F) * 2 ^ F := by rw [← Nat.pow_add, show 8 - F + F = 8 from by omega]
  have h3 : b.toNat / 2 ^ F < 2 ^ (8 - F) := by
   rw [Nat.div_lt_iff_lt_mul hp', ← h2]
   exact u8_lt b
  have h4 : (b.toNat / 2 ^ F + 1) * 2 ^ F ≤ 2 ^ (8 - F) * 2 ^ F := Nat.mul_le_mul_right _ h3
  rw [Nat.add_mul, ← h2, Nat.one_mul] at h4
  omega
 have hbn : ((b.toNat + num (dig p (N / 2 ^ (L - p))) * 2 ^ (F - p) : Nat) : Int) = ((UInt8.ofNat (b.toNat + num (dig p (N / 2 ^ (L - p))) * 2 ^ (F - p))).toNat : Int) := by rw [ya0 _ hs]
 rw [hbn]
 have hB1 : Blk (X.setCell ⟨g, 1, none⟩ (.int .i64 ((F - p : Nat) : Int))) g 63 #[.slice (some ⟨h, 0, none⟩) (T.length + 1) cap, .int .i64 ((F - p : Nat) : Int)] := hX.set_ 1 _
 have hO1 : (X.setCell ⟨g, 1, none⟩ (.int .i64 ((F - p : Nat) : Int))).ownsRow B 5 1 (.slice (some ⟨h, 0, none⟩) (T.length + 1) cap) (T.length + 1) (bc (T ++ [b])).toList :=
  yaz hown ((Touch.refl X (fun k => k = g)).set (Or.inl rfl) _) (fun k hk e => by injection hk with hk; simp only at hk; omega)
 have hO2 := (hO1.stored T.length (.int .u8 ((UInt8.ofNat (b.toNat + num (dig p (N / 2 ^ (L - p))) * 2 ^ (F - p))).toNat : Int))).1
 rw [bc_last] at hO2
 refine ⟨⟨?_, ?_, ?_⟩, ?_, hsep, ?_⟩
 ·rw [hd, hfr]
  exact (hB1.far (p := ⟨h, T.length, none⟩) (fun e => hne e.symm) _).drew
 ·rw [hd, htext, List.length_append]
  exact hO2
 ·rw [hd]
  exact hbin.app (ycF _ _)
 ·have h1 := (ht.set (p := ⟨g, 1, none⟩) (Or.inl (Or.inl rfl)) (.int .i64 ((F - p : Nat) : Int)))
  have h2 := h1.set (p := ⟨h, T.length, none⟩) (by
   rcases hsep h rfl with e | e
   ·exact Or.inl (Or.inr e)
   ·exact Or.inr e) (.int .u8 ((UInt8.ofNat (b.toNat + num (dig p (N / 2 ^ (L - p))) * 2 ^ (F - p))).toNat : Int))
  exact h2.drewN 1
 ·rw [hd, hfr]
  rcases hat with e | e
  ·exact Or.inr (Or.inl e)
  ·exact Or.inr (Or.inr e)
set_option maxRecDepth 100000 in
set_option maxHeartbeats 4000000 in
theorem put_yes (B g W N : Nat) (v : Value) (R : List Nat) (w : World) (hW : W ≤ 32) (hN : N < 2 ^ W) (hH : WHold w B g v R) (hB : B ≤ w.heap.size) (hR : R.length ≤ 1099511627776) :
  Calls Tryz.prog 67 #[.pointer (some ⟨g, 0, none⟩), .int .i64 N, .int .i64 W] w fun e w' => e = .returned (.int .i64 0) ∧ ∃ v', WHold w' B g v' (R ++ dig W N) ∧ Touch w w' (WS g v) ∧ Sep w v v' := by
 obtain ⟨i0, hi, hz0, hz1, hz2⟩ := info_parts bbyte_info
 have hfit : fits N W := ⟨by omega, by omega, by omega, by exact_mod_cast hN⟩
 have HI0 : Hid (PInv w w B g v R W N W v) := Lib.hid ⟨by rw [Nat.sub_self]; simpa [dig] using hH, Touch.refl _ _, fun k hk => Or.inl hk, Or.inl rfl⟩
 have HN := Lib.hid hN
 have HR := Lib.hid hR
 have HB := Lib.hid hB
 have Hfit := Lib.hid hfit
 clear hN hH hR hB hfit
 go_enter Tryz.func67, Tryz.ntmps67
 go_wp2_with (go_at_call 105; refine (bfits_yes N W _ Hfit.out).mono ?_; rintro e w1 ⟨rfl, rfl⟩)
 go_loopw [7] (fun i wr => ∃ (L : Nat) (v' : Value), L ≤ W ∧ i = .int .i64 L ∧ Hid (PInv w wr B g v R W N L v')) (fun i _ => (intOf i).toNat)
 case atStart => exact ⟨W, v, Nat.le_refl _, rfl, HI0.out⟩
 case round =>
  obtain ⟨L, v', hL, rfl, HI⟩ := hrel
  by_cases hlt : 0 < L
  ·have hLi : (0 : Int) < L := by omega
   have hL32 : (L : Int) ≤ 32 := by omega
   obtain ⟨c1, c2, z1, z2⟩ := HI.out.hold.1.two
   have hgl := HI.out.hold.1.lt
   generalize hQ : R ++ dig (W - L) (N / 2 ^ L) = Q at *
   have hown := HI.out.hold.2.1
   have hbin := HI.out.hold.2.2
   rw [hQ] at hown hbin
   have Hown := Lib.hid hown
   have Hbin := Lib.hid hbin
   have Hlen : Hid ((text Q).length ≤ 1099511627780) := Lib.hid (by
    have := HR.out
    rw [yaW, ← hQ, List.length_append, yad]
    omega)
   have HQ := Lib.hid hQ
   clear hown hbin hQ
   have HN32 : Hid (N < 4294967296) := Lib.hid (by
    have h1 := HN.out
    have h2 : 2 ^ W ≤ 2 ^ 32 := Nat.pow_le_pow_right (by omega) hW
    rw [show (2 : Nat) ^ 32 = 4294967296 from by decide] at h2
    omega)
   by_cases hf : fr Q = 0
   ·have c2' : wr.cell? ⟨g, 1, none⟩ = some (.int .i64 0) := by rw [c2, hf]; rfl
    have Hf := Lib.hid hf
    clear hf c2
    go_wp2_with (at_builtin; refine yaf _ rfl _ _ 36 rfl B 5 i0 (.int .u8 0) 1 1 Tryz.underlying36 hi hz0 hz1 hz2 rfl (by decide) _ _ _ rfl (Hown.out.alloc _) _ 1 1 _ _ rfl (ya1 wr 5 #[.int .u8 0] 1 1 rfl) ?c1 ?c2 ?c3 ?c4 ?_)
    case c1 =>
     exact rfl
    case c2 => have := Hlen.out; unfold maxLen; omega
    case c3 => have := Hlen.out; omega
    case c4 =>
     have h3 := HB.out
     have h4 := HI.out.touch.size
     simp only [World.size_alloc]
     omega
    intro v2 w2 hown2 hgrow hsep
    obtain ⟨h, cap, rfl, hBh, hcap, hhl⟩ := owns_some hown2 (by omega)
    have hbw := (HI.out.hold.1.alloc (.cells #[.int .u8 0] 5)).grow' hgrow (fun e => ya7 Hown.out HI.out.hold.1 (by decide) e)
    have d1 : ¬ h = g := fun e => ya7 hown2 hbw (by decide) (by rw [e]; rfl)
    have d2 : ¬ g = h := fun e => d1 e.symm
    have hX : Blk ((w2.setCell ⟨g, 0, none⟩ (.slice (some ⟨h, 0, none⟩) ((text Q).length + 1) cap)).setCell ⟨g, 1, none⟩ (.int .i64 8)) g 63 #[.slice (some ⟨h, 0, none⟩) ((text Q).length + 1) cap, .int .i64 ((8 : Nat) : Int)] := (hbw.set_ 0 _).set_ 1 _
    have hownX : ((w2.setCell ⟨g, 0, none⟩ (.slice (some ⟨h, 0, none⟩) ((text Q).length + 1) cap)).setCell ⟨g, 1, none⟩ (.int .i64 8)).ownsRow B 5 1 (.slice (some ⟨h, 0, none⟩) ((text Q).length + 1) cap) ((text Q).length + 1) (bc (text Q ++ [0])).toList := by
     have h1 := yaz hown2 (((Touch.refl w2 (fun k => k = g)).set (p := ⟨g, 0, none⟩) (Or.inl rfl) (.slice (some ⟨h, 0, none⟩) ((text Q).length + 1) cap)).set (p := ⟨g, 1, none⟩) (Or.inl rfl) (.int .i64 8)) (fun k hk e => by injection hk with hk; simp only at hk; omega)
     simpa [bc] using h1
    have htX : Touch w ((w2.setCell ⟨g, 0, none⟩ (.slice (some ⟨h, 0, none⟩) ((text Q).length + 1) cap)).setCell ⟨g, 1, none⟩ (.int .i64 8)) (WS g v) := by
     have h1 := (HI.out.touch.alloc (.cells #[.int .u8 0] 5)).next (yaq hgrow) (fun k hk e => by
      rcases HI.out.sep k e.symm with e | e
      ·exact Or.inr e
      ·omega)
     exact (h1.set (p := ⟨g, 0, none⟩) (Or.inl (Or.inl rfl)) _).set (p := ⟨g, 1, none⟩) (Or.inl (Or.inl rfl)) _
    have hsX : Sep w v (.slice (some ⟨h, 0, none⟩) ((text Q).length + 1) cap) := fun k hk => by
     rcases hsep k hk with e | e
     ·exact HI.out.sep k e
     ·have h1 := HI.out.touch.size
      simp only [World.size_alloc] at e
      exact Or.inr (by omega)
    have c3 : w2.cell? ⟨h, (text Q).length, none⟩ = some (.int .u8 0) := by
     rw [hown2.cellAt _ (by omega), List.getElem?_append_right (by simp [bc])]
     simp [bc]
    have z3 : w2.frozen? ⟨h, (text Q).length, none⟩ = false := hown2.frozenAt _
    have z4 : w2.frozen? ⟨g, 0, none⟩ = false := hbw.frozen _
    have z5 : w2.frozen? ⟨g, 1, none⟩ = false := hbw.frozen _
    have hgl2 := hbw.lt
    have HX := Lib.hid hX
    have hXt := hX.two
    have HXt := Lib.hid hXt
    have HXc := Lib.hid (show _ ∧ _ from ⟨hownX.cellAt (text Q).length (by omega), hownX.frozenAt (text Q).length⟩)
    clear hXt
    have HownX := Lib.hid hownX
    have Hnew := Lib.hid (fun (p : Nat) (h0 : 0 < p) (h8 : p ≤ 8) (hpL : p ≤ L) (hat : L - p = 0 ∨ 8 - p = 0) (f y : Int) (hf : f = ((8 - p : Nat) : Int)) (hy : y = ((num (dig p (N / 2 ^ (L - p))) * 2 ^ (8 - p) : Nat) : Int)) =>
     pstep (w := w) (v := v) (b := 0) hX hownX htX hsX HQ.out Hbin.out hL hpL h8 (by omega)
      (by
       have := text_new Q (dig p (N / 2 ^ (L - p))) Hf.out (by rw [yad]; omega) (by rw [yad]; omega)
       rw [yad] at this
       rw [this, show (0 : UInt8).toNat = 0 from rfl, Nat.zero_add])
      (by rw [fr_new Q _ Hf.out (by rw [yad]; omega) (by rw [yad]; omega), yad]) (by decide) hat f y hf hy)
    have htm : ((text Q).length : Int) ≤ 1099511627780 := by have := Hlen.out; omega
    have hbq := hbw.two
    obtain ⟨q1, q2, _, _⟩ := hbq
    clear hX hownX htX hsX hsep hgrow hown2 hbw c1 c2' z1 z2 hgl
    generalize hTT : text Q = T at *
    have HTT := Lib.hid hTT
    clear hTT
    by_cases hFL : 8 < L
    ·have hL8 : (8 : Int) < L := by omega
     go_wp2
     generalize (w2.setCell ⟨g, 0, none⟩ (.slice (some ⟨h, 0, none⟩) (T.length + 1) cap)).setCell ⟨g, 1, none⟩ (.int .i64 8) = X at *
     obtain ⟨y1, y2, y3, y4⟩ := HXt.out
     obtain ⟨y5, y6⟩ := HXc.out
     replace y2 : X.cell? ⟨g, 1, none⟩ = some (.int .i64 8) := y2
     rw [show ((bc (T ++ [0])).toList[T.length]?) = some (.int .u8 0) from by simp [bc]] at y5
     have hwt : IntKind.i64.wrap (T.length : Int) = T.length := by rw [IntKind.wrap_i64]; omega
     have ht0 : 0 ≤ (T.length : Int) ∧ (T.length : Int) < T.length + 1 := by omega
     refine wp_region_still_tail 23 (by kernel_rfl) (by kernel_rfl) ?_
     simp only [List.take_succ_cons, List.take_zero, List.drop_succ_cons, List.drop_zero]
     change wpStill _ _ (World.drew _) (fun a' => wpList _ _ _ _ a' (World.drew _)) _ _
     repeat still_step
     refine wpStill_nil ?_
     go_wp2
     go_roundw
     case rel => exact ⟨L - 8, _, by omega, iv (by omega), Hnew.out 8 (by omega) (by omega) (by omega) (Or.inr rfl) _ _ rfl (by
      have := yval N (L - 8) 8 8 HN32.out (by omega) (by omega) (Or.inl rfl)
      simpa using this)⟩
     case measure => (simp [intOf]; omega)
    ·have hL8 : ¬ (8 : Int) < L := by omega
     go_wp2
     generalize (w2.setCell ⟨g, 0, none⟩ (.slice (some ⟨h, 0, none⟩) (T.length + 1) cap)).setCell ⟨g, 1, none⟩ (.int .i64 8) = X at *
     obtain ⟨y1, y2, y3, y4⟩ := HXt.out
     obtain ⟨y5, y6⟩ := HXc.out
     replace y2 : X.cell? ⟨g, 1, none⟩ = some (.int .i64 8) := y2
     rw [show ((bc (T ++ [0])).toList[T.length]?) = some (.int .u8 0) from by simp [bc]] at y5
     have hwt : IntKind.i64.wrap (T.length : Int) = T.length := by rw [IntKind.wrap_i64]; omega
     have ht0 : 0 ≤ (T.length : Int) ∧ (T.length : Int) < T.length + 1 := by omega
     refine wp_region_still_tail 23 (by kernel_rfl) (by kernel_rfl) ?_
     simp only [List.take_succ_cons, List.take_zero, List.drop_succ_cons, List.drop_zero]
     change wpStill _ _ (World.drew _) (fun a' => wpList _ _ _ _ a' (World.drew _)) _ _
     repeat still_step
     refine wpStill_nil ?_
     go_wp2
     go_roundw
     case rel => exact ⟨L - L, _, by omega, iv (by omega), Hnew.out L (by omega) (by omega) (by omega) (Or.inl (Nat.sub_self L)) _ _ (by omega) (by
      have := yval N (L - L) L 8 HN32.out (by omega) (by omega) (Or.inl rfl)
      simpa using this)⟩
     case measure => (simp [intOf]; omega)
   ·have hF1 : ¬ (fr Q : Int) = 0 := by omega
    have hF8 : (fr Q : Int) < 8 := by have := fr_lt Q; omega
    obtain ⟨h, cap, hv', hBh, hcap, hhl⟩ := owns_some Hown.out (by
     obtain ⟨T, b, e, _⟩ := text_more Q [] (fr Q) rfl (by omega) Hbin.out (by simp)
     rw [e]
     simp)
    subst hv'
    have hLW : L = W := by
     rcases HI.out.at_ with e | e | e
     ·exact e
     ·omega
     ·rw [HQ.out] at e
      exact absurd e hf
    have Hf := Lib.hid hf
    clear hf
    have d1 : ¬ h = g := fun e => ya7 Hown.out HI.out.hold.1 (by decide) (by rw [e]; rfl)
    have d2 : ¬ g = h := fun e => d1 e.symm
    obtain ⟨p, hp⟩ : ∃ p, p = min L (fr Q) := ⟨_, rfl⟩
    obtain ⟨T, b, hT, htx, hbm⟩ := text_more Q (dig p (N / 2 ^ (L - p))) (fr Q) rfl (by have := Hf.out; omega) Hbin.out (by rw [yad]; omega)
    have hfrQ := fr_app Q (dig p (N / 2 ^ (L - p))) (by rw [yad]; omega)
    rw [yad] at htx hfrQ
    have hTl : (text Q).length = T.length + 1 := by rw [hT]; simp
    have c3 : wr.cell? ⟨h, T.length, none⟩ = some (.int .u8 (b.toNat : Int)) := by
     rw [Hown.out.cellAt _ (by omega), hT]
     simp [bc]
    have z3 : wr.frozen? ⟨h, T.length, none⟩ = false := Hown.out.frozenAt _
    have hown3 := Hown.out
    rw [hTl, hT] at hown3
    have hX := HI.out.hold.1
    rw [HQ.out, hTl] at hX
    rw [hTl] at c1
    have hsX := HI.out.sep
    rw [hTl] at hsX
    have hTm : (T.length : Int) ≤ 1099511627780 := by have := Hlen.out; omega
    have hsmall : N / 2 ^ (L - p) < 2 ^ p := by
     rw [Nat.div_lt_iff_lt_mul (Nat.pow_pos (by omega)), ← Nat.pow_add, show p + (L - p) = L from by omega, hLW]
     exact HN.out
    have Hy := Lib.hid (yval N (L - p) p (fr Q) HN32.out (by have := fr_lt Q; omega) (by omega) (Or.inr hsmall))
    have Hstep := Lib.hid (fun (f y : Int) (hf : f = ((fr Q - p : Nat) : Int)) (hy : y = ((num (dig p (N / 2 ^ (L - p))) * 2 ^ (fr Q - p) : Nat) : Int)) =>
     pstep (w := w) (v := v) hX hown3 HI.out.touch hsX HQ.out Hbin.out hL (by omega) (by omega) (by have := fr_lt Q; omega) htx hfrQ hbm (by omega) f y hf hy)
    clear hT hTl hown3 hX hsX hsmall htx hfrQ hbm
    generalize hFF : fr Q = F at *
    have HFF := Lib.hid hFF
    generalize (b.toNat : Int) = bv at *
    clear hFF
    have Hp := Lib.hid hp
    clear hp
    have HLW := Lib.hid hLW
    clear hLW
    by_cases hFL : F < L
    ·obtain rfl : p = F := by have := Hp.out; omega
     go_wp2
     have hwt : IntKind.i64.wrap (T.length : Int) = T.length := by rw [IntKind.wrap_i64]; omega
     have ht0 : 0 ≤ (T.length : Int) ∧ (T.length : Int) < T.length + 1 := by omega
     refine wp_region_still_tail 23 (by kernel_rfl) (by kernel_rfl) ?_
     simp only [List.take_succ_cons, List.take_zero, List.drop_succ_cons, List.drop_zero]
     change wpStill _ _ (World.drew _) (fun a' => wpList _ _ _ _ a' (World.drew _)) _ _
     repeat still_step
     refine wpStill_nil ?_
     go_wp2
     go_roundw
     case rel => exact ⟨L - p, _, by omega, iv (by omega), Hstep.out _ _ (by omega) (by
      have := Hy.out
      simpa using this)⟩
     case measure => (simp [intOf]; have := Hf.out; omega)
    ·obtain rfl : p = L := by have := Hp.out; omega
     go_wp2
     have hwt : IntKind.i64.wrap (T.length : Int) = T.length := by rw [IntKind.wrap_i64]; omega
     have ht0 : 0 ≤ (T.length : Int) ∧ (T.length : Int) < T.length + 1 := by omega
     refine wp_region_still_tail 23 (by kernel_rfl) (by kernel_rfl) ?_
     simp only [List.take_succ_cons, List.take_zero, List.drop_succ_cons, List.drop_zero]
     change wpStill _ _ (World.drew _) (fun a' => wpList _ _ _ _ a' (World.drew _)) _ _
     repeat still_step
     refine wpStill_nil ?_
     go_wp2
     go_roundw
     case rel => exact ⟨p - p, _, by omega, iv (by omega), Hstep.out _ _ (by omega) (by
      have := Hy.out
      simpa using this)⟩
     case measure => (simp [intOf]; omega)
  ·obtain rfl : L = 0 := by omega
   have hend := HI.out
   go_wp2
   go_ret
   refine ⟨rfl, v', ?_, hend.touch, hend.sep⟩
   have h1 := hend.hold
   simpa using h1
end Go.Proofs.YtoinjdmlembgeaaGreat
