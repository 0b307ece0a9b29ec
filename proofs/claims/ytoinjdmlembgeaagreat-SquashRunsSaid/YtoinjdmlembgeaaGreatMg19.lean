/-
 What the law of the last of these texts stands on, part 19.
-/
import Derived.Test.YtoinjdmlembgeaaGreatMg18
namespace Go.Proofs.YtoinjdmlembgeaaGreat
set_option linter.unusedSimpArgs false
set_option linter.unusedVariables false
open Go.ChangeShapes Go.WideShapes Go.ChangeAt Go.RowKit Go.Joins Go.Deep
theorem wpigeon : ∀ (n : Nat) (l : List Nat), l.Nodup → (∀ x ∈ l, x < n) → l.length ≤ n
 | 0, l, _, h => by
  cases l with
  | nil => simp
  | cons a t => exact absurd (h a (List.mem_cons_self ..)) (by omega)
 | n + 1, l, hn, h => by
  have h2 := wpigeon n (l.erase n) (hn.erase n) fun x hx => by
   have h3 := (List.Nodup.mem_erase_iff hn).1 hx
   have := h x h3.2
   have := h3.1
   omega
  have h4 : l.length ≤ (l.erase n).length + 1 := by
   rw [List.length_erase]
   split <;> omega
  omega
theorem wfull {n : Nat} {l : List Nat} (hn : l.Nodup) (h : ∀ x ∈ l, x < n) (hl : l.length = n) : ∀ x, x < n → x ∈ l := fun x hx => by
 by_cases hm : x ∈ l
 ·exact hm
 ·have := wpigeon n (x :: l) (List.nodup_cons.2 ⟨hm, hn⟩) fun y hy => by
   rcases List.mem_cons.1 hy with rfl | hy
   ·exact hx
   ·exact h y hy
  rw [List.length_cons] at this
  omega
theorem wperm {n : Nat} {l : List Nat} (hn : l.Nodup) (h : ∀ x ∈ l, x < n) (hl : l.length = n) : l.Perm (List.range n) := by
 rw [List.perm_iff_count]
 intro p
 rw [hn.count, List.nodup_range.count]
 by_cases hp : p < n
 ·rw [if_pos (wfull hn h hl p hp), if_pos (List.mem_range.2 hp)]
 ·rw [if_neg fun h2 => hp (h p h2), if_neg fun h2 => hp (List.mem_range.1 h2)]
theorem ygF {p q : Nat → Bool} : ∀ (l : List Nat), (∀ k ∈ l, p k = true → q k = true) → ∀ x ∈ l, p x = false → q x = true → l.countP p < l.countP q
 | [], _, x, hx, _, _ => by cases hx
 | a :: t, h, x, hx, h1, h2 => by
  have hle : t.countP p ≤ t.countP q := List.countP_mono_left fun k hk => h k (List.mem_cons_of_mem _ hk)
  rw [List.countP_cons, List.countP_cons]
  rcases List.mem_cons.1 hx with e | hx
  ·subst e
   rw [h1, h2]
   simp
   omega
  ·have ih := ygF t (fun k hk => h k (List.mem_cons_of_mem _ hk)) x hx h1 h2
   have h3 := h a (List.mem_cons_self ..)
   cases ha : p a with
   | false => simp; split <;> omega
   | true => rw [h3 ha]; simp; omega
theorem wcount_below (n a : Nat) (h : a ≤ n) : (List.range n).countP (fun k => decide (k < a)) = a := by
 induction n with
 | zero => simp; omega
 | succ n ih =>
  rw [List.range_succ, List.countP_append, List.countP_singleton]
  by_cases e : a = n + 1
  ·subst e
   rw [if_pos (by simp), List.countP_eq_length.2 fun k hk => by simp at hk; simp; omega, List.length_range]
  ·rw [ih (by omega), if_neg (by simp; omega)]
   rfl
theorem wsort_idx {lt : Nat → Nat → Bool} {n : Nat} (ho : SOrd lt n) {l : List Nat} (h : yfo lt l) (k : Nat) (hk : k < l.length) : l.countP (fun q => lt q l[k]) = k := by
 have e := List.take_append_drop k l
 have e2 : l.countP (fun q => lt q l[k]) = (l.take k ++ l.drop k).countP (fun q => lt q l[k]) := by rw [e]
 rw [e2, List.countP_append, List.countP_eq_length.2 fun q hq => ?_, List.countP_eq_zero.2 fun q hq => ?_, List.length_take]
 ·omega
 ·obtain ⟨j, hj, rfl⟩ := List.getElem_of_mem hq
  rw [List.getElem_drop]
  rw [List.length_drop] at hj
  cases j with
  | zero => simp [ho.irr]
  | succ j =>
   have := ybA h k (k + (j + 1)) hk (by omega) (by omega)
   rw [ho.asym _ _ this]
   simp
 ·obtain ⟨j, hj, rfl⟩ := List.getElem_of_mem hq
  rw [List.length_take] at hj
  rw [List.getElem_take]
  exact ybA h j k (by omega) hk (by omega)
def brk (c : List Int) (i : Nat) : Nat := (List.range c.length).countP fun k => klt c k i
theorem brk_lt (c : List Int) {i j : Nat} (hi : i < c.length) (h : klt c i j = true) : brk c i < brk c j :=
 ygF _ (fun k _ hk => (yeh c c.length).tr k i j hk h) i (List.mem_range.2 hi) ((yeh c c.length).irr i) h
theorem brk_bound (c : List Int) {i : Nat} (hi : i < c.length) : brk c i < c.length := by
 have := ygF (p := fun k => klt c k i) (q := fun _ => true) (List.range c.length) (fun _ _ _ => rfl) i (List.mem_range.2 hi) ((yeh c c.length).irr i) rfl
 rw [List.countP_eq_length.2 fun _ _ => rfl, List.length_range] at this
 exact this
theorem brk_inj (c : List Int) {i j : Nat} (hi : i < c.length) (hj : j < c.length) (h : brk c i = brk c j) : i = j := by
 by_cases e : i = j
 ·exact e
 ·rcases (yeh c c.length).tot i j hi hj e with h1 | h1
  ·have := brk_lt c hi h1
   omega
  ·have := brk_lt c hj h1
   omega
theorem brk_iff (c : List Int) {i j : Nat} (hi : i < c.length) (hj : j < c.length) : brk c i < brk c j ↔ klt c i j = true := by
 constructor
 ·intro h
  by_cases e : i = j
  ·subst e
   omega
  ·rcases (yeh c c.length).tot i j hi hj e with h1 | h1
   ·exact h1
   ·have := brk_lt c hj h1
    omega
 ·exact brk_lt c hi
def bbs (l : List UInt8) : List Int := l.map fun b => (b.toNat : Int)
def bcol (l : List UInt8) (r : Nat) : List Int := bbs (l.take r) ++ -1 :: bbs (l.drop r)
theorem ycI (l : List UInt8) : (bbs l).length = l.length := by simp [bbs]
theorem bbs_inj : ∀ (a b : List UInt8), bbs a = bbs b → a = b
 | [], [], _ => rfl
 | [], _ :: _, h => by cases h
 | _ :: _, [], h => by cases h
 | x :: a, y :: b, h => by
  have h2 := List.cons.inj h
  have h3 : (x.toNat : Int) = (y.toNat : Int) := h2.1
  have h4 : x = y := UInt8.toNat_inj.1 (by omega)
  rw [bbs_inj a b h2.2, h4]
theorem ya3 (l : List UInt8) (r : Nat) (h : r ≤ l.length) : (bcol l r).length = l.length + 1 := by
 unfold bcol
 rw [List.length_append, List.length_cons, ycI, ycI, List.length_take, List.length_drop]
 omega
theorem ygv (l : List UInt8) (r i : Nat) (h : r ≤ l.length) (hi : i < r) : (bcol l r).getD i 0 = ((l.getD i 0).toNat : Int) := by
 unfold bcol
 have h2 : i < (bbs (l.take r)).length := by rw [ycI, List.length_take]; omega
 rw [List.getD_eq_getElem?_getD, List.getElem?_append_left h2, List.getElem?_eq_getElem h2]
 simp [bbs]
 rw [List.getElem?_eq_getElem (by omega)]
 rfl
theorem bcol_at (l : List UInt8) (r : Nat) (h : r ≤ l.length) : (bcol l r).getD r 0 = -1 := by
 unfold bcol
 have h2 : (bbs (l.take r)).length = r := by rw [ycI, List.length_take]; omega
 rw [List.getD_eq_getElem?_getD, List.getElem?_append_right (by omega), h2, Nat.sub_self]
 rfl
theorem yeF (l : List UInt8) (r i : Nat) (h : r ≤ l.length) (hi : r < i) (hi2 : i < l.length + 1) : (bcol l r).getD i 0 = ((l.getD (i - 1) 0).toNat : Int) := by
 unfold bcol
 have h2 : (bbs (l.take r)).length = r := by rw [ycI, List.length_take]; omega
 obtain ⟨j, rfl⟩ : ∃ j, i = r + 1 + j := ⟨i - r - 1, by omega⟩
 rw [List.getD_eq_getElem?_getD, List.getElem?_append_right (by omega), h2, show r + 1 + j - r = j + 1 from by omega, List.getElem?_cons_succ, show r + 1 + j - 1 = r + j from by omega]
 simp [bbs]
 rw [List.getElem?_eq_getElem (by omega)]
 rfl
theorem bcol_ge (l : List UInt8) (r i : Nat) (h : r ≤ l.length) (hi : i < l.length + 1) (hne : i ≠ r) : 0 ≤ (bcol l r).getD i 0 := by
 rcases Nat.lt_or_gt_of_ne hne with h2 | h2
 ·rw [ygv l r i h h2]
  omega
 ·rw [yeF l r i h h2 hi]
  omega
theorem bcol_least (l : List UInt8) (r i : Nat) (h : r ≤ l.length) (hi : i < l.length + 1) (hne : i ≠ r) : klt (bcol l r) r i = true := by
 rw [yeq, bcol_at l r h]
 have := bcol_ge l r i h hi hne
 exact Or.inl (by omega)
theorem yh9 (l : List UInt8) (r : Nat) (h : r ≤ l.length) : brk (bcol l r) r = 0 := by
 unfold brk
 rw [List.countP_eq_zero]
 intro k hk
 rw [List.mem_range, ya3 l r h] at hk
 by_cases e : k = r
 ·rw [e, (yeh _ (l.length + 1)).irr]
  simp
 ·rw [(yeh _ (l.length + 1)).asym _ _ (bcol_least l r k h hk e)]
  simp
def bro (c : List Int) : Nat → Nat
 | 0 => 0
 | k + 1 => brk c (bro c k)
theorem yda (c : List Int) (h : 0 < c.length) : ∀ k, bro c k < c.length
 | 0 => h
 | k + 1 => brk_bound c (yda c h k)
theorem yfd (l : List UInt8) (r : Nat) (h : r ≤ l.length) (hn : ∀ k, k < l.length → bro (bcol l r) k ≠ r) : ∀ i j, i < j → j ≤ l.length → bro (bcol l r) i ≠ bro (bcol l r) j
 | i, 0, hi, _ => by omega
 | 0, j + 1, _, hj => fun e => by
  have e2 : brk (bcol l r) r = brk (bcol l r) (bro (bcol l r) j) := (yh9 l r h).trans e
  have := brk_inj (bcol l r) (by rw [ya3 l r h]; omega) (yda _ (by rw [ya3 l r h]; omega) j) e2
  exact hn j (by omega) this.symm
 | i + 1, j + 1, hi, hj => fun e => by
  have := brk_inj (bcol l r) (yda _ (by rw [ya3 l r h]; omega) i) (yda _ (by rw [ya3 l r h]; omega) j) e
  exact yfd l r h hn i j (by omega) (by omega) this
theorem bro_perm (l : List UInt8) (r : Nat) (h : r ≤ l.length) (hn : ∀ k, k < l.length → bro (bcol l r) k ≠ r) : ((List.range (l.length + 1)).map (bro (bcol l r))).Perm (List.range (l.length + 1)) := by
 refine wperm ?_ ?_ (by rw [List.length_map, List.length_range])
 ·rw [List.nodup_iff_pairwise_ne, List.pairwise_iff_getElem]
  intro i j hi hj hij
  rw [List.length_map, List.length_range] at hj
  rw [List.getElem_map, List.getElem_map, List.getElem_range, List.getElem_range]
  exact yfd l r h hn i j hij (by omega)
 ·intro x hx
  obtain ⟨k, _, rfl⟩ := List.mem_map.1 hx
  have := yda (bcol l r) (by rw [ya3 l r h]; omega) k
  rw [ya3 l r h] at this
  exact this
def yfF (s : List UInt8) (p : Nat) : Option UInt8 := if p = 0 then none else some (s.getD (p - 1) 0)
def yaY (s : List UInt8) : List UInt8 := (sarr s).filterMap (yfF s)
def bpr (s : List UInt8) : Nat := (sarr s).idxOf 0
def bval (s : List UInt8) (p : Nat) : Int := if p = 0 then -1 else ((s.getD (p - 1) 0).toNat : Int)
def sbw (s : List UInt8) : List Int := (sarr s).map (bval s)
theorem wfm (s : List UInt8) : ∀ A : List Nat, 0 ∉ A → A.filterMap (yfF s) = A.map (fun p => s.getD (p - 1) 0)
 | [], _ => rfl
 | p :: A, h => by
  have hp : p ≠ 0 := fun e => h (by rw [e]; exact List.mem_cons_self ..)
  rw [List.filterMap_cons_some (b := s.getD (p - 1) 0) (by unfold yfF; rw [if_neg hp]), List.map_cons, wfm s A fun h2 => h (List.mem_cons_of_mem _ h2)]
theorem wfb (s : List UInt8) : ∀ A : List Nat, 0 ∉ A → bbs (A.map (fun p => s.getD (p - 1) 0)) = A.map (bval s)
 | [], _ => rfl
 | p :: A, h => by
  have hp : p ≠ 0 := fun e => h (by rw [e]; exact List.mem_cons_self ..)
  have ih := wfb s A fun h2 => h (List.mem_cons_of_mem _ h2)
  have hv : bval s p = ((s.getD (p - 1) 0).toNat : Int) := if_neg hp
  rw [List.map_cons, List.map_cons, ← ih, hv]
  rfl
theorem widx : ∀ (A B : List Nat), 0 ∉ A → (A ++ 0 :: B).idxOf 0 = A.length
 | [], B, _ => by simp
 | a :: A, B, h => by
  have ha : a ≠ 0 := fun e => h (by rw [e]; exact List.mem_cons_self ..)
  rw [List.cons_append, List.idxOf_cons, widx A B fun h2 => h (List.mem_cons_of_mem _ h2), show (a == 0) = false from beq_eq_false_iff_ne.2 ha]
  rfl
theorem bsplit (s : List UInt8) : ∃ A B, sarr s = A ++ 0 :: B ∧ 0 ∉ A ∧ 0 ∉ B := by
 obtain ⟨A, B, e⟩ := List.append_of_mem ((yd6 s 0).2 (by omega))
 have hn := yfs s
 rw [e, List.nodup_append] at hn
 refine ⟨A, B, e, fun h => hn.2.2 0 h 0 (List.mem_cons_self ..) rfl, (List.nodup_cons.1 hn.2.1).1⟩
theorem bparts (s : List UInt8) : yaY s = (yaY s).take (bpr s) ++ (yaY s).drop (bpr s) ∧ bpr s ≤ (yaY s).length ∧ (yaY s).length = s.length ∧ bcol (yaY s) (bpr s) = sbw s := by
 obtain ⟨A, B, e, hA, hB⟩ := bsplit s
 have h1 : yaY s = A.map (fun p => s.getD (p - 1) 0) ++ B.map (fun p => s.getD (p - 1) 0) := by
  unfold yaY
  rw [e, List.filterMap_append, List.filterMap_cons_none (by rfl), wfm s A hA, wfm s B hB]
 have h2 : bpr s = A.length := by
  unfold bpr
  rw [e, widx A B hA]
 have h3 := yb4 s
 rw [e, List.length_append, List.length_cons] at h3
 refine ⟨(List.take_append_drop _ _).symm, ?_, ?_, ?_⟩
 ·rw [h1, h2, List.length_append, List.length_map]
  omega
 ·rw [h1, List.length_append, List.length_map, List.length_map]
  omega
 ·unfold bcol sbw
  rw [h1, h2, List.take_left' (by rw [List.length_map]), List.drop_left' (by rw [List.length_map]), wfb s A hA, wfb s B hB, e, List.map_append, List.map_cons]
  rfl
theorem ybb (s : List UInt8) : (yaY s).length = s.length := (bparts s).2.2.1
theorem yfK (s : List UInt8) : bpr s ≤ s.length := by rw [← ybb s]; exact (bparts s).2.1
theorem bcol_sbw (s : List UInt8) : bcol (yaY s) (bpr s) = sbw s := (bparts s).2.2.2
theorem sbw_len (s : List UInt8) : (sbw s).length = s.length + 1 := by unfold sbw; rw [List.length_map, yb4]
theorem sbw_get (s : List UInt8) (i : Nat) (h : i < (sarr s).length) : (sbw s).getD i 0 = bval s (sarr s)[i] := by
 rw [List.getD_eq_getElem?_getD, List.getElem?_eq_getElem (by rw [sbw_len, ← yb4 s]; exact h)]
 simp [sbw]
theorem bpr_get (s : List UInt8) : ∃ h : bpr s < (sarr s).length, (sarr s)[bpr s] = 0 := by
 have h : (sarr s).idxOf 0 < (sarr s).length := List.idxOf_lt_length_of_mem ((yd6 s 0).2 (by omega))
 exact ⟨h, List.getElem_idxOf h⟩
theorem bat (s : List UInt8) (p : Nat) (h : p < s.length + 1) : ∃ k, ∃ hk : k < (sarr s).length, (sarr s)[k] = p := by
 obtain ⟨k, hk, e⟩ := List.getElem_of_mem ((yd6 s p).2 h)
 exact ⟨k, hk, e⟩
theorem sarr_first (s : List UInt8) : ∃ h : 0 < (sarr s).length, (sarr s)[0] = s.length := by
 have hl := yb4 s
 obtain ⟨k, hk, e⟩ := bat s s.length (by omega)
 cases k with
 | zero => exact ⟨hk, e⟩
 | succ k =>
  have := ybA (ybT s) 0 (k + 1) (by omega) hk (by omega)
  rw [e] at this
  unfold slt at this
  rw [List.drop_length, ycz] at this
  cases this
theorem bpr_pos (s : List UInt8) (h : 0 < s.length) : 0 < bpr s := by
 obtain ⟨h1, e1⟩ := bpr_get s
 obtain ⟨h2, e2⟩ := sarr_first s
 refine Nat.pos_of_ne_zero fun e => ?_
 have : (sarr s)[bpr s]'h1 = (sarr s)[0]'h2 := by simp only [e]
 omega
theorem blast_perm (s : List UInt8) : (yaY s).Perm s := by
 have h := (yeA s).filterMap (yfF s)
 have e : (List.range (s.length + 1)).filterMap (yfF s) = s := by
  rw [List.range_succ_eq_map, List.filterMap_cons_none (by rfl), wfm s _ (by simp), List.map_map]
  apply List.ext_getElem
  ·simp
  ·intro i h1 h2
   simp [h2]
 rw [e] at h
 exact h
theorem slt_row (s : List UInt8) (i k : Nat) (hi : i < (sarr s).length) (hk : k < (sarr s).length) : slt s (sarr s)[k] (sarr s)[i] = decide (k < i) := by
 by_cases h : k < i
 ·rw [ybA (ybT s) k i hk hi h, decide_eq_true h]
 ·rw [decide_eq_false h]
  by_cases e : k = i
  ·subst e
   exact (ycx s).irr _
  ·exact (ycx s).asym _ _ (ybA (ybT s) i k hi hk (by omega))
theorem bslt_step (s : List UInt8) (q p : Nat) (hq : q < s.length) (hp : p < s.length) : slt s q p = true ↔ s[q].toNat < s[p].toNat ∨ (s[q] = s[p] ∧ slt s (q + 1) (p + 1) = true) := by
 unfold slt
 rw [List.drop_eq_getElem_cons hq, List.drop_eq_getElem_cons hp]
 exact ydu _ _ _ _
theorem blf (s : List UInt8) (i p : Nat) (hi : i < (sarr s).length) (hp : (sarr s)[i] = p + 1) : ∃ h : brk (sbw s) i < (sarr s).length, (sarr s)[brk (sbw s) i] = p := by
 have hle := sarr_le s i hi
 have hl := yb4 s
 obtain ⟨k, hk, e⟩ := bat s p (by omega)
 have hc := wsort_idx (ycx s) (ybT s) k hk
 rw [e, (yeA s).countP_eq, List.range_succ, List.countP_append, List.countP_singleton] at hc
 have hlast : slt s s.length p = true := by
  unfold slt
  rw [List.drop_length, List.drop_eq_getElem_cons (show p < s.length by omega)]
  rfl
 rw [if_pos hlast] at hc
 have hb : brk (sbw s) i = (sarr s).countP fun q => q == 0 || slt s (q - 1) p := by
  unfold brk
  rw [sbw_len, ← hl]
  have e2 : (sarr s).countP (fun q => q == 0 || slt s (q - 1) p) = ((List.range (sarr s).length).map fun k => (sarr s).getD k 0).countP (fun q => q == 0 || slt s (q - 1) p) := by
   congr 1
   apply List.ext_getElem
   ·simp
   ·intro j h1 h2
    simp [h1]
  rw [e2, List.countP_map]
  refine List.countP_congr fun j hj => ?_
  rw [List.mem_range] at hj
  rw [yeq, sbw_get s j hj, sbw_get s i hi, hp]
  show _ ↔ ((sarr s).getD j 0 == 0 || slt s ((sarr s).getD j 0 - 1) p) = true
  rw [show (sarr s).getD j 0 = (sarr s)[j] from by rw [List.getD_eq_getElem?_getD, List.getElem?_eq_getElem hj]; rfl]
  have hr := slt_row s i j hi hj
  have hle2 := sarr_le s j hj
  have hv : bval s (p + 1) = (s[p].toNat : Int) := by
   unfold bval
   rw [if_neg (by omega), Nat.add_sub_cancel, List.getD_eq_getElem?_getD, List.getElem?_eq_getElem (by omega)]
   rfl
  rw [hv]
  generalize hq : (sarr s)[j] = q at *
  cases q with
  | zero =>
   have : bval s 0 = -1 := rfl
   rw [this]
   simp
   omega
  | succ q =>
   have hv2 : bval s (q + 1) = (s[q].toNat : Int) := by
    unfold bval
    rw [if_neg (by omega), Nat.add_sub_cancel, List.getD_eq_getElem?_getD, List.getElem?_eq_getElem (by omega)]
    rfl
   rw [hv2, hp] at *
   have hs := bslt_step s q p (by omega) (by omega)
   rw [hr] at hs
   rw [Nat.add_sub_cancel, show ((q + 1 == 0) = false) from rfl, Bool.false_or, hs, decide_eq_true_iff]
   constructor
   ·rintro (h | ⟨h, h2⟩)
    ·exact Or.inl (by omega)
    ·exact Or.inr ⟨UInt8.toNat_inj.1 (by omega), h2⟩
   ·rintro (h | ⟨h, h2⟩)
    ·exact Or.inl (by omega)
    ·exact Or.inr ⟨by rw [h], h2⟩
 rw [(yeA s).countP_eq, List.range_succ_eq_map, List.countP_cons, List.countP_map] at hb
 have e3 : brk (sbw s) i = k := by
  rw [hb, ← hc]
  congr 1
 exact ⟨by omega, by simp only [e3]; exact e⟩
theorem bwalk (s : List UInt8) : ∀ k, k ≤ s.length → ∃ h : bro (sbw s) k < (sarr s).length, (sarr s)[bro (sbw s) k] = s.length - k
 | 0, _ => by
  obtain ⟨h, e⟩ := sarr_first s
  exact ⟨h, by show (sarr s)[0] = _; rw [e]; rfl⟩
 | k + 1, hk => by
  obtain ⟨h, e⟩ := bwalk s k (by omega)
  exact blf s _ _ h (by rw [e]; omega)
def row0 : List UInt8 := (List.range 256).map UInt8.ofNat
def mv (R : List UInt8) (k : Nat) : List UInt8 := R.getD k 0 :: (R.take k ++ R.drop (k + 1))
def pl (R : List UInt8) (b : UInt8) : Nat := R.idxOf b
def rowS (R : List UInt8) (s : List UInt8) : List UInt8 := s.foldl (fun R b => mv R (pl R b)) R
def rks : List UInt8 → List UInt8 → List Int
 | _, [] => []
 | R, b :: t => (pl R b : Int) :: rks (mv R (pl R b)) t
def ydr (ks : List Int) : Bool := ks.all fun k => decide (0 ≤ k) && decide (k ≤ 255)
def rowK (R : List UInt8) (ks : List Int) : List UInt8 := ks.foldl (fun R k => mv R k.toNat) R
def bys : List UInt8 → List Int → List UInt8
 | _, [] => []
 | R, k :: t => R.getD k.toNat 0 :: bys (mv R k.toNat) t
def ydh (ks : List Int) : List UInt8 × Int := if ydr ks = true then (bys row0 ks, 0) else ([], 60)
structure Whole (R : List UInt8) : Prop where
 nodup : R.Nodup
 len : R.length = 256
 mem : ∀ b, b ∈ R
theorem row0_get (k : Nat) (h : k < 256) : row0[k]? = some (UInt8.ofNat k) := by simp [row0, h]
theorem ygf : row0.length = 256 := by simp [row0]
theorem row0_lt : row0.Pairwise (fun a b => a.toNat < b.toNat) := by
 unfold row0
 rw [List.pairwise_map]
 refine List.Pairwise.imp_of_mem ?_ List.pairwise_lt_range
 intro a b ha hb h
 rw [List.mem_range] at ha hb
 rw [ya0 _ ha, ya0 _ hb]
 exact h
theorem row0_mem (b : UInt8) : b ∈ row0 := by
 unfold row0
 exact List.mem_map.2 ⟨b.toNat, List.mem_range.2 (u8_lt b), u8_eq (ya0 _ (u8_lt b))⟩
theorem row0_nodup : row0.Nodup := by
 unfold List.Nodup
 exact row0_lt.imp fun h e => by rw [e] at h; omega
theorem row0_whole : Whole row0 := ⟨row0_nodup, ygf, row0_mem⟩
theorem ygy (R : List UInt8) (k : Nat) (h : k < R.length) : R.getD k 0 = R[k] := by rw [List.getD_eq_getElem?_getD, List.getElem?_eq_getElem h]; rfl
theorem parted (R : List UInt8) (k : Nat) (h : k < R.length) : R = R.take k ++ R.getD k 0 :: R.drop (k + 1) := by
 rw [ygy R k h, ← List.drop_eq_getElem_cons h, List.take_append_drop]
theorem mv_perm (R : List UInt8) (k : Nat) (h : k < R.length) : (mv R k).Perm R := by
 conv => rhs; rw [parted R k h]
 unfold mv
 exact List.perm_middle.symm
theorem Whole.mv {R : List UInt8} (h : Whole R) (k : Nat) (hk : k < 256) : Whole (mv R k) := by
 have hp := mv_perm R k (by rw [h.len]; exact hk)
 exact ⟨hp.nodup_iff.2 h.nodup, hp.length_eq.trans h.len, fun b => hp.mem_iff.2 (h.mem b)⟩
theorem pl_lt {R : List UInt8} (h : Whole R) (b : UInt8) : pl R b < 256 := by
 have := List.idxOf_lt_length_of_mem (h.mem b)
 rw [h.len] at this
 exact this
theorem pl_get {R : List UInt8} (h : Whole R) (b : UInt8) : R.getD (pl R b) 0 = b := by
 have := pl_lt h b
 rw [ygy _ _ (by rw [h.len]; exact this)]
 exact List.getElem_idxOf _
theorem Whole.rowS {R : List UInt8} (h : Whole R) : ∀ s, Whole (rowS R s)
 | [] => h
 | b :: t => by
  have := Whole.rowS (h.mv (pl R b) (pl_lt h b)) t
  exact this
theorem rgood_cons (k : Int) (t : List Int) : ydr (k :: t) = true ↔ (0 ≤ k ∧ k ≤ 255) ∧ ydr t = true := by simp [ydr]
theorem Whole.rowK {R : List UInt8} (h : Whole R) : ∀ ks, ydr ks = true → Whole (rowK R ks) := by
 intro ks
 induction ks generalizing R with
 | nil => intro _; exact h
 | cons k t ih =>
  intro hg
  rw [rgood_cons] at hg
  exact ih (h.mv k.toNat (by omega)) hg.2
theorem rowS_snoc (R s : List UInt8) (b : UInt8) : rowS R (s ++ [b]) = mv (rowS R s) (pl (rowS R s) b) := by simp [rowS, List.foldl_append]
theorem rks_snoc (s : List UInt8) (b : UInt8) : ∀ R, rks R (s ++ [b]) = rks R s ++ [(pl (rowS R s) b : Int)] := by
 induction s with
 | nil => intro R; rfl
 | cons c t ih => intro R; show _ :: rks _ (t ++ [b]) = _; rw [ih]; rfl
theorem yhj (s : List UInt8) : ∀ R, (rks R s).length = s.length := by
 induction s with
 | nil => intro R; rfl
 | cons c t ih => intro R; show (rks _ t).length + 1 = _; rw [ih]; rfl
theorem rowK_snoc (R : List UInt8) (ks : List Int) (k : Int) : rowK R (ks ++ [k]) = mv (rowK R ks) k.toNat := by simp [rowK, List.foldl_append]
theorem bys_snoc (ks : List Int) (k : Int) : ∀ R, bys R (ks ++ [k]) = bys R ks ++ [(rowK R ks).getD k.toNat 0] := by
 induction ks with
 | nil => intro R; rfl
 | cons c t ih => intro R; show _ :: bys _ (t ++ [k]) = _; rw [ih]; rfl
theorem ygL (ks : List Int) : ∀ R, (bys R ks).length = ks.length := by
 induction ks with
 | nil => intro R; rfl
 | cons c t ih => intro R; show (bys _ t).length + 1 = _; rw [ih]; rfl
theorem rgood_snoc (ks : List Int) (k : Int) : ydr (ks ++ [k]) = (ydr ks && (decide (0 ≤ k) && decide (k ≤ 255))) := by simp [ydr, List.all_append]
theorem yc0 {α : Type} (l : List α) (k : Nat) (h : k < l.length) : l.take (k + 1) = l.take k ++ [l[k]] := List.take_succ_eq_append_getElem h
theorem rowS_take (R l : List UInt8) (k : Nat) (h : k < l.length) : rowS R (l.take (k + 1)) = mv (rowS R (l.take k)) (pl (rowS R (l.take k)) l[k]) := by rw [yc0 l k h, rowS_snoc]
theorem rks_take (R l : List UInt8) (k : Nat) (h : k < l.length) : rks R (l.take (k + 1)) = rks R (l.take k) ++ [(pl (rowS R (l.take k)) l[k] : Int)] := by rw [yc0 l k h, rks_snoc]
theorem rowK_take (R : List UInt8) (l : List Int) (k : Nat) (h : k < l.length) : rowK R (l.take (k + 1)) = mv (rowK R (l.take k)) l[k].toNat := by rw [yc0 l k h, rowK_snoc]
theorem bys_take (R : List UInt8) (l : List Int) (k : Nat) (h : k < l.length) : bys R (l.take (k + 1)) = bys R (l.take k) ++ [(rowK R (l.take k)).getD l[k].toNat 0] := by rw [yc0 l k h, bys_snoc]
theorem ygM : ∀ (s R : List UInt8), Whole R → bys R (rks R s) = s ∧ ydr (rks R s) = true
 | [], _, _ => ⟨rfl, rfl⟩
 | b :: t, R, h => by
  have hl := pl_lt h b
  obtain ⟨h1, h2⟩ := ygM t (mv R (pl R b)) (h.mv _ hl)
  refine ⟨?_, ?_⟩
  ·show R.getD (pl R b : Int).toNat 0 :: bys (mv R (pl R b : Int).toNat) (rks (mv R (pl R b)) t) = b :: t
   rw [Int.toNat_natCast, h1, pl_get h]
  ·show ydr ((pl R b : Int) :: rks (mv R (pl R b)) t) = true
   rw [rgood_cons]
   exact ⟨by omega, h2⟩
theorem bget_more (L T : List Nat) (to : Nat) (h : (ybv L to 4).2 = 0) : ybv (L ++ T) to 4 = ybv L to 4 ∧ to + 4 ≤ L.length := by
 unfold ybv at h ⊢
 rw [if_neg (by omega)] at h ⊢
 by_cases a : (to : Int) + 4 > L.length
 ·rw [if_pos a] at h; cases h
 ·have a2 : to + 4 ≤ L.length := by omega
  rw [if_neg a, if_neg (by rw [List.length_append]; omega), Int.toNat_natCast, List.drop_append_of_le_length (by omega), List.take_append_of_le_length (by rw [List.length_drop]; show 4 ≤ _; omega)]
  exact ⟨rfl, a2⟩
theorem lz_more : ∀ R T : List Nat, lz R < R.length → lz (R ++ T) = lz R
 | [], _, h => absurd h (by simp)
 | d :: t, T, h => by
  show (if d = 0 then lz (t ++ T) + 1 else 0) = (if d = 0 then lz t + 1 else 0)
  by_cases e : d = 0
  ·have h2 : lz (d :: t) = lz t + 1 := by show (if d = 0 then lz t + 1 else 0) = _; rw [if_pos e]
   rw [if_pos e, if_pos e, lz_more t T (by rw [h2, List.length_cons] at h; omega)]
  ·rw [if_neg e, if_neg e]
theorem ungam_more (R T : List Nat) (h : (ybt R).2.2 = 0) : ybt (R ++ T) = ybt R ∧ (ybt R).2.1 ≤ R.length := by
 have hl := lz_le R
 unfold ybt at h ⊢
 by_cases a1 : lz R = R.length
 ·rw [if_pos a1] at h; cases h
 rw [if_neg a1] at h ⊢
 by_cases a2 : 32 ≤ lz R
 ·rw [if_pos a2] at h; cases h
 rw [if_neg a2] at h ⊢
 by_cases a3 : R.length < 2 * lz R + 1
 ·rw [if_pos a3] at h; cases h
 rw [if_neg a3]
 have e := lz_more R T (by omega)
 rw [e, if_neg (by rw [List.length_append]; omega), if_neg a2, if_neg (by rw [List.length_append]; omega), List.drop_append_of_le_length (by omega), List.take_append_of_le_length (by rw [List.length_drop]; omega)]
 exact ⟨rfl, by show 2 * lz R + 1 ≤ R.length; omega⟩
theorem tget1_more (L T : List Nat) (n : Nat) : ∀ (f to : Nat) (last : Int) (out : List Int), to ≤ L.length → (ycy L n f to last out).2.2 = 0 → ycy (L ++ T) n f to last out = ycy L n f to last out ∧ (ycy L n f to last out).2.1 ≤ L.length
 | 0, to, last, out, hto, h => ⟨rfl, hto⟩
 | f + 1, to, last, out, hto, h => by
  rw [yc3] at h ⊢
  rw [yc3]
  by_cases h1 : n ≤ out.length
  ·rw [if_pos h1, if_pos h1]
   exact ⟨rfl, hto⟩
  rw [if_neg h1] at h ⊢
  rw [if_neg h1]
  by_cases h2 : (ybv L to 4).2 ≠ 0
  ·rw [if_pos h2] at h; exact absurd h h2
  rw [if_neg h2] at h ⊢
  obtain ⟨m1, m2⟩ := bget_more L T to (by omega)
  rw [m1, if_neg h2, List.drop_append_of_le_length m2]
  by_cases h3 : (ybt (L.drop (to + 4))).2.2 ≠ 0
  ·rw [if_pos h3] at h; exact absurd h h3
  rw [if_neg h3] at h ⊢
  obtain ⟨m3, m4⟩ := ungam_more (L.drop (to + 4)) T (by omega)
  rw [m3, if_neg h3]
  by_cases h4 : (ybv L to 4).1 = last
  ·rw [if_pos h4] at h; cases h
  rw [if_neg h4] at h ⊢
  rw [if_neg h4]
  by_cases h5 : (n : Int) - out.length < (ybt (L.drop (to + 4))).1
  ·rw [if_pos h5] at h; cases h
  rw [if_neg h5] at h ⊢
  rw [if_neg h5]
  rw [List.length_drop] at m4
  exact tget1_more L T n f _ _ _ (by omega) h
theorem tgetF_more (L T : List Nat) (p : Nat) (n : Int) (hp : p ≤ L.length) (h : (ybF L p n).2.2 = 0) : ybF (L ++ T) p n = ybF L p n ∧ (ybF L p n).2.1 ≤ L.length ∧ yaw (ybF L p n).1 = 0 := by
 unfold ybF at h ⊢
 by_cases h1 : n < 0 ∨ 257 < n
 ·rw [if_pos h1] at h; cases h
 rw [if_neg h1] at h ⊢
 rw [if_neg h1]
 by_cases h2 : (ycy L n.toNat (n.toNat + 1) p (-1) []).2.2 ≠ 0
 ·rw [if_pos h2] at h; exact absurd h h2
 rw [if_neg h2] at h ⊢
 obtain ⟨m1, m2⟩ := tget1_more L T n.toNat (n.toNat + 1) p (-1) [] hp (by omega)
 rw [m1, if_neg h2]
 by_cases h3 : yaw (ycy L n.toNat (n.toNat + 1) p (-1) []).1 ≠ 0
 ·rw [if_pos h3] at h; exact absurd h h3
 rw [if_neg h3]
 exact ⟨rfl, m2, by show yaw (ycy L n.toNat (n.toNat + 1) p (-1) []).1 = 0; omega⟩
theorem ygQ : ∀ R d : List Nat, (begF R d).2 = true → ∃ T, R = d ++ T
 | R, [], _ => ⟨R, rfl⟩
 | [], _ :: _, h => by cases h
 | a :: t, b :: u, h => by
  have e : begF (a :: t) (b :: u) = if a = b then begF t u else (false, false) := rfl
  rw [e] at h
  by_cases hab : a = b
  ·rw [if_pos hab] at h
   obtain ⟨T, hT⟩ := ygQ t u h
   exact ⟨T, by rw [hab, hT]; rfl⟩
  ·rw [if_neg hab] at h; cases h
theorem yft (R : List Nat) : ∀ (ws : List (Int × Int)) (s : Nat) (E : Int), E ≠ 0 → (ybs ws s R E).2.2 = 0 → ∃ j, ∃ hj : j < ws.length, ws[j].2 ≠ 0 ∧ (∃ T, R = digI ws[j].1 ws[j].2 ++ T)
 | [], s, E, hE, h => absurd h hE
 | f :: t, s, E, hE, h => by
  have e : ybs (f :: t) s R E = if f.2 = 0 then ybs t (s + 1) R E else if (begF R (digI f.1 f.2)).2 = true then ((s : Int), ((digI f.1 f.2).length : Int), 0) else ybs t (s + 1) R (if (begF R (digI f.1 f.2)).1 = true then 4 else E) := rfl
  rw [e] at h
  by_cases h1 : f.2 = 0
  ·rw [if_pos h1] at h
   obtain ⟨j, hj, h2⟩ := yft R t (s + 1) E hE h
   exact ⟨j + 1, by simpa using hj, h2⟩
  ·rw [if_neg h1] at h
   by_cases h2 : (begF R (digI f.1 f.2)).2 = true
   ·exact ⟨0, by simp, h1, ygQ R _ h2⟩
   ·rw [if_neg h2] at h
    obtain ⟨j, hj, h3⟩ := yft R t (s + 1) _ (by split <;> omega) h
    exact ⟨j + 1, by simpa using hj, h3⟩
section
variable {ls : List Nat} {L : List Nat}
theorem cget_more (h15 : ∀ x ∈ ls, x ≤ 15) (hc : call ls ≤ 32768) {T : List Nat} (hb : Bin L) (hbT : Bin T) (p : Nat) (hp : p ≤ L.length) (h : (ybo (wat ls 16 0) L p).2.2 = 0) : ybo (wat ls 16 0) (L ++ T) p = ybo (wat ls 16 0) L p ∧ p + (ybo (wat ls 16 0) L p).2.1.toNat ≤ L.length := by
 unfold ybo at h ⊢
 obtain ⟨k, hk2, h1, T2, h2⟩ := yft (L.drop p) (wat ls 16 0) 0 _ (by split <;> omega) h
 have hk : k < ls.length := by rw [yaF] at hk2; exact hk2
 have hpk : 0 < ls[k] := by
  rcases Nat.eq_zero_or_pos ls[k] with h3 | h3
  ·exact absurd (yd9 h15 k hk hk2 (by omega)) h1
  ·exact h3
 rw [(ycL h15 k hk hk2 hpk).1] at h2
 have hbd : Bin (L.drop p) := fun d hd => hb d (List.mem_of_mem_drop hd)
 have g1 := ygE h15 hc hbd (if p = L.length then 4 else 40) k hk hpk T2 h2
 have g2 := ygE h15 hc (hbd.app hbT) (if p = (L ++ T).length then 4 else 40) k hk hpk (T2 ++ T) (by rw [h2, List.append_assoc])
 rw [List.drop_append_of_le_length hp, g1, g2]
 refine ⟨rfl, ?_⟩
 have := congrArg List.length h2
 rw [List.length_drop, List.length_append, yad] at this
 show p + ((ls[k] : Nat) : Int).toNat ≤ L.length
 omega
theorem cunp_more (h15 : ∀ x ∈ ls, x ≤ 15) (hc : call ls ≤ 32768) {T : List Nat} (hb : Bin L) (hbT : Bin T) : ∀ (i p : Nat) (acc : List Int), p ≤ L.length → (cunp (wat ls 16 0) L i p acc).2.2 = 0 → cunp (wat ls 16 0) (L ++ T) i p acc = cunp (wat ls 16 0) L i p acc ∧ (cunp (wat ls 16 0) L i p acc).2.1 ≤ L.length
 | 0, p, acc, hp, _ => ⟨rfl, hp⟩
 | i + 1, p, acc, hp, h => by
  rw [ydp] at h ⊢
  rw [ydp]
  by_cases h1 : (ybo (wat ls 16 0) L p).2.2 = 0
  ·rw [if_pos h1] at h ⊢
   obtain ⟨g1, g2⟩ := cget_more h15 hc hb hbT p hp h1
   rw [g1, if_pos h1]
   exact cunp_more h15 hc hb hbT i _ _ g2 h
  ·rw [if_neg h1] at h
   exact absurd h h1
end
def yfV (L : List Nat) (p : Nat) : Bool := decide (L.length - p < 8) && decide (lz (L.drop p) = L.length - p)
def hdec2 (L : List Nat) (U : List Int × Nat × Int) : List Int × Int := if U.2.2 ≠ 0 then ([], U.2.2) else if yfV L U.2.1 = true then (U.1, 0) else ([], 6)
def hdec1 (L : List Nat) (n : Nat) (G : List Int × Nat × Int) : List Int × Int := if G.2.2 ≠ 0 then ([], G.2.2) else hdec2 L (cunp (wat (G.1.map Int.toNat) 16 0) L n G.2.1 [])
def ybU (s : List UInt8) (n : Int) : List Int × Int := if n < 0 ∨ 100000 < n then ([], 2) else hdec1 (yag s) n.toNat (ybF (yag s) 0 257)
theorem tgetF_back {l : List Int} (h : yaw l = 0) (L T : List Nat) (hL : L = yav l ++ T) : ybF L 0 (l.length : Int) = (l, (yav l).length, 0) := by
 obtain ⟨hl, hg⟩ := ydt h
 have hr := tget_back L l (fun i hi => yaI hg i hi) hl T (l.length + 1) 0 0 (-1) (Nat.zero_le _) (by omega) (fun hi e => by have := yaI hg 0 hi; omega) (by rw [List.drop_zero, List.drop_zero, hL])
 rw [List.drop_zero, Nat.zero_add, List.take_zero] at hr
 unfold ybF
 rw [if_neg (by omega), Int.toNat_natCast, hr, if_neg (by simp), if_neg (by rw [h]; simp)]
theorem ygZ {l : List Int} (h : l.length ≤ 100000) (hi : hin l = true) (L T : List Nat) (hL2 : L = hB l ++ T) (hb : Bin L) : ybF L 0 257 = (hL l, (yav (hL l)).length, 0) ∧ cunp (hws l) L l.length (yav (hL l)).length [] = (l, (hB l).length, 0) := by
 have hc := ycl h
 obtain ⟨_, hg, hca⟩ := ycp hc
 constructor
 ·have := tgetF_back hc L (ybu (hws l) l ++ T) (by rw [hL2]; unfold hB; rw [List.append_assoc])
  rw [ycn] at this
  exact this
 ·have := cunp_back (cnat15 hg) hca hb l (yav (hL l)).length [] T (hL_word h hi) (by
   rw [hL2]
   unfold hB
   rw [List.append_assoc, List.drop_left' rfl]
   rfl)
  rw [List.nil_append] at this
  unfold hws
  rw [this]
  unfold hB hws
  rw [List.length_append]
theorem hlz_zeros : ∀ n, lz (List.replicate n 0) = n
 | 0 => rfl
 | n + 1 => by
  rw [List.replicate_succ]
  show (if (0 : Nat) = 0 then lz (List.replicate n 0) + 1 else 0) = n + 1
  rw [if_pos rfl, hlz_zeros n]
theorem hrow {l : List Int} (h : l.length ≤ 100000) (B : List UInt8) : yag (text (hB l) ++ B) = hB l ++ (List.replicate (fr (hB l)) 0 ++ yag B) := by rw [row_append, row_text (hB_bin h), List.append_assoc]
theorem hback {l : List Int} (h : l.length ≤ 100000) (hi : hin l = true) : ybU (text (hB l)) (l.length : Int) = (l, 0) := by
 have hr := hrow h []
 rw [List.append_nil] at hr
 have e : yag [] = [] := rfl
 rw [e, List.append_nil] at hr
 obtain ⟨h1, h2⟩ := ygZ h hi _ _ hr (ycX _)
 unfold ybU hdec1
 rw [if_neg (by omega), h1, if_neg (by simp), Int.toNat_natCast]
 show hdec2 _ (cunp (hws l) _ _ _ _) = _
 rw [h2]
 unfold hdec2
 rw [if_neg (by simp), if_pos]
 unfold yfV
 rw [hr, List.drop_left' rfl, hlz_zeros, List.length_append, List.length_replicate]
 have := fr_lt (hB l)
 simp
 omega
theorem tbP_pos : ∀ (t : List Int) (x : Int) (c : Nat), 4 ≤ (tbP x c t).length
 | [], x, c => by
  show 4 ≤ (trb x c).length
  unfold trb digI
  rw [List.length_append, yad]
  exact Nat.le_add_right _ _
 | y :: t, x, c => by
  show 4 ≤ (if y = x then tbP x (c + 1) t else trb x c ++ tbP y 1 t).length
  by_cases e : y = x
  ·rw [if_pos e]; exact tbP_pos t x (c + 1)
  ·rw [if_neg e, List.length_append]
   have := tbP_pos t y 1
   omega
theorem hB_pos (l : List Int) : 4 ≤ (hB l).length := by
 unfold hB
 rw [List.length_append]
 have h1 := ycn l
 generalize hL l = k at *
 cases k with
 | nil => cases h1
 | cons x t =>
  have := tbP_pos t x 1
  show 4 ≤ (tbP x 1 t).length + _
  omega
theorem hcut {l : List Int} (h : l.length ≤ 100000) (hi : hin l = true) (k : Nat) (hk : k + 1 = (text (hB l)).length) : (ybU ((text (hB l)).take k) (l.length : Int)).2 ≠ 0 := by
 intro hz
 have hr := hrow h []
 rw [List.append_nil] at hr
 obtain ⟨h1, h2⟩ := ygZ h hi _ _ hr (ycX _)
 have hsplit : yag (text (hB l)) = yag ((text (hB l)).take k) ++ yag ((text (hB l)).drop k) := by rw [← row_append, List.take_append_drop]
 have hlen : (yag ((text (hB l)).take k)).length = 8 * k := by rw [yay, List.length_take]; omega
 have htl := yaW (hB l)
 have hpos := hB_pos l
 unfold ybU hdec1 at hz
 rw [if_neg (by omega), Int.toNat_natCast] at hz
 have hb1 := ycX ((text (hB l)).take k)
 have hb2 := ycX ((text (hB l)).drop k)
 rw [hsplit] at h1 h2
 generalize yag ((text (hB l)).take k) = R at *
 generalize yag ((text (hB l)).drop k) = T at *
 by_cases g : (ybF R 0 257).2.2 ≠ 0
 ·rw [if_pos g] at hz
  exact g hz
 rw [if_neg g] at hz
 obtain ⟨m1, m2, m3⟩ := tgetF_more R T 0 257 (Nat.zero_le _) (by omega)
 rw [← m1, h1] at hz m2 m3
 dsimp only at hz m2 m3
 unfold hdec2 at hz
 obtain ⟨_, hg, hca⟩ := ycp m3
 by_cases g2 : (cunp (wat ((hL l).map Int.toNat) 16 0) R l.length (yav (hL l)).length []).2.2 ≠ 0
 ·rw [if_pos g2] at hz
  exact g2 hz
 obtain ⟨m4, m5⟩ := cunp_more (cnat15 hg) hca hb1 hb2 l.length (yav (hL l)).length [] m2 (by omega)
 unfold hws at h2
 rw [h2] at m4
 rw [← m4] at m5
 dsimp only at m5
 omega
theorem tfits4 {x : Int} (hx : 0 ≤ x ∧ x ≤ 15) : fits x 4 := ⟨by omega, by omega, hx.1, by show x < 16; omega⟩
theorem tbox_apart {w : World} {B g pb : Nat} {v : Value} {R : List Nat} (hP : Blk w pb 65 #[.pointer (some ⟨g, 0, none⟩)]) (hH : WHold w B g v R) : ¬ WS g v pb := by
 rintro (e | e)
 ·subst e
  have h1 := hH.1
  unfold Blk at h1 hP
  rw [hP] at h1
  injection h1 with h1
  injection h1 with _ h2
  cases h2
 ·exact ya7 hH.2.1 hP (by decide) e
set_option maxRecDepth 100000 in
set_option maxHeartbeats 2000000 in
theorem tput1_any (B g pb : Nat) (v : Value) (R : List Nat) (x : Int) (d : Nat) (w : World) (hx : 0 ≤ x ∧ x ≤ 15) (hd : 1 ≤ d ∧ d ≤ 257) (hP : Blk w pb 65 #[.pointer (some ⟨g, 0, none⟩)]) (hH : WHold w B g v R) (hB : B ≤ w.heap.size) (hR : R.length ≤ 1000100000) :
  Calls Tryz.prog 66 #[.int .i64 x, .int .i64 (d : Int), .pointer (some ⟨pb, 0, none⟩)] w fun e w' => (∃ r, e = .returned r) ∧ ∃ v', WHold w' B g v' (R ++ trb x d) ∧ Touch w w' (WS g v) ∧ Sep w v v' := by
 have hap := tbox_apart hP hH
 have x1 : w.cell? ⟨pb, 0, none⟩ = some (.pointer (some ⟨g, 0, none⟩)) := hP.cell 0
 have hdl : (digI x 4).length = 4 := by unfold digI; rw [yad]; rfl
 have Hput := Lib.hid (bput_is B g x 4 v R w (tfits4 hx) hH hB (by omega))
 have Hgam := Lib.hid fun W v1 hH hB => wgamma_yes B g (d : Int) v1 (R ++ digI x 4) W ⟨by omega, by omega⟩ hH hB (by rw [List.length_append, hdl]; omega)
 have Hnext := Lib.hid fun (w1 : World) (h : Touch w w1 (WS g v)) => (hP.touch h hap).cell 0
 have HB := Lib.hid hB
 have hass : R ++ trb x d = R ++ digI x 4 ++ gam d := by unfold trb; rw [List.append_assoc]
 rw [Int.toNat_natCast] at Hgam
 rw [hass]
 clear hap hdl hass hP hH hB hR hx hd
 generalize R ++ digI x 4 = R1 at *
 generalize R1 ++ gam d = R2 at *
 go_enter Tryz.func66, Tryz.ntmps66
 go_wp2_with (first
  | (go_at_call 67; refine Hput.out.mono ?_; rintro e w1 ⟨rfl, v1, hH1, ht1, hs1⟩; have HH1 := Lib.hid hH1; have Ht1 := Lib.hid ht1; have Hs1 := Lib.hid hs1; have x2 := Hnext.out _ ht1; clear hH1 ht1 hs1)
  | (go_at_call 68; refine (Hgam.out _ _ HH1.out (Nat.le_trans HB.out Ht1.out.size)).mono ?_; rintro e w2 ⟨rfl, v2, hH2, ht2, hs2⟩; have HH2 := Lib.hid hH2; have Ht2 := Lib.hid ht2; have Hs2 := Lib.hid hs2; clear hH2 ht2 hs2))
 go_end0
 exact ⟨⟨_, rfl⟩, v2, HH2.out, touch_ws Ht1.out Ht2.out Hs1.out, Hs1.out.trans Hs2.out Ht1.out.size⟩
theorem tint_info2 : (Tryz.prog.info? 3).map (fun i => (i.zero, i.size, i.bytes)) = some (some (.int .i64 0), 1, 8) := by kernel_rfl
theorem tints_drop (l : List Int) (k : Nat) : (ints l).drop k = ints (l.drop k) := by simp [ints]
def TEach (w : World) (B g : Nat) (v : Value) (R : List Nat) (l : List Int) (i : Nat) (wr : World) : Prop :=
 ∃ R' v', WHold wr B g v' R' ∧ Touch w wr (WS g v) ∧ Sep w v v' ∧ R' ++ yav (l.drop i) = R ++ yav l ∧ R'.length ≤ R.length + 67 * i
section
variable {w wr : World} {B g pb N0 : Nat} {v : Value} {R : List Nat} {l : List Int}
theorem TEach.step (hr : R.length ≤ 1000000000) (hl : l.length ≤ 257) (h15 : ∀ i (h : i < l.length), 0 ≤ l[i] ∧ l[i] ≤ 15) (hB : B ≤ w.heap.size) (hP : Blk w pb 65 #[.pointer (some ⟨g, 0, none⟩)]) (hH : WHold w B g v R)
  (i k : Nat) (h : TEach w B g v R l i wr) (x : Int) (hik : i < k) (hk : k ≤ l.length) (hx : ∀ j (hj : j < l.length), i ≤ j → j < k → l[j] = x) (hs : ∀ hj : k < l.length, l[k] ≠ x) :
  Calls Tryz.prog 66 #[.int .i64 x, .int .i64 ((k - i : Nat) : Int), .pointer (some ⟨pb, 0, none⟩)] wr fun e w' => (∃ r, e = .returned r) ∧ TEach w B g v R l k w' := by
 obtain ⟨R', v', h1, h2, h3, h4, h5⟩ := h
 have hil : i < l.length := by omega
 have hx15 : 0 ≤ x ∧ x ≤ 15 := by have := h15 i hil; rw [hx i hil (Nat.le_refl _) hik] at this; exact this
 refine (tput1_any B g pb v' R' x (k - i) wr hx15 ⟨by omega, by omega⟩ (hP.touch h2 (tbox_apart hP hH)) h1 (Nat.le_trans hB h2.size) (by omega)).mono ?_
 rintro e w' ⟨hr', v2, g1, g2, g3⟩
 refine ⟨hr', R' ++ trb x (k - i), v2, g1, touch_ws h2 g2 h3, h3.trans g3 h2.size, ?_, ?_⟩
 ·rw [← h4, tbits_at l x i k hik hk hx hs, List.append_assoc]
 ·rw [List.length_append]
  have := trb_len x (k - i) (by omega) (by omega)
  omega
end
set_option maxRecDepth 100000 in
set_option maxHeartbeats 4000000 in
theorem teach_any (B N0 g pb : Nat) (v : Value) (R : List Nat) (l : List Int) (A : Option Addr) (n c : Nat) (w : World) (hr : Reads w N0 1 A n (ints l)) (hg : N0 ≤ g ∧ N0 ≤ B) (hl : l.length ≤ 257) (h15 : ∀ i (h : i < l.length), 0 ≤ l[i] ∧ l[i] ≤ 15)
  (hP : Blk w pb 65 #[.pointer (some ⟨g, 0, none⟩)]) (hH : WHold w B g v R) (hB : B ≤ w.heap.size) (hR : R.length ≤ 1000000000) (hc : n ≤ c) :
  Calls Tryz.prog 65 #[.slice A n c, .func (.func 66) #[] #[.pointer (some ⟨pb, 0, none⟩)]] w fun e w' => (∃ r, e = .returned r) ∧ ∃ v', WHold w' B g v' (R ++ yav l) ∧ Touch w w' (WS g v) ∧ Sep w v v' := by
 obtain ⟨i0, hi, hz0, hz1, hz2⟩ := info_parts tint_info2
 have en : l.length = n := by have := hr.1; rw [yab] at this; omega
 have h0 : TEach w B g v R l 0 w := ⟨R, v, hH, Touch.refl _ _, fun k hk => Or.inl hk, rfl, by omega⟩
 have hN0 : N0 ≤ w.heap.size := by have := hH.1.lt; omega
 have Hbelow : Hid (∀ i wr, TEach w B g v R l i wr → Below N0 w wr) := Lib.hid fun i wr h => by
  obtain ⟨R', v', h1, h2, h3, h4, h5⟩ := h
  refine h2.below (fun k _ e => ?_) hN0
  rcases e with e | e
  ·omega
  ·exact Nat.le_trans hg.2 (hH.2.1.lt k e).1
 have Hstep := Lib.hid fun wr i k h x => TEach.step (wr := wr) hR hl h15 hB hP hH i k h x
 have Hend : Hid (∀ wr, TEach w B g v R l n wr → ∃ v', WHold wr B g v' (R ++ yav l) ∧ Touch w wr (WS g v) ∧ Sep w v v') := Lib.hid fun wr h => by
  obtain ⟨R', v', h1, h2, h3, h4, h5⟩ := h
  rw [List.drop_of_length_le (by omega)] at h4
  have e : R' = R ++ yav l := by rw [← h4]; simp [yav]
  subst e
  exact ⟨v', h1, h2, h3⟩
 have En := Lib.hid en
 have Hn : (n : Int) ≤ 257 := by omega
 have H0 := Lib.hid h0
 have Hr0 := Lib.hid hr
 have Hh15 := Lib.hid h15
 clear hr hg hl h15 hP hH hB hR h0 hN0 en
 go_enter Tryz.func65, Tryz.ntmps65
 go_wp2
 go_step3
 go_wp2
 go_step3
 go_wp2
 go_loopw [0] (fun s wr => ∃ (i m ck : Nat) (Ak : Option Addr), i + m = n ∧ s = .slice Ak m ck ∧ m ≤ ck ∧ Hid (Reads w N0 1 Ak m (ints (l.drop i))) ∧ Hid (TEach w B g v R l i wr)) (fun s _ => match s with | .slice _ m _ => m | _ => 0)
 case atStart => exact ⟨0, n, c, A, by omega, rfl, hc, Lib.hid Hr0.out, H0⟩
 case round =>
  obtain ⟨i, m, ck, Ak, hk, rfl, hck, Hr, HI⟩ := hrel
  clear H0 Hr0
  by_cases hlt : 0 < m
  ·have hki : (0 : Int) < (m : Int) := by omega
   have hil : i < l.length := by rw [En.out]; omega
   obtain ⟨x, hx⟩ : ∃ x, l[i] = x := ⟨_, rfl⟩
   obtain ⟨b, off, rfl, hb, hcell⟩ := (Hr.out.below (Hbelow.out i wr HI.out)).2 hlt
   have Hcell : Hid (∀ a (ha : i + a < l.length), a < m → wr.cell? ⟨b, off + a, none⟩ = some (.int .i64 l[i + a])) := Lib.hid fun a ha _ => hcell a _ (by rw [yai _ a (by simp; omega)]; simp)
   have x1 : wr.cell? ⟨b, off, none⟩ = some (.int .i64 x) := by
    have := Hcell.out 0 hil hlt
    rw [Nat.add_zero] at this
    rw [this]
    show some (Value.int .i64 l[i]) = _
    rw [hx]
   have Hx := Lib.hid hx
   clear hcell hx
   go_wp2
   go_loop [0, 11] (fun s j => ∃ a : Nat, a ≤ m ∧ s = .slice (some ⟨b, off, none⟩) m ck ∧ j = .int .i64 a ∧ Hid (∀ j (hj : j < l.length), i ≤ j → j < i + a → l[j] = x)) (fun _ j => m - (intOf j).toNat)
   case atStart => exact ⟨0, by omega, rfl, rfl, Lib.hid fun j hj h1 h2 => by omega⟩
   case round =>
    obtain ⟨a, ha, rfl, rfl, Hg⟩ := hrel
    by_cases hal : a < m
    ·have hai : (0 : Int) ≤ (a : Int) ∧ (a : Int) < m := by omega
     have hkl : i + a < l.length := by rw [En.out]; omega
     have x2 := Hcell.out a hkl hal
     by_cases hy : l[i + a] = x
     ·rw [hy] at x2
      have hb1 : (x == x) = true := by simp
      have Hg2 : Hid (∀ j (hj : j < l.length), i ≤ j → j < i + (a + 1) → l[j] = x) := Lib.hid fun j hj h1 h2 => by
       by_cases e : j = i + a
       ·subst e; exact hy
       ·exact Hg.out j hj h1 (by omega)
      clear hy
      go_wp2
      go_round
      case rel => exact ⟨a + 1, by omega, rfl, iv (by omega), Hg2⟩
      case measure => simp only [intOf]; omega
     ·have ha0 : 0 < a := by
       rcases Nat.eq_zero_or_pos a with h | h
       ·subst h
        exact absurd Hx.out hy
       ·exact h
      have hfrom := fun W => yb5 (P := Tryz.prog) Tryz.underlying28 hi hz1 (some ⟨b, off, none⟩) m ck a (by omega) W
      have hst := Hstep.out wr i (i + a) HI.out x (by omega) (by omega) Hg.out (fun _ => hy)
      rw [Nat.add_sub_cancel_left] at hst
      have Hst := Lib.hid hst
      obtain ⟨y, hye⟩ : ∃ y, l[i + a] = y := ⟨_, rfl⟩
      have hb1 : (y == x) = false := by rw [← hye]; simpa using hy
      rw [hye] at x2
      clear hst hye hy
      go_wp2_with (go_at_call 66; refine Hst.out.mono ?_; rintro e w2 ⟨⟨v2, rfl⟩, hI2⟩; have HI2 := Lib.hid hI2; clear hI2)
      have hcut : Reads w N0 1 (some ⟨b, off + a, none⟩) (m - a) (ints (l.drop (i + a))) := by
       have := Hr.out.cut (k := a) (cap := ck) (by omega) (by omega)
       rw [if_neg (by omega), Nat.mul_one, tints_drop, List.drop_drop, Option.map_some, ydW] at this
       exact this
      refine ⟨⟨i + a, m - a, ck - a, _, by omega, rfl, by omega, Lib.hid hcut, HI2⟩, ?_⟩
      show m - a < m
      omega
    ·obtain rfl : a = m := by omega
     have hst := Hstep.out wr i (i + a) HI.out x (by omega) (by rw [En.out]; omega) Hg.out (fun hj => by rw [En.out] at hj; omega)
     rw [Nat.add_sub_cancel_left, hk] at hst
     have Hst := Lib.hid hst
     clear hst
     go_wp2_with (go_at_call 66; refine Hst.out.mono ?_; rintro e w2 ⟨⟨v2, rfl⟩, hI2⟩; have HI2 := Lib.hid hI2; clear hI2)
     rw [Exit.noGoto_ret]
     refine bodyPost_ret (results_none rfl _ _ _) rfl ?_
     exact ⟨⟨_, rfl⟩, Hend.out _ HI2.out⟩
  ·obtain rfl : m = 0 := by omega
   obtain rfl : i = n := by omega
   go_wp2
   rw [Exit.noGoto_normal]
   go_end0
   exact ⟨⟨_, rfl⟩, Hend.out _ HI.out⟩
end Go.Proofs.YtoinjdmlembgeaaGreat
