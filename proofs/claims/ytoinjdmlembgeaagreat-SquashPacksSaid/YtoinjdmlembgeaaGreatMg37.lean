/-
 What the law of the last of these texts stands on, part 37.
-/
import Derived.Test.YtoinjdmlembgeaaGreatMg27
import Derived.Test.YtoinjdmlembgeaaGreatMg32
import Derived.Test.YtoinjdmlembgeaaGreatMg36
import Derived.Lib.BytesEntry
namespace Go.Proofs.YtoinjdmlembgeaaGreat
set_option linter.unusedSimpArgs false
set_option linter.unusedVariables false
open Go.ChangeShapes Go.WideShapes Go.ChangeAt Go.RowKit Go.Joins Go.Deep
theorem bsF_big {l : List UInt8} {r : Int} (h : 20000 < l.length) : bsF l r = ([], 3) := if_pos h
theorem bsF_bad {l : List UInt8} {r : Int} (h : ¬ 20000 < l.length) (k : bbad l r) : bsF l r = ([], 130) := by unfold bsF; rw [if_neg h, if_pos k]
theorem bsF_yes {l : List UInt8} {r : Nat} (h : ¬ 20000 < l.length) (k : ¬ bbad l (r : Int)) : bsF l (r : Int) = (splc ((List.range (l.length + 1)).map (brk (bcol l r))), 0) := by unfold bsF; rw [if_neg h, if_neg k, Int.toNat_natCast]
def bst (c : List Int) (N i : Nat) : List Int := (List.range N).map fun j => if j < i then ((brk c j : Nat) : Int) else 0
theorem bst_len (c : List Int) (N i : Nat) : (bst c N i).length = N := by simp [bst]
theorem bst_zero (c : List Int) (N : Nat) : bst c N 0 = List.replicate N 0 := by
 unfold bst
 apply List.ext_getElem
 ·simp
 ·intro j h1 h2
  simp
theorem bst_set (c : List Int) (N i : Nat) : (bst c N i).set i ((brk c i : Nat) : Int) = bst c N (i + 1) := by
 apply List.ext_getElem
 ·simp [bst]
 ·intro j h1 h2
  rw [List.getElem_set]
  simp only [bst, List.getElem_map, List.getElem_range]
  by_cases e : i = j
  ·subst e
   rw [if_pos rfl, if_pos (by omega)]
  ·rw [if_neg e]
   by_cases h : j < i
   ·rw [if_pos h, if_pos (by omega)]
   ·rw [if_neg h, if_neg (by omega)]
theorem bst_skip (c : List Int) (N i : Nat) (h : brk c i = 0) : bst c N i = bst c N (i + 1) := by
 apply List.ext_getElem
 ·simp [bst]
 ·intro j h1 h2
  simp only [bst, List.getElem_map, List.getElem_range]
  by_cases e : i = j
  ·subst e
   rw [if_neg (by omega), if_pos (by omega), h]
   rfl
  ·by_cases h : j < i
   ·rw [if_pos h, if_pos (by omega)]
   ·rw [if_neg h, if_neg (by omega)]
theorem bst_all (c : List Int) (N : Nat) : bst c N N = splc ((List.range N).map (brk c)) := by
 apply List.ext_getElem
 ·simp [bst, splc]
 ·intro j h1 h2
  rw [bst_len] at h1
  simp only [bst, splc, List.getElem_map, List.getElem_range]
  rw [if_pos h1]
theorem yfD (l : List UInt8) (r i j : Nat) (b : UInt8) (w : World) (hs : l.length ≤ 1000000) (hj : j < l.length) (hr : r ≤ l.length) (hi : (i < r ∧ i = j) ∨ (r < i ∧ i = j + 1)) (hb : l[j] = b) :
  Calls Tryz.prog 98 #[.string ⟨l.toArray⟩, .int .i64 (r : Int), .int .i64 (i : Int)] w fun e w' => e = .returned (.int .u8 (b.toNat : Int)) ∧ w' = w := by
 have hli : (l.length : Int) ≤ 1000000 := by omega
 have hji : (0 : Int) ≤ (j : Int) ∧ (j : Int) < (l.length : Int) := by omega
 have hb1 : ∀ h, ((⟨l.toArray⟩ : ByteArray)[j]'h) = b := fun _ => hb
 rcases hi with ⟨h1, rfl⟩ | ⟨h1, rfl⟩
 ·have d1 : ¬ (r : Int) < (i : Int) := by omega
  clear hb hj hr
  go_enter Tryz.func98, Tryz.ntmps98
  go_wp2
  go_ret
  exact ⟨rfl, rfl⟩
 ·have d1 : (r : Int) < (j : Int) + 1 := by omega
  clear hb hj hr
  go_enter Tryz.func98, Tryz.ntmps98
  go_wp2
  go_ret
  exact ⟨rfl, rfl⟩
def bck (l : List UInt8) (r : Int) : Int := if 20000 < l.length then 3 else if bbad l r then 130 else 0
theorem yfH (l : List UInt8) (r : Int) (w : World) (hs : l.length ≤ 1000000) :
  Calls Tryz.prog 132 #[.string ⟨l.toArray⟩, .int .i64 r] w fun e w' => e = .returned (.int .i64 (bck l r)) ∧ w' = w := by
 have hli : (l.length : Int) ≤ 1000000 := by omega
 by_cases h : 20000 < l.length
 ·have fin : bck l r = 3 := if_pos h
  rw [fin]
  clear fin
  have d1 : (20000 : Int) < (l.length : Int) := by omega
  go_enter Tryz.func132, Tryz.ntmps132
  go_wp2
  go_ret
  exact ⟨rfl, rfl⟩
 ·have fin0 : bck l r = if bbad l r then 130 else 0 := if_neg h
  have d0 : ¬ (20000 : Int) < (l.length : Int) := by omega
  have hmin : (min 1 (l.length : Int)) = if 0 < l.length then 1 else 0 := by split <;> omega
  by_cases h1 : r < min 1 (l.length : Int)
  ·have fin : bck l r = 130 := fin0.trans (if_pos (by unfold bbad; split at hmin <;> omega))
   rw [fin]
   clear fin fin0 hmin
   go_enter Tryz.func132, Tryz.ntmps132
   go_wp2 <;> (go_ret; exact ⟨rfl, rfl⟩)
  ·by_cases h2 : (l.length : Int) < r
   ·have fin : bck l r = 130 := fin0.trans (if_pos (by unfold bbad; split at hmin <;> omega))
    rw [fin]
    clear fin fin0 hmin
    go_enter Tryz.func132, Tryz.ntmps132
    go_wp2 <;> (go_ret; exact ⟨rfl, rfl⟩)
   ·have fin : bck l r = 0 := fin0.trans (if_neg (by unfold bbad; split at hmin <;> omega))
    rw [fin]
    clear fin fin0 hmin
    go_enter Tryz.func132, Tryz.ntmps132
    go_wp2 <;> (go_ret; exact ⟨rfl, rfl⟩)
theorem wcount_or {p q : Nat → Bool} : ∀ l : List Nat, (∀ k ∈ l, ¬ (p k = true ∧ q k = true)) → l.countP (fun k => p k || q k) = l.countP p + l.countP q
 | [], _ => rfl
 | a :: l, h => by
  have ih := wcount_or l fun k hk => h k (List.mem_cons_of_mem _ hk)
  have ha := h a (List.mem_cons_self ..)
  rw [List.countP_cons, List.countP_cons, List.countP_cons, ih]
  cases h1 : p a <;> cases h2 : q a <;> simp_all <;> omega
theorem yg7 (c : List Int) (f : Int → Bool) : (List.range c.length).countP (fun j => f (c.getD j 0)) = c.countP f := by
 have e : (List.range c.length).map (fun j => c.getD j 0) = c := by
  apply List.ext_getElem
  ·simp
  ·intro i h1 h2
   simp [h2]
 have h := List.countP_map (p := f) (f := fun j => c.getD j 0) (l := List.range c.length)
 rw [e] at h
 exact h.symm
theorem wcount_take (c : List Int) (f : Int → Bool) (k : Nat) (hk : k ≤ c.length) : (List.range c.length).countP (fun j => f (c.getD j 0) && decide (j < k)) = (c.take k).countP f := by
 have e : List.range c.length = List.range k ++ (List.range (c.length - k)).map (k + ·) := by
  rw [← List.range_add]
  congr 1
  omega
 rw [e, List.countP_append]
 have h2 : ((List.range (c.length - k)).map (k + ·)).countP (fun j => f (c.getD j 0) && decide (j < k)) = 0 := by
  rw [List.countP_eq_zero]
  intro j hj
  obtain ⟨i, _, rfl⟩ := List.mem_map.1 hj
  simp
 rw [h2, Nat.add_zero]
 have h3 : (List.range k).countP (fun j => f (c.getD j 0) && decide (j < k)) = (List.range k).countP (fun j => f ((c.take k).getD j 0)) := by
  refine List.countP_congr fun j hj => ?_
  rw [List.mem_range] at hj
  have : (c.take k).getD j 0 = c.getD j 0 := by
   rw [List.getD_eq_getElem?_getD, List.getD_eq_getElem?_getD, List.getElem?_take, if_pos hj]
  rw [this, decide_eq_true hj, Bool.and_true]
 have hl : (c.take k).length = k := by rw [List.length_take]; omega
 rw [h3]
 have := yg7 (c.take k) f
 rw [hl] at this
 exact this
theorem ydf (l : List UInt8) (f : Int → Bool) : (bbs l).countP f = l.countP fun b => f (b.toNat : Int) := by
 unfold bbs
 rw [List.countP_map]
 rfl
theorem bbs_take (l : List UInt8) (k : Nat) : (bbs l).take k = bbs (l.take k) := by simp [bbs]
def yaV (l : List UInt8) (b : Nat) : Nat := l.countP fun x => decide (x.toNat < b)
def ycf (l : List UInt8) (b i : Nat) : Nat := (l.take i).countP fun x => decide (x.toNat = b)
theorem brk_is (l : List UInt8) (r k i : Nat) (h : r ≤ l.length) (hk : k < l.length + 1) (hi : i < l.length) (hki : (k < r ∧ i = k) ∨ (r < k ∧ i + 1 = k)) : brk (bcol l r) k = yaV l l[i].toNat + ycf l l[i].toNat i + 1 := by
 have hc := ya3 l r h
 have hv : (bcol l r).getD k 0 = (l[i].toNat : Int) := by
  rcases hki with ⟨h1, rfl⟩ | ⟨h1, h2⟩
  ·rw [ygv l r i h h1, List.getD_eq_getElem?_getD, List.getElem?_eq_getElem hi]
   rfl
  ·rw [yeF l r k h h1 hk, List.getD_eq_getElem?_getD, show k - 1 = i from by omega, List.getElem?_eq_getElem hi]
   rfl
 generalize hb : l[i].toNat = b at *
 have h1 : brk (bcol l r) k = (List.range (bcol l r).length).countP (fun j => decide ((bcol l r).getD j 0 < (b : Int)) || (decide ((bcol l r).getD j 0 = (b : Int)) && decide (j < k))) := by
  unfold brk klt
  rw [hv]
 rw [h1, wcount_or _ fun j _ hj => by
  have e1 := of_decide_eq_true hj.1
  have e2 := of_decide_eq_true (Bool.and_eq_true_iff.1 hj.2).1
  omega]
 rw [yg7 (bcol l r) (fun x => decide (x < (b : Int))), wcount_take (bcol l r) (fun x => decide (x = (b : Int))) k (by omega)]
 have h2 : (bcol l r).countP (fun x => decide (x < (b : Int))) = yaV l b + 1 := by
  unfold bcol yaV
  rw [List.countP_append, List.countP_cons, ydf, ydf, if_pos (by rw [decide_eq_true_iff]; omega)]
  have := List.countP_append (p := fun x : UInt8 => decide ((x.toNat : Int) < (b : Int))) (l₁ := l.take r) (l₂ := l.drop r)
  rw [List.take_append_drop] at this
  have e : l.countP (fun x => decide ((x.toNat : Int) < (b : Int))) = l.countP (fun x => decide (x.toNat < b)) := List.countP_congr fun x _ => by rw [decide_eq_true_iff, decide_eq_true_iff]; omega
  omega
 have h3 : ((bcol l r).take k).countP (fun x => decide (x = (b : Int))) = ycf l b i := by
  have e : ∀ m : List UInt8, m.countP (fun x => decide ((x.toNat : Int) = (b : Int))) = m.countP (fun x => decide (x.toNat = b)) := fun m => List.countP_congr fun x _ => by rw [decide_eq_true_iff, decide_eq_true_iff]; omega
  unfold bcol ycf
  rcases hki with ⟨h4, rfl⟩ | ⟨h4, h5⟩
  ·rw [List.take_append_of_le_length (by rw [ycI, List.length_take]; omega), bbs_take, ydf, e, List.take_take, Nat.min_eq_left (by omega)]
  ·have h6 : (bbs (l.take r)).length = r := by rw [ycI, List.length_take]; omega
   obtain ⟨m, hm⟩ : ∃ m, k - r = m + 1 := ⟨k - r - 1, by omega⟩
   rw [List.take_append, h6, hm, List.take_of_length_le (by omega), List.take_succ_cons, List.countP_append, List.countP_cons, if_neg (by rw [decide_eq_true_iff]; omega), bbs_take, ydf, ydf, e, e, Nat.add_zero]
   have e2 : l.take i = l.take r ++ (l.drop r).take m := by
    rw [← List.take_add]
    congr 1
    omega
   rw [e2, List.countP_append]
 omega
def bbw (l : List UInt8) (k : Nat) : List Int := (List.range 256).map fun b => if b < k then ((yaV l b : Nat) : Int) else ((ycf l b l.length : Nat) : Int)
theorem bbw_len (l : List UInt8) (k : Nat) : (bbw l k).length = 256 := by simp [bbw]
theorem bbw_zero (l : List UInt8) : bcv l l.length = bbw l 0 := rfl
theorem bbw_set (l : List UInt8) (k : Nat) : (bbw l k).set k ((yaV l k : Nat) : Int) = bbw l (k + 1) := by
 apply List.ext_getElem
 ·rw [List.length_set, bbw_len, bbw_len]
 ·intro i h1 h2
  simp only [bbw, List.getElem_set, List.getElem_map, List.getElem_range]
  by_cases e : k = i
  ·subst e
   rw [if_pos rfl, if_pos (by omega)]
  ·rw [if_neg e]
   by_cases h : i < k
   ·rw [if_pos h, if_pos (by omega)]
   ·rw [if_neg h, if_neg (by omega)]
theorem bcv_at (l : List UInt8) (k : Nat) (h : k < 256) : (ints (bcv l l.length))[k]? = some (.int .i64 ((ycf l k l.length : Nat) : Int)) := by
 rw [yai _ k (by rw [yht]; exact h), bcv_get]
 rfl
theorem bbw_at (l : List UInt8) (k : Nat) (h : k < 256) : (ints (bbw l k))[k]? = some (.int .i64 ((ycf l k l.length : Nat) : Int)) := by
 rw [yai _ k (by rw [bbw_len]; exact h)]
 simp [bbw]
theorem bbelow_zero (l : List UInt8) : yaV l 0 = 0 := by
 unfold yaV
 rw [List.countP_eq_zero]
 intro x _
 simp
theorem bbelow_succ (l : List UInt8) (k : Nat) : yaV l (k + 1) = yaV l k + ycf l k l.length := by
 unfold yaV ycf
 rw [List.take_length]
 induction l with
 | nil => rfl
 | cons a l ih =>
  rw [List.countP_cons, List.countP_cons, List.countP_cons, ih]
  simp only [decide_eq_true_iff]
  split <;> split <;> split <;> omega
theorem yhJ (l : List UInt8) (k : Nat) : yaV l k ≤ l.length := List.countP_le_length
theorem bsame_le (l : List UInt8) (b k : Nat) : ycf l b k ≤ l.length := bcv_le l k b
set_option maxRecDepth 100000 in
set_option maxHeartbeats 2000000 in
theorem p_below_any (l : List UInt8) (w : World) (hs : l.length ≤ 1000000) : Calls Tryz.prog 152 #[.string ⟨l.toArray⟩] w fun e w' => e = .returned (.agg (ints (bbw l 256)).toArray) ∧ Below w.heap.size w w' := by
 have hz := zero_ints256.1
 rw [← bcv_zero l] at hz
 have Hset : Hid (∀ k (hk : k < l.length), ∃ (x : Nat) (b : UInt8) (c : Nat), l[k] = b ∧ b.toNat = x ∧ x < 256 ∧ c ≤ 1000000 ∧ (ints (bcv l k))[x]? = some (.int .i64 (c : Int)) ∧ (ints (bcv l k)).set x (.int .i64 ((c : Int) + 1)) = ints (bcv l (k + 1))) := Lib.hid fun k hk => by
  have hlt := l[k].toNat_lt
  have hbl : l[k].toNat < (bcv l k).length := by rw [yht]; exact hlt
  refine ⟨l[k].toNat, l[k], _, rfl, rfl, hlt, Nat.le_trans (bcv_le l k l[k].toNat) hs, ?_, ?_⟩
  ·rw [yai _ _ hbl, bcv_get]
  ·rw [← bcv_set l k hk]
   simp [ints, List.map_set]
 have Hset2 : Hid (∀ k, k < 256 → ∃ (x c y : Nat), yaV l k = x ∧ yaV l (k + 1) = y ∧ y = x + c ∧ x ≤ 1000000 ∧ c ≤ 1000000 ∧ (ints (bcv l l.length))[k]? = some (.int .i64 (c : Int)) ∧ (ints (bbw l k))[k]? = some (.int .i64 (c : Int)) ∧ (ints (bbw l k)).set k (.int .i64 (x : Int)) = ints (bbw l (k + 1))) := Lib.hid fun k hk =>
  ⟨_, _, _, rfl, rfl, bbelow_succ l k, Nat.le_trans (yhJ l k) hs, Nat.le_trans (bsame_le l k _) hs, bcv_at l k hk, bbw_at l k hk, by rw [← bbw_set l k]; simp [ints, List.map_set]⟩
 have Hlen : Hid (∀ k, (ints (bcv l k)).length = 256) := Lib.hid fun k => by rw [yab, yht]
 have Hlen2 : Hid (∀ k, (ints (bbw l k)).length = 256) := Lib.hid fun k => by rw [yab, bbw_len]
 have Hone : Hid ((ints (bbw l 256)).toArray.all (·.oneCell') = true) := Lib.hid (ints_one13 _)
 have Hinfo := Lib.hid zero_ints256.2
 have Hb0 := Lib.hid (bbelow_zero l)
 rw [bbw_zero l] at Hset2
 generalize hf : (fun k => ints (bcv l k)) = f at *
 have hf' : ∀ k, ints (bcv l k) = f k := fun k => by rw [← hf]
 generalize hf2 : (fun k => ints (bbw l k)) = f2 at *
 have hf2' : ∀ k, ints (bbw l k) = f2 k := fun k => by rw [← hf2]
 have HM : Hid (f l.length = f2 0) := Lib.hid (by rw [← hf2', ← bbw_zero l, ← hf'])
 simp only [hf', hf2'] at *
 clear hf' hf hf2' hf2
 generalize hZ : f 0 = Z at *
 have HZ := Lib.hid hZ
 clear hZ
 generalize hD : f2 256 = D at *
 have HD := Lib.hid hD
 clear hD
 generalize hE : f2 0 = E at *
 have HE := Lib.hid hE
 clear hE
 have hli : (l.length : Int) ≤ 1000000 := by omega
 go_enter Tryz.func152, Tryz.ntmps152
 go_wp2
 go_loopw [10] (fun i wr => ∃ k : Nat, k ≤ l.length ∧ i = .int .i64 k ∧ Hid (wr = (w.alloc (.cells Z.toArray 189)).alloc (.cells (f k).toArray 189))) (fun i _ => l.length - (intOf i).toNat)
 case atStart => exact ⟨0, by omega, rfl, Lib.hid (by rw [HZ.out])⟩
 case round =>
  obtain ⟨k, hk, rfl, Hw⟩ := hrel
  obtain rfl := Hw.out
  by_cases hlt : k < l.length
  ·have hki : (0 : Int) ≤ (k : Int) ∧ (k : Int) < (l.length : Int) := by omega
   obtain ⟨x, b, c, e1, e2, hx, hc, hv, hs2⟩ := Hset.out k hlt
   have b1 : ∀ h, ((⟨l.toArray⟩ : ByteArray)[k]'h) = b := fun _ => e1
   have b2 : (b.toNat : Int) = (x : Int) := by omega
   have Hs := Lib.hid hs2
   have hci : (0 : Int) ≤ (c : Int) ∧ (c : Int) ≤ 1000000 ∧ (0 : Int) ≤ (x : Int) ∧ (x : Int) < 256 := by omega
   clear e1 e2 hs2 hlt Hw hx hc
   go_wp2
   go_roundw
   case rel => exact ⟨k + 1, by omega, iv (by omega), Lib.hid (by rw [← Hs.out])⟩
   case measure => simp only [intOf]; omega
  ·obtain rfl : k = l.length := by omega
   have hl0 := Hlen2.out 0
   rw [HE.out] at hl0
   have hi : (Tryz.prog.info? 189).map (·.size) = some E.length := by rw [hl0]; exact Hinfo.out
   have Hhi := Lib.hid hi
   have Hl0 := Lib.hid hl0
   have hli2 : ¬ ((l.length : Nat) : Int) < (l.length : Int) := by omega
   rw [HM.out]
   clear Hw hlt hi hl0 Hset HM
   go_wp2_with (first
    | (refine wpList_load_mid rfl 189 _ rfl _ 0 rfl E _ (ygH _ _ _ _) Tryz.underlying189 rfl Hhi.out ?_))
   go_loopw [5, 22] (fun t i wr => ∃ (k x : Nat), k ≤ 256 ∧ i = .int .i64 k ∧ t = .int .i64 (x : Int) ∧ Hid (yaV l k = x) ∧ Hid (wr = (w.alloc (.cells Z.toArray 189)).alloc (.cells (f2 k).toArray 189))) (fun _ i _ => 256 - (intOf i).toNat)
   case atStart => exact ⟨0, 0, by omega, rfl, rfl, Hb0, Lib.hid (by rw [HE.out])⟩
   case round =>
    obtain ⟨k, x, hk, rfl, rfl, Hx, Hw⟩ := hrel
    obtain rfl := Hw.out
    by_cases hlt : k < 256
    ·have hki : (0 : Int) ≤ (k : Int) ∧ (k : Int) < 256 := by omega
     obtain ⟨x2, c, y, e1, e2, e3, hx, hc, hv, hv2, hs2⟩ := Hset2.out k hlt
     obtain rfl : x = x2 := by rw [← e1]; exact Hx.out.symm
     have hxi : (0 : Int) ≤ (x : Int) ∧ (x : Int) ≤ 1000000 ∧ (0 : Int) ≤ (c : Int) ∧ (c : Int) ≤ 1000000 := by omega
     have Hs := Lib.hid hs2
     have Hy : Hid (yaV l (k + 1) = y ∧ y = x + c) := Lib.hid ⟨e2, e3⟩
     have hix := fun W => ycY (P := Tryz.prog) W 189 3 256 Tryz.underlying189 Tryz.underlying3 Tryz.sizeOf3 E k hlt (c : Int) hv
     clear e1 e2 e3 hs2 hlt Hw hx hc Hx hk
     go_wp2
     go_roundw
     case rel => exact ⟨k + 1, y, by omega, iv (by omega), iv (by have := Hy.out.2; omega), Lib.hid Hy.out.1, Lib.hid (by rw [← Hs.out])⟩
     case measure => simp only [intOf]; omega
    ·obtain rfl : k = 256 := by omega
     have h1 := Hlen2.out 256
     have hz0 := Hlen.out 0
     have ho := Hone.out
     rw [HZ.out] at hz0
     rw [HD.out] at h1 ⊢
     have hi : (Tryz.prog.info? 189).map (·.size) = some D.length := by rw [h1]; exact Hinfo.out
     clear Hw hlt Hhi
     have Hhi := Lib.hid hi
     have Hz0 := Lib.hid hz0
     have Hl1 := Lib.hid h1
     have Hho := Lib.hid ho
     clear hi hz0 h1 ho
     have hsz : Z.toArray.size = D.toArray.size := by simp [Hz0.out, Hl1.out]
     have Hsz := Lib.hid hsz
     have hi2 : Hid ((Tryz.prog.info? 189).map (·.size) = some D.toArray.size) := Lib.hid (by rw [Hhi.out]; simp)
     clear hsz
     go_wp2_with (first
      | (refine wpList_load_mid rfl 189 _ rfl _ 0 rfl D _ (ygH _ _ _ _) Tryz.underlying189 rfl Hhi.out ?_)
      | (refine ych rfl 189 _ _ rfl _ _ Z.toArray D.toArray rfl rfl (heap_alloc2_old _ _ _) hi2.out Hsz.out Hho.out ?_))
     refine bodyPost_ret (v := .agg D.toArray) (results_cell_row rfl _ _ _ 189 _ _ _ rfl (setRow_heap _ _ _ _ _ _ (heap_alloc2_old _ _ _)) Tryz.underlying189 rfl hi2.out) rfl ⟨rfl, below_setRow (by go_grown) (Nat.le_refl _) _⟩
def bsp (l : List UInt8) (i : Nat) : List Int := (List.range 256).map fun b => ((yaV l b + ycf l b i : Nat) : Int)
theorem bsp_len (l : List UInt8) (i : Nat) : (bsp l i).length = 256 := by simp [bsp]
theorem bsp_zero (l : List UInt8) : bbw l 256 = bsp l 0 := by
 unfold bbw bsp
 refine List.map_congr_left fun b hb => ?_
 rw [if_pos (List.mem_range.1 hb)]
 unfold ycf
 rw [List.take_zero]
 rfl
theorem bsp_at (l : List UInt8) (i b : Nat) (h : b < 256) : (ints (bsp l i))[b]? = some (.int .i64 ((yaV l b + ycf l b i : Nat) : Int)) := by
 rw [yai _ b (by rw [bsp_len]; exact h)]
 simp [bsp]
theorem bsp_set (l : List UInt8) (i : Nat) (hi : i < l.length) : (bsp l i).set l[i].toNat ((yaV l l[i].toNat + ycf l l[i].toNat i + 1 : Nat) : Int) = bsp l (i + 1) := by
 apply List.ext_getElem
 ·rw [List.length_set, bsp_len, bsp_len]
 ·intro b h1 h2
  have hs : ycf l b (i + 1) = ycf l b i + if l[i].toNat = b then 1 else 0 := by
   unfold ycf
   rw [List.take_succ_eq_append_getElem hi, List.countP_append, List.countP_singleton]
   simp only [decide_eq_true_iff]
  simp only [bsp, List.getElem_set, List.getElem_map, List.getElem_range]
  rw [hs]
  by_cases e : l[i].toNat = b
  ·rw [if_pos e, if_pos e, e, Nat.add_assoc]
  ·rw [if_neg e, if_neg e, Nat.add_zero]
set_option maxRecDepth 100000 in
theorem p_stepper_any (l : List UInt8) (w : World) (hs : l.length ≤ 1000000) : Calls Tryz.prog 133 #[.string ⟨l.toArray⟩] w fun e w' => ∃ g, e = .returned (.func (.func 153) #[] #[.pointer (some ⟨g, 0, none⟩)]) ∧ w.heap.size ≤ g ∧ Blk w' g 189 (ints (bsp l 0)).toArray ∧ Below w.heap.size w w' := by
 have hz := zero_ints256.1
 have Hp := Lib.hid (p_below_any l w hs)
 rw [bsp_zero l] at Hp
 have hlen : (ints (bsp l 0)).toArray.size = 256 := by simp [ints, bsp_len]
 have hzl : (ints (List.replicate 256 0)).toArray.size = 256 := by simp [ints]
 have Hone := Lib.hid (ints_one13 (bsp l 0))
 have hinfo := zero_ints256.2
 have Hi : Hid ((Tryz.prog.info? 189).map (·.size) = some (ints (bsp l 0)).toArray.size) := Lib.hid (by rw [hlen]; exact hinfo)
 have Hsz : Hid ((ints (List.replicate 256 0)).toArray.size = (ints (bsp l 0)).toArray.size) := Lib.hid (by rw [hlen]; exact hzl)
 clear hinfo hlen hzl
 generalize (ints (List.replicate 256 0)).toArray = Z at *
 generalize (ints (bsp l 0)).toArray = D at *
 have hmf : ∀ (fn : Fn) (first cap : Array Value) (w : World), (Instr.makeFunc fn first cap).run Tryz.prog w = .ok (.func fn first cap) w := fun _ _ _ _ => rfl
 go_enter Tryz.func133, Tryz.ntmps133
 go_wp2_with (first
  | (go_at_call 152; refine Hp.out.mono ?_; rintro e w1 ⟨rfl, hb1⟩; have Hb1 := Lib.hid hb1; clear hb1)
  | (refine ych rfl 189 _ _ rfl _ _ Z D rfl rfl (heap_alloc_new _ _) Hi.out Hsz.out Hone.out ?_; rw [World.setRow_alloc_new]))
 go_ret
 exact ⟨w1.heap.size, rfl, Hb1.out.size, Blk.new _ _ _, Hb1.out.alloc Hb1.out.size _⟩
set_option maxRecDepth 100000 in
theorem p_step_any (l : List UInt8) (i : Nat) (hi : i < l.length) (b : UInt8) (hb : l[i] = b) (g : Nat) (w : World) (hs : l.length ≤ 1000000) (hB : Blk w g 189 (ints (bsp l i)).toArray) :
  Calls Tryz.prog 153 #[.int .u8 (b.toNat : Int), .pointer (some ⟨g, 0, none⟩)] w fun e w' => e = .returned (.int .i64 ((yaV l b.toNat + ycf l b.toNat i + 1 : Nat) : Int)) ∧ Blk w' g 189 (ints (bsp l (i + 1))).toArray ∧ ∃ v, w' = w.setCell ⟨g, b.toNat, none⟩ v := by
 have hset := bsp_set l i hi
 rw [hb] at hset
 have hlt := b.toNat_lt
 have x1 := hB.cell b.toNat
 rw [List.getElem?_toArray, bsp_at l i b.toNat (by omega)] at x1
 have x2 := hB.frozen b.toNat
 have hgl := hB.lt
 have hc : yaV l b.toNat + ycf l b.toNat i ≤ 2000000 := by
  have h1 := yhJ l b.toNat
  have h2 := bsame_le l b.toNat i
  omega
 have HB := Lib.hid (hB.set_ b.toNat (.int .i64 ((yaV l b.toNat + ycf l b.toNat i + 1 : Nat) : Int)))
 rw [yaM, hset] at HB
 obtain ⟨c, hcc⟩ : ∃ c, yaV l b.toNat + ycf l b.toNat i = c := ⟨_, rfl⟩
 rw [hcc] at x1 hc HB ⊢
 obtain ⟨x, hx⟩ : ∃ x, b.toNat = x := ⟨_, rfl⟩
 rw [hx] at x1 x2 HB hlt ⊢
 have hci : (0 : Int) ≤ (c : Int) ∧ (c : Int) ≤ 2000000 ∧ (0 : Int) ≤ (x : Int) ∧ (x : Int) < 256 := by omega
 clear hset hcc hx hb hB hc hlt
 go_enter Tryz.func153, Tryz.ntmps153
 go_wp2
 go_ret
 exact ⟨rfl, HB.out, _, rfl⟩
theorem bck_zero {l : List UInt8} {r : Int} (h : bck l r = 0) : ¬ 20000 < l.length ∧ ¬ bbad l r := by
 unfold bck at h
 split at h
 ·omega
 ·split at h
  ·omega
  ·exact ⟨‹_›, ‹_›⟩
theorem bck_no {l : List UInt8} {r : Int} (h : bck l r ≠ 0) : bsF l r = ([], bck l r) ∧ biF l r = ([], bck l r) ∧ (bck l r = 3 ∨ bck l r = 130) := by
 unfold bck at h ⊢
 by_cases h1 : 20000 < l.length
 ·rw [if_pos h1]
  exact ⟨bsF_big h1, if_pos h1, Or.inl rfl⟩
 ·rw [if_neg h1] at h ⊢
  by_cases h2 : bbad l r
  ·rw [if_pos h2]
   exact ⟨bsF_bad h1 h2, by unfold biF; rw [if_neg h1, if_pos h2], Or.inr rfl⟩
  ·rw [if_neg h2] at h
   exact absurd rfl h
set_option maxRecDepth 100000 in
set_option maxHeartbeats 1000000 in
theorem p_bsteps_no (l : List UInt8) (r : Int) (w : World) (hs : l.length ≤ 1000000) (h : bck l r ≠ 0) :
  Calls Tryz.prog 97 #[.string ⟨l.toArray⟩, .int .i64 r] w fun e w' => yfW w w' e (bsF l r) := by
 rw [(bck_no h).1]
 have Hc := Lib.hid fun W => yfH l r W hs
 obtain ⟨E, hE⟩ : ∃ E, bck l r = E := ⟨_, rfl⟩
 rw [hE] at h Hc ⊢
 have d1 : (E != 0) = true := by simpa using h
 clear hE
 go_enter Tryz.func97, Tryz.ntmps97
 go_wp2_with (go_at_call 132; refine (Hc.out _).mono ?_; rintro e w1 ⟨rfl, rfl⟩)
 go_ret2
 exact yf9 (Below.refl _ _)
set_option maxRecDepth 100000 in
set_option maxHeartbeats 2000000 in
theorem p_bsteps_yes (l : List UInt8) (r : Nat) (w : World) (hs : l.length ≤ 20000) (hg : ¬ bbad l (r : Int)) :
  Calls Tryz.prog 97 #[.string ⟨l.toArray⟩, .int .i64 (r : Int)] w fun e w' => yfW w w' e (bsF l (r : Int)) := by
 rw [bsF_yes (by omega) hg]
 obtain ⟨r2, hr2, hrl, hrp⟩ := bgood hg
 obtain rfl : r = r2 := by omega
 have hck : bck l (r : Int) = 0 := by unfold bck; rw [if_neg (by omega), if_neg hg]
 have Hc := Lib.hid fun W => yfH l (r : Int) W (by omega)
 rw [hck] at Hc
 have Hst := Lib.hid fun W => p_stepper_any l W (by omega)
 have Hla := Lib.hid fun i j hj hi W => yfD l r i j l[j] W (by omega) hj hrl hi rfl
 have Hcl := Lib.hid fun i hi g W hB => p_step_any l i hi l[i] rfl g W (by omega) hB
 have hcl := ya3 l r hrl
 have Hbrk := Lib.hid fun k i hk hi hki => brk_is l r k i hrl hk hi hki
 have Hpr := Lib.hid (yh9 l r hrl)
 have Hskip := Lib.hid fun h => bst_skip (bcol l r) (l.length + 1) r h
 have Hset := Lib.hid (bst_set (bcol l r) (l.length + 1))
 have Hlen := Lib.hid (bst_len (bcol l r) (l.length + 1))
 have Hall := Lib.hid (bst_all (bcol l r) (l.length + 1))
 have Hll : Hid (((List.range (l.length + 1)).map (brk (bcol l r))).length = l.length + 1) := Lib.hid (by simp)
 have hmk := fun w => ycU ((l.length : Int) + 1) (l.length + 1) (by omega) (by omega) w
 rw [← bst_zero (bcol l r) (l.length + 1)] at hmk
 generalize bcol l r = C at *
 generalize (List.range (l.length + 1)).map (brk C) = S at *
 have hli : (l.length : Int) ≤ 20000 ∧ (0 : Int) ≤ (r : Int) ∧ (r : Int) ≤ (l.length : Int) := by omega
 clear hck hr2 hcl hrp hg
 go_enter Tryz.func97, Tryz.ntmps97
 go_wp2_with (first
  | (go_at_call 132; refine (Hc.out _).mono ?_; rintro e w ⟨rfl, rfl⟩)
  | (go_at_call 133; refine (Hst.out _).mono ?_; rintro e w2 ⟨gc, rfl, hgc, hbc, hb2⟩; have HC0 := Lib.hid (hbc.alloc (.cells (ints (bst C (l.length + 1) 0)).toArray 3)); have HN := Lib.hid (Blk.new w2 3 (ints (bst C (l.length + 1) 0)).toArray); have HO0 := Lib.hid (hb2.alloc hb2.size (.cells (ints (bst C (l.length + 1) 0)).toArray 3)); have hgl := hbc.lt; clear hbc; have Hgc := Lib.hid (And.intro hgc (And.intro hgl hb2.size)); clear hgc hgl hb2; generalize hg2 : w2.heap.size = g at *))
 clear hmk
 go_loopw [24] (fun i wr => ∃ k j : Nat, k ≤ l.length + 1 ∧ i = .int .i64 k ∧ Hid ((k ≤ r ∧ k = j) ∨ (r < k ∧ k = j + 1)) ∧ Hid (Blk wr g 3 (ints (bst C (l.length + 1) k)).toArray) ∧ Hid (Blk wr gc 189 (ints (bsp l j)).toArray) ∧ Hid (Below w.heap.size w wr)) (fun i _ => l.length + 1 - (intOf i).toNat)
 case atStart => exact ⟨0, 0, by omega, rfl, Lib.hid (Or.inl ⟨by omega, rfl⟩), HN, HC0, HO0⟩
 case round =>
  obtain ⟨k, j, hk, rfl, Hkj, HB, HC, HO⟩ := hrel
  clear HC0 HN HO0
  by_cases hlt : k < l.length + 1
  ·have hki : (0 : Int) ≤ (k : Int) ∧ (k : Int) < (l.length : Int) + 1 := by omega
   by_cases hkr : k = r
   ·have d1 : ((k : Int) != (r : Int)) = false := by simp [hkr]
    have d2 : (k != r) = false := by simp [hkr]
    have hj : k = j := by have := Hkj.out; omega
    have HB2 : Hid (Blk wr g 3 (ints (bst C (l.length + 1) (k + 1))).toArray) := Lib.hid (by have := Hskip.out Hpr.out; rw [hkr, ← this, ← hkr]; exact HB.out)
    have Hkr := Lib.hid hkr
    clear hkr
    go_wp2
    go_roundw
    case rel => exact ⟨k + 1, j, by omega, iv (by omega), Lib.hid (Or.inr ⟨by have := Hkr.out; omega, by omega⟩), HB2, HC, HO⟩
    case measure => simp only [intOf]; omega
   ·have d1 : ((k : Int) != (r : Int)) = true := by simp; omega
    have d2 : (k != r) = true := by simp; omega
    have hj : j < l.length := by have := Hkj.out; omega
    have hkj : (k < r ∧ k = j) ∨ (r < k ∧ k = j + 1) := by have := Hkj.out; omega
    have HL := Lib.hid fun W => Hla.out k j hj hkj W
    have HS := Lib.hid (Hcl.out j hj gc wr HC.out)
    have hbr := Hbrk.out k j hlt hj (by omega)
    have Hs := Lib.hid (Hset.out k)
    rw [hbr] at Hs
    have Hne : Hid (g ≠ gc ∧ gc ≠ g) := Lib.hid (by have := Hgc.out; omega)
    have Hkj2 : Hid ((k + 1 ≤ r ∧ k + 1 = j + 1) ∨ (r < k + 1 ∧ k + 1 = j + 1 + 1)) := Lib.hid (by omega)
    have hcc : yaV l l[j].toNat + ycf l l[j].toNat j + 1 ≤ 50000 := by
     have h1 := yhJ l l[j].toNat
     have h2 := bsame_le l l[j].toNat j
     omega
    obtain ⟨c, hc⟩ : ∃ c, yaV l l[j].toNat + ycf l l[j].toNat j + 1 = c := ⟨_, rfl⟩
    rw [hc] at Hs HS hcc
    clear hbr hc hkj hkr Hkj
    generalize l[j] = b at *
    go_wp2_with (first
     | (go_at_call 98; refine (HL.out _).mono ?_; rintro e wr ⟨rfl, rfl⟩)
     | (go_at_call 153; refine HS.out.mono ?_; rintro e w1 ⟨rfl, hc1, v, rfl⟩; have HC2 := Lib.hid (hc1.far (p := ⟨g, k, none⟩) Hne.out.2 (.int .i64 (c : Int))); clear hc1; have HB2 := Lib.hid (HB.out.far (p := ⟨gc, b.toNat, none⟩) Hne.out.1 v); have x1 := yaN HB2.out k (by rw [Hlen.out]; exact hlt); have x2 := HB2.out.frozen k; have x3 := HB2.out.lt; generalize (bst C (l.length + 1) k)[k]'(by rw [Hlen.out]; exact hlt) = v0 at x1))
    go_roundw
    case rel => exact ⟨k + 1, j + 1, by omega, iv (by omega), Hkj2, Lib.hid (by rw [← Hs.out, ← yaM]; exact HB2.out.set_ k _), HC2, Lib.hid ((HO.out.setCell (p := ⟨gc, b.toNat, none⟩) Hgc.out.1 _).setCell (p := ⟨g, k, none⟩) (by have := Hgc.out; simp only; omega) _)⟩
    case measure => simp only [intOf]; omega
  ·obtain rfl : k = l.length + 1 := by omega
   have hii : ¬ (((l.length + 1 : Nat) : Int) < (l.length : Int) + 1) := by omega
   have HF : Hid (Blk wr g 3 (ints (splc S)).toArray) := Lib.hid (by rw [← Hall.out]; exact HB.out)
   have HFl : Hid ((splc S).length = l.length + 1) := Lib.hid (by rw [yao]; exact Hll.out)
   clear HB
   go_wp2
   go_ret2
   exact lpost_blk HFl.out HF.out HO.out
theorem yfB (l : List UInt8) (r : Int) (w : World) (hs : l.length ≤ 1000000) :
  Calls Tryz.prog 97 #[.string ⟨l.toArray⟩, .int .i64 r] w fun e w' => yfW w w' e (bsF l r) := by
 by_cases h : bck l r = 0
 ·obtain ⟨h1, h2⟩ := bck_zero h
  obtain ⟨k, rfl, _⟩ := bgood h2
  exact p_bsteps_yes l k w (by omega) h2
 ·exact p_bsteps_no l r w hs h
def rowC (k : Nat) : List UInt8 := (List.range 256).map fun i => if i < k then UInt8.ofNat i else 0
theorem ygp (k : Nat) : (rowC k).length = 256 := by simp [rowC]
theorem rowC_get (k i : Nat) (h : i < 256) : (rowC k)[i]? = some (if i < k then UInt8.ofNat i else 0) := by simp [rowC, h]
theorem rowC_all : rowC 256 = row0 := by
 unfold rowC row0
 refine List.map_congr_left fun i hi => ?_
 rw [if_pos (List.mem_range.1 hi)]
theorem rowC_set (k : Nat) : (rowC k).set k (UInt8.ofNat k) = rowC (k + 1) := by
 apply List.ext_getElem?
 intro i
 by_cases hi : i < 256
 ·rw [List.getElem?_set, rowC_get _ _ hi]
  by_cases e : k = i
  ·subst e
   rw [if_pos rfl, if_pos (by rw [ygp]; exact hi), rowC_get _ _ hi, if_pos (by omega)]
  ·rw [if_neg e, rowC_get _ _ hi]
   by_cases h1 : i < k
   ·rw [if_pos h1, if_pos (by omega)]
   ·rw [if_neg h1, if_neg (by omega)]
 ·rw [List.getElem?_eq_none (by rw [List.length_set, ygp]; omega), List.getElem?_eq_none (by rw [ygp]; omega)]
theorem bcl_set (l : List UInt8) (k : Nat) (b : UInt8) : (bc l).toList.set k (.int .u8 (b.toNat : Int)) = (bc (l.set k b)).toList := by simp [bc, List.map_set]
theorem cells_set (k : Nat) (h : k < 256) : (bc (rowC k)).toList.set k (.int .u8 (k : Int)) = (bc (rowC (k + 1))).toList := by
 have := bcl_set (rowC k) k (UInt8.ofNat k)
 rw [ya0 _ h, rowC_set] at this
 exact this
theorem zero_row : (∀ w, (zeroValue 121).run Tryz.prog w = .ok (.agg (bc (rowC 0)).toList.toArray) w) ∧ (Tryz.prog.info? 121).map (·.size) = some 256 := zero_of_info (by kernel_rfl)
theorem alloc_congr {w : World} {a b : List Value} {t : TypeId} (h : a = b) : w.alloc (.cells a.toArray t) = w.alloc (.cells b.toArray t) := by rw [h]
set_option maxRecDepth 100000 in
set_option maxHeartbeats 400000 in
theorem yfM (w : World) : Calls Tryz.prog 42 #[] w fun e w' => e = .returned (.pointer (some ⟨w.heap.size, 0, none⟩)) ∧ w' = w.alloc (.cells (bc row0) 121) := by
 have hz := zero_row.1
 have Hset : Hid (∀ k, k < 256 → (bc (rowC k)).toList.set k (.int .u8 (k : Int)) = (bc (rowC (k + 1))).toList) := Lib.hid cells_set
 have Hget : Hid (∀ k, k < 256 → ∃ v, (bc (rowC k)).toList[k]? = some v) := Lib.hid fun k hk => ⟨_, List.getElem?_eq_getElem (by rw [Array.length_toList, ygS, ygp]; exact hk)⟩
 have he : bc row0 = (bc (rowC 256)).toList.toArray := by rw [rowC_all]
 rw [he]
 clear he
 generalize hf : (fun k => (bc (rowC k)).toList) = f at *
 have hf' : ∀ k, (bc (rowC k)).toList = f k := fun k => by rw [← hf]
 simp only [hf'] at *
 clear hf' hf
 generalize hZ : f 0 = Z at *
 have HZ := Lib.hid hZ
 clear hZ
 generalize hD : f 256 = D at *
 have HD := Lib.hid hD
 clear hD
 go_enter Tryz.func42, Tryz.ntmps42
 go_wp2
 go_loopw [3] (fun i wr => ∃ k : Nat, k ≤ 256 ∧ i = .int .i64 k ∧ Hid (wr = w.alloc (.cells (f k).toArray 121))) (fun i _ => 256 - (intOf i).toNat)
 case atStart => exact ⟨0, by omega, rfl, Lib.hid (by rw [HZ.out])⟩
 case round =>
  obtain ⟨k, hk, rfl, Hw⟩ := hrel
  obtain rfl := Hw.out
  by_cases hlt : k < 256
  ·have hki : (0 : Int) ≤ (k : Int) ∧ (k : Int) < 256 := by omega
   have hm : (k : Int) % 256 = k := by omega
   obtain ⟨v, hv⟩ := Hget.out k hlt
   have Hs := Lib.hid (Hset.out k hlt)
   clear hlt Hw
   go_wp2
   go_roundw
   case rel => exact ⟨k + 1, by omega, iv (by omega), Lib.hid (alloc_congr Hs.out)⟩
   case measure => simp only [intOf]; omega
  ·obtain rfl : k = 256 := by omega
   rw [HD.out]
   go_wp2
   go_ret
   exact ⟨rfl, rfl⟩
theorem ydw (l : List UInt8) : (bc l).toList = l.map fun b => Value.int .u8 (b.toNat : Int) := by simp [bc]
theorem mv_row (R : List UInt8) (k : Nat) (hk : k < R.length) : ((bc R).toList.take 1 ++ ((bc R).toList.take k ++ (bc R).toList.drop (1 + k))).set 0 (.int .u8 ((R.getD k 0).toNat : Int)) = (bc (mv R k)).toList := by
 rw [ydw, ydw]
 unfold mv
 cases R with
 | nil => simp at hk
 | cons b t => simp [Nat.add_comm 1 k]
theorem yhN {P : Program} {w : World} {ops : Array Oper} {rest : List Oper} {o : Oper} {a : Act} {Q : Exit → Act → World → Prop} (hgd : o.guard = none) (d s : Operand) (dT sT : TypeId)
  (ho : o.op = .call { callee := .builtin .copy, args := #[d, s], argTypes := #[dT, sT] }) (elem : TypeId) (hu : P.underlying dT = some (.slice elem)) (hsz : (P.info? elem).map (·.size) = some 1)
  (g off dLen dCap : Nat) (ad : Addr) (sLen sCap : Nat) (hd : a.eval d = .slice (some ⟨g, off, none⟩) dLen dCap) (hs : a.eval s = .slice (some ad) sLen sCap)
  (cur : Array Value) (t : TypeId) (hg : Blk w g t cur) (cs : List Value) (hn : cs.length = Nat.min sLen dLen)
  (hsrc : ∀ j v, cs[j]? = some v → w.cell? (ad.add j) = some v) (hfit : off + cs.length ≤ cur.size) (h1 : ∀ v ∈ cs, v.oneCell' = true)
  (N : List Value) (hN : cur.toList.take off ++ (cs ++ cur.toList.drop (off + cs.length)) = N)
  (h : ∀ w', w.grownBy w' (some g) → Blk w' g t N.toArray → wpList P ops Q rest (a.put o.dst (goInt cs.length)) w') : wpList P ops Q (o :: rest) a w := by
 refine wpList_copy_own hgd d s dT sT ho elem hu hsz g off dLen dCap ad sLen sCap hd hs cur t hg cs hn hsrc hfit h1 (h _ (grow_row _ _ _) ?_)
 rw [hN]
 exact hg.row _
set_option maxRecDepth 100000 in
set_option maxHeartbeats 800000 in
theorem yfO (R : List UInt8) (h : Whole R) (k : Nat) (hk : k < 256) (g : Nat) (w : World) (hB : Blk w g 121 (bc R)) :
  Calls Tryz.prog 84 #[.pointer (some ⟨g, 0, none⟩), .int .i64 (k : Int)] w fun e w' => e = .returned (.int .u8 ((R.getD k 0).toNat : Int)) ∧ w.grownBy w' (some g) ∧ Blk w' g 121 (bc (mv R k)) := by
 have hlen := h.len
 have hc : w.cell? ⟨g, k, none⟩ = some (.int .u8 ((R.getD k 0).toNat : Int)) := ycO hB (by rw [List.getD_eq_getElem?_getD, List.getElem?_eq_getElem (by omega)]; rfl)
 have hki : (0 : Int) ≤ (k : Int) ∧ (k : Int) < 256 := by omega
 have hsz : ((bc R).toList.take k).length = k := by simp [ygS, hlen]; omega
 have hcopy : ∀ (a : Act) (ops : Array Oper) (Q : Exit → Act → World → Prop) (o : Oper) (d s : Operand), o.guard = none → o.op = .call { callee := .builtin .copy, args := #[d, s], argTypes := #[36, 36] } →
   a.eval d = .slice (some ⟨g, 1, none⟩) k 255 → a.eval s = .slice (some ⟨g, 0, none⟩) k 256 →
   (∀ w' N v, w.grownBy w' (some g) → Blk w' g 121 N → w'.cell? ⟨g, 0, none⟩ = some v → N.setIfInBounds 0 (.int .u8 ((R.getD k 0).toNat : Int)) = bc (mv R k) → wpList Tryz.prog ops Q [] (a.put o.dst (goInt k)) w') → wpList Tryz.prog ops Q [o] a w.drew := by
  intro a ops Q o d s hgd ho hd hs hh
  refine yhN hgd d s _ _ ho 5 Tryz.underlying36 (by kernel_rfl) g 1 k 255 ⟨g, 0, none⟩ k 256 hd hs (bc R) 121 hB.drew ((bc R).toList.take k) (by rw [hsz]; exact (Nat.min_self k).symm)
   (fun j v hj => by
    rw [ydW, List.getElem?_take] at *
    split at hj
    ·rw [Nat.zero_add, hB.drew.cell]; simpa using hj
    ·cases hj)
   (by rw [hsz, ygS, hlen]; omega)
   (fun v hv => by
    have := List.mem_of_mem_take hv
    rw [ydw] at this
    obtain ⟨b, _, rfl⟩ := List.mem_map.1 this
    rfl) _ rfl ?_
  intro w' hg hb
  rw [hsz] at hb ⊢
  have hm := mv_row R k (by omega)
  have hl : 0 < (List.take 1 (bc R).toList ++ (List.take k (bc R).toList ++ List.drop (1 + k) (bc R).toList)).length := by
   rw [List.length_append, List.length_take, Array.length_toList, ygS, hlen]
   omega
  generalize List.take 1 (bc R).toList ++ (List.take k (bc R).toList ++ List.drop (1 + k) (bc R).toList) = N at *
  refine hh w' N.toArray N[0] ⟨hg.os, hg.tape, hg.output, hg.size, hg.block⟩ hb ?_ ?_
  ·rw [hb.cell]; simp [hl]
  ·rw [List.setIfInBounds_toArray, hm]
 have Hcopy := Lib.hid hcopy
 clear hcopy hsz hB h hlen
 generalize ((R.getD k 0).toNat : Int) = bv at *
 generalize bc (mv R k) = M at *
 go_enter Tryz.func84, Tryz.ntmps84
 go_wp2
 have hw1 : IntKind.i64.wrap ((k : Int) + 1) = (k : Int) + 1 := by rw [IntKind.wrap_i64]; omega
 have hk2 : (k : Int) + 1 ≤ 256 ∧ (k : Int) ≤ 256 ∧ 1 ≤ (k : Int) + 1 := by omega
 refine wp_region_still_tail 9 (by kernel_rfl) (by kernel_rfl) ?_
 simp only [List.take_succ_cons, List.take_zero, List.drop_succ_cons, List.drop_zero]
 change wpStill _ _ (World.drew _) (fun a' => wpList _ _ _ _ a' (World.drew _)) _ _
 repeat still_step
 refine wpStill_nil ?_
 refine Hcopy.out _ _ _ _ _ _ rfl rfl rfl rfl ?_
 intro w1 N v hg hb hv hN
 have hf := hb.frozen 0
 have Hg := Lib.hid hg
 have Hb := Lib.hid hb
 have HN := Lib.hid hN
 clear hg hb hN Hcopy
 go_wp2
 go_ret
 refine ⟨rfl, ybg Hg.out (Or.inl rfl) _, ?_⟩
 rw [← HN.out]
 exact Hb.out.set_ 0 _
theorem index_pl (R : List UInt8) (b : UInt8) (h : b ∈ R) : Lib.indexByte R b = (pl R b : Int) := by
 unfold pl
 induction R with
 | nil => cases h
 | cons c t ih =>
  unfold Lib.indexByte
  rw [List.idxOf_cons]
  by_cases e : c = b
  ·simp [e]
  ·have ht : b ∈ t := by
    rcases List.mem_cons.1 h with h | h
    ·exact absurd h.symm e
    ·exact h
   have e2 : (c == b) = false := by simpa using e
   have h3 : ((List.idxOf b t : Int) == -1) = false := by rw [beq_eq_false_iff_ne]; omega
   rw [e2, ih ht, h3]
   simp
theorem bytesOf_map (R : List UInt8) : Lib.bytesOf (R.map fun b => (b.toNat : Int)) = R := by
 simp [Lib.bytesOf, Function.comp_def]
set_option maxRecDepth 100000 in
theorem fr_index_any (R : List UInt8) (h : Whole R) (b : UInt8) (g : Nat) (w : World) (hB : Blk w g 121 (bc R)) :
  Calls Tryz.prog 83 #[.slice (some ⟨g, 0, none⟩) 256 256, .int .u8 (b.toNat : Int)] w fun e w' => e = .returned (.int .i64 (pl R b : Int)) ∧ w' = w := by
 have hrun := Lib.run_indexByteSlice (P := Tryz.prog) w g 0 256 256 (R.map fun b => (b.toNat : Int)) (by rw [List.length_map, h.len]) (fun i hi => by
  have hi' : i < R.length := by rw [h.len]; exact hi
  rw [Nat.zero_add, ycO hB (List.getElem?_eq_getElem hi')]
  simp [List.getD_eq_getElem?_getD, hi']) (b.toNat : Int)
 rw [bytesOf_map, Int.toNat_natCast, show b.toNat.toUInt8 = b from UInt8.ofNat_toNat, index_pl R b (h.mem b)] at hrun
 have hlt := pl_lt h b
 generalize (b.toNat : Int) = bv at *
 generalize pl R b = j at *
 go_enter Tryz.func83, Tryz.ntmps83
 go_wp2
 rw [run_callFunc_extern Tryz.func121 (by kernel_rfl) (by kernel_rfl) (by kernel_rfl) (e := Extern.BytealgIndexByte.indexByte) (by kernel_rfl), hrun]
 simp only [Result.andThen]
 rw [Oper.upon_value]
 go_wp2
 go_ret
 exact ⟨rfl, rfl⟩
set_option maxRecDepth 100000 in
set_option maxHeartbeats 800000 in
theorem fr_step_any (R : List UInt8) (h : Whole R) (b : UInt8) (g : Nat) (w : World) (hB : Blk w g 121 (bc R)) :
  Calls Tryz.prog 43 #[.pointer (some ⟨g, 0, none⟩), .int .u8 (b.toNat : Int)] w fun e w' => e = .returned (.int .i64 (pl R b : Int)) ∧ w.grownBy w' (some g) ∧ Blk w' g 121 (bc (mv R (pl R b))) := by
 have Hi := Lib.hid (fr_index_any R h b g w hB)
 have Hr := Lib.hid (yfO R h (pl R b) (pl_lt h b) g w hB)
 clear hB h
 generalize (b.toNat : Int) = bv at *
 generalize bc (mv R (pl R b)) = M at *
 generalize ((R.getD (pl R b) 0).toNat : Int) = v at *
 generalize (pl R b : Int) = j at *
 go_enter Tryz.func43, Tryz.ntmps43
 go_wp2_with (first
  | (go_at_call 83; refine Hi.out.mono ?_; rintro e w1 ⟨rfl, rfl⟩)
  | (go_at_call 84; refine Hr.out.mono ?_; rintro e w1 ⟨rfl, hg1, hb1⟩))
 go_ret
 exact ⟨rfl, hg1, hb1⟩
def cputV (g : Nat) : Value := .func (.func 67) #[.pointer (some ⟨g, 0, none⟩)] #[]
set_option maxRecDepth 100000 in
set_option maxHeartbeats 1000000 in
theorem c_hand_yes (ls : List Nat) (B Bw g gw : Nat) (v : Value) (R : List Nat) (s : Int) (w : World) (h : CCode w B g ls) (hl : ls.length ≤ 1000000) (hE : (ydc (wat ls 16 0) s).2 = 0) (hf : ∀ f ∈ wat ls 16 0, fits f.1 f.2) (hH : WHold w Bw gw v R) (hB : Bw ≤ w.heap.size) (hR : R.length ≤ 1099511627776) :
  Calls Tryz.prog 69 #[.pointer (some ⟨g, 0, none⟩), cputV gw, .int .i64 s] w fun e w' => e = .returned (.int .i64 0) ∧ ∃ v', WHold w' Bw gw v' (R ++ (yaD (wat ls 16 0) s).1) ∧ Touch w w' (WS gw v) ∧ Sep w v v' := by
 have Hw := Lib.hid (c_word_any ls B g s w h hl)
 obtain ⟨h1, h2⟩ := pword_ref (wat ls 16 0) s
 obtain ⟨h3, h4⟩ := h2 hE
 unfold wordV at Hw
 rw [hE] at Hw
 rw [h3]
 have hfit := hf _ h4
 have Hput := Lib.hid fun w hH hB => bput_is Bw gw _ _ v R w hfit hH hB hR
 clear h hE h1 h2 h3 h4 hf hfit
 generalize (ydc (wat ls 16 0) s).1.1 = x at *
 generalize (ydc (wat ls 16 0) s).1.2 = y at *
 have HW := Lib.hid fun (w1 : World) (hb : Below w.heap.size w w1) (o : Obj) => (hH.below hb (Nat.le_refl _)).below (C := w1.heap.size) ((Below.refl w1.heap.size w1).alloc (Nat.le_refl _) o) (Nat.le_refl _)
 have HB2 := Lib.hid fun (w1 : World) (hb : Below w.heap.size w w1) (o : Obj) => show Bw ≤ (w1.alloc o).heap.size from Nat.le_trans hB (Nat.le_trans hb.size (by simp))
 clear hH hB hR
 unfold cputV
 go_enter Tryz.func69, Tryz.ntmps69
 go_wp2_with (first
  | (go_at_call 107; refine Hw.out.mono ?_; rintro e w1 ⟨rfl, hb1⟩; have Hb1 := Lib.hid hb1; clear hb1)
  | (go_at_call 67; refine (Hput.out _ (HW.out w1 Hb1.out _) (HB2.out w1 Hb1.out _)).mono ?_; rintro e w2 ⟨rfl, v2, hH2, ht2, hs2⟩; have HH2 := Lib.hid hH2; have Ht2 := Lib.hid ht2; have Hs2 := Lib.hid hs2; clear hH2 ht2 hs2))
 go_ret
 refine ⟨rfl, v2, HH2.out, ?_, fun k hk => ?_⟩
 ·exact ((yak (S := WS gw v) Hb1.out (Nat.le_refl _)).alloc _).trans Ht2.out
 ·rcases Hs2.out k hk with e | e
  ·exact Or.inl e
  ·have := Hb1.out.size
   rw [World.size_alloc] at e
   exact Or.inr (by omega)
set_option maxRecDepth 100000 in
set_option maxHeartbeats 1000000 in
theorem c_put_yes (ls : List Nat) (B Bw g gw : Nat) (v : Value) (R : List Nat) (s : Int) (w : World) (h : CCode w B g ls) (hl : ls.length ≤ 1000000) (hE : (yaD (wat ls 16 0) s).2 = 0) (hf : ∀ f ∈ wat ls 16 0, fits f.1 f.2) (hH : WHold w Bw gw v R) (hB : Bw ≤ w.heap.size) (hR : R.length ≤ 1099511627776) :
  Calls Tryz.prog 30 #[.pointer (some ⟨g, 0, none⟩), .pointer (some ⟨gw, 0, none⟩), .int .i64 s] w fun e w' => e = .returned (.int .i64 0) ∧ ∃ v', WHold w' Bw gw v' (R ++ (yaD (wat ls 16 0) s).1) ∧ Touch w w' (WS gw v) ∧ Sep w v v' := by
 have hmf : ∀ (fn : Fn) (first cap : Array Value) (w : World), (Instr.makeFunc fn first cap).run Tryz.prog w = .ok (.func fn first cap) w := fun _ _ _ _ => rfl
 have hy := c_hand_yes ls B Bw g gw v R s w h hl ((pword_ref (wat ls 16 0) s).1.trans hE) hf hH hB hR
 unfold cputV at hy
 have Hy := Lib.hid hy
 clear h hE hf hH hB hR hy
 generalize R ++ (yaD (wat ls 16 0) s).1 = R2 at *
 go_enter Tryz.func30, Tryz.ntmps30
 go_wp2_with (go_at_call 69; refine Hy.out.mono ?_; rintro e w1 ⟨rfl, hp⟩; have Hp := Lib.hid hp; clear hp)
 go_ret
 exact ⟨rfl, Hp.out⟩
set_option maxRecDepth 100000 in
set_option maxHeartbeats 1000000 in
theorem done_any (l : List UInt8) (p g : Nat) (w : World) (hl : l.length ≤ 1099511627776) (hp : p ≤ 8 * l.length) (hB : RHold w g l p) :
  Calls Tryz.prog 58 #[.pointer (some ⟨g, 0, none⟩)] w fun e w' => e = .returned (.bool (yfV (yag l) p)) ∧ ∃ k, w.drewN k = w' := by
 by_cases h8 : 8 * l.length - p < 8
 ·by_cases hz : lz ((yag l).drop p) = 8 * l.length - p
  ·have e : yfV (yag l) p = true := by unfold yfV; rw [yay]; simp [h8, hz]
   rw [e]
   exact done_yes l p g w hl hp hB h8 hz
  ·have e : yfV (yag l) p = false := by unfold yfV; rw [yay]; simp [hz]
   rw [e]
   have hnou := fun v hB => ycG l p g v hl hp hB
   have hleft := fun v hB => ybV l p g v (by omega) hp hB
   have h8i : ((8 * l.length - p : Nat) : Int) < 8 := by omega
   have HB := Lib.hid hB
   clear hB hp hl h8 e
   generalize 8 * l.length - p = M at *
   generalize lz ((yag l).drop p) = z at *
   have hb1 : ((z : Int) == (M : Int)) = false := by simp; omega
   have hb2 : ¬ (z : Int) = (M : Int) := by omega
   go_enter Tryz.func58, Tryz.ntmps58
   go_wp2_with (first
    | (go_at_call 90; refine (ycw g _).mono ?_; rintro e w1 ⟨rfl, rfl⟩)
    | (go_at_call 92; refine (hnou _ (HB.out.drewN _)).mono ?_; rintro e w1 ⟨rfl, k0, rfl⟩)
    | (go_at_call 91; (first | (refine (hleft _ HB.out).mono ?_) | (refine (hleft _ (HB.out.drewN _)).mono ?_)); rintro e w1 ⟨rfl, k1, rfl⟩))
   go_ret
   exact ⟨by simp [hb2], _, rfl⟩
 ·have e : yfV (yag l) p = false := by unfold yfV; rw [yay]; simp; omega
  rw [e]
  have hleft := fun v hB => ybV l p g v (by omega) hp hB
  have h8i : ¬ ((8 * l.length - p : Nat) : Int) < 8 := by omega
  have HB := Lib.hid hB
  clear hB hp hl h8 e
  generalize 8 * l.length - p = M at *
  go_enter Tryz.func58, Tryz.ntmps58
  go_wp2_with (first
   | (go_at_call 90; refine (ycw g _).mono ?_; rintro e w1 ⟨rfl, rfl⟩)
   | (go_at_call 91; (first | (refine (hleft _ HB.out).mono ?_) | (refine (hleft _ (HB.out.drewN _)).mono ?_)); rintro e w1 ⟨rfl, k1, rfl⟩))
  go_ret
  exact ⟨rfl, _, rfl⟩
def CGet2 (w w' : World) (e : Ending) (gr : Nat) (l : List UInt8) (p : Nat) (F : Int × Int × Int) : Prop := e = .returned (.tuple #[.int .i64 F.1, .int .i64 F.2.2]) ∧ RHold w' gr l (p + F.2.1.toNat) ∧ Touch w w' (fun k => k = gr)
theorem RHold.below {w w' : World} {g B p : Nat} {l : List UInt8} (h : RHold w g l p) (hb : Below B w w') (hg : g < B) : RHold w' g l p := Blk.below h hb hg
theorem cget_after {w wr w5 : World} (hB : Below w.heap.size w wr) (ht : Touch wr w5 (fun k => k = w.heap.size)) : Below w.heap.size w w5 := hB.trans (ht.below (fun k _ e => by omega) hB.size)
set_option maxRecDepth 100000 in
set_option maxHeartbeats 4000000 in
theorem c_get_far (ls : List Nat) (ok : Nat → Prop) (g gr : Nat) (l : List UInt8) (p : Nat) (w : World) (hfar : CFar w g ls ok) (h15 : ∀ x ∈ ls, x ≤ 15) (hca : call ls ≤ 32768) (hD : yaC ls ls.length = 1 ∨ call ls = 32768) (hlen : ls.length ≤ 257) (hgr : ¬ ok gr) (hR : RHold w gr l p) (hl : l.length ≤ 1099511627776) (hp : p ≤ 8 * l.length) :
  Calls Tryz.prog 57 #[.pointer (some ⟨g, 0, none⟩), .pointer (some ⟨gr, 0, none⟩)] w fun e w' => CGet2 w w' e gr l p (ybo (wat ls 16 0) (yag l) p) := by
 obtain ⟨B, hBw, h⟩ := hfar.code
 have Hfar : ∀ W, Touch w W (fun k => k = gr) → ∃ B2, B2 ≤ W.heap.size ∧ CCode W B2 g ls := fun W hW => (hfar.touch hW (fun k hk e => hgr (e ▸ hk))).code
 have Hn : Hid (Calls Tryz.prog 88 #[.pointer (some ⟨g, 0, none⟩)] w fun e w' => e = .returned (.bool false) ∧ w = w') := Lib.hid (c_none_no g w h.made)
 obtain ⟨c1, c2, z1, z2⟩ := Blk.two hR
 have hgl := Blk.lt hR
 have hpi : (p : Int) ≤ 8796093022208 := by omega
 have hbin : Bin ((yag l).drop p) := fun d hd => ycX l d (List.mem_of_mem_drop hd)
 have hRl : ((yag l).drop p).length = 8 * l.length - p := by rw [List.length_drop, yay]
 obtain ⟨F, hF⟩ : ∃ F, ybo (wat ls 16 0) (yag l) p = F := ⟨_, rfl⟩
 rw [hF]
 unfold ybo at hF
 have hE : (yag l).drop p = [] → (if p = (yag l).length then (4 : Int) else 40) = 4 := fun e => by
  rw [if_pos]
  have := congrArg List.length e
  rw [List.length_drop, List.length_nil] at this
  rw [yay] at this ⊢
  omega
 have hE2 : (yag l).drop p ≠ [] → (if p = (yag l).length then (4 : Int) else 40) = 40 := fun e => by
  rw [if_neg]
  intro e2
  exact e (List.drop_of_length_le (by omega))
 have hg1 := yc1 (ls := ls) ls.length
 have hg2 := yeL (ls := ls) (fun s hs => h15 _ (List.getElem_mem hs)) ls.length (Nat.le_refl _)
 have hg3 : ∀ s (hs : s < ls.length), ls[s] ≤ yaC ls ls.length := fun s hs => cdeep_ge _ (Nat.le_refl _) s hs hs
 -- what is found
 have Hshort : Hid (∀ wd, 0 < wd → wd ≤ yaC ls ls.length → 8 * l.length - p + 1 = wd → cpos ls wd 0 ≤ v15 ((yag l).drop p) → F = (0, 0, 4)) := Lib.hid fun wd a1 a2 a3 a4 => by
  rw [← hF]
  exact cgo_short h15 hca hbin wd _ a1 a2 (by rw [hRl]; exact a3) a4 hD _ hE
 have Hhit : Hid (∀ wd k s : Nat, 0 < wd → wd ≤ yaC ls ls.length → wd ≤ 8 * l.length - p → num (((yag l).drop p).take wd) = cst ls wd + k → (crow ls ls.length wd)[k]? = some s → F = ((s : Int), (wd : Int), 0)) := Lib.hid fun wd k s a1 a2 a3 a4 a5 => by
  rw [← hF]
  exact cgo_hit h15 hca hbin _ wd a1 (by omega) (by rw [hRl]; exact a3) k s a4 a5
 have Hmiss : Hid (∀ wd, wd ≤ yaC ls ls.length → wd ≤ 8 * l.length - p → cst ls wd + (crow ls ls.length wd).length ≤ num (((yag l).drop p).take wd) → cpos ls (wd + 1) 0 ≤ v15 ((yag l).drop p)) := Lib.hid fun wd a1 a2 a3 => cgo_miss hbin wd (by omega) (by rw [hRl]; exact a2) a3
 have Hle : Hid (∀ wd, wd ≤ yaC ls ls.length → wd ≤ 8 * l.length - p → cpos ls wd 0 ≤ v15 ((yag l).drop p) → cst ls wd ≤ num (((yag l).drop p).take wd)) := Lib.hid fun wd a1 a2 a3 => cgo_le hbin wd (by omega) (by rw [hRl]; exact a2) a3
 have Hend : Hid (yaC ls ls.length ≤ 8 * l.length - p → cpos ls (yaC ls ls.length + 1) 0 ≤ v15 ((yag l).drop p) → F = (0, 0, 40)) := Lib.hid fun a1 a2 => by
  rw [← hF, cgo_end h15 hca hbin _ hg1 hg2 hg3 (by rw [hRl]; exact a1) a2, hE2]
  intro e
  rw [e, List.length_nil] at hRl
  omega
 have Hnum : Hid (∀ m, m < 8 * l.length - p → ∃ b, b ≤ 1 ∧ num (((yag l).drop (p + m)).take 1) = b ∧ num (((yag l).drop p).take (m + 1)) = 2 * num (((yag l).drop p).take m) + b) := Lib.hid fun m hm => by
  have hm2 : m < ((yag l).drop p).length := by rw [hRl]; exact hm
  refine ⟨((yag l).drop p)[m], ?_, ?_, cgo_num m hm2⟩
  ·have := hbin _ (List.getElem_mem hm2)
   omega
  ·rw [← List.drop_drop]
   exact cgo_bit hbin m hm2
 have Hbig : Hid (∀ m, m ≤ 15 → num (((yag l).drop p).take m) < 32768) := Lib.hid fun m hm => by
  have h1 := ydV (l := ((yag l).drop p).take m) fun d hd => hbin d (List.mem_of_mem_take hd)
  have h2 : (2 : Nat) ^ (((yag l).drop p).take m).length ≤ 2 ^ 15 := Nat.pow_le_pow_right (by omega) (by rw [List.length_take]; omega)
  omega
 have Hstl : Hid (∀ j, j ≤ 15 → cst ls j ≤ 32768) := Lib.hid fun j hj => cst_le j hj hca
 have Hcnt : Hid (∀ j, (crow ls ls.length j).length ≤ 257) := Lib.hid fun j => by
  have := yep (ls := ls) ls.length j
  omega
 have hPos : cpos ls 1 0 = 0 := by rw [← yc6 0 ls.length (Nat.le_refl _)]; exact yc7 _
 have Hpos : Hid (cpos ls 1 0 ≤ v15 ((yag l).drop p)) := Lib.hid (by rw [hPos]; exact Nat.zero_le _)
 -- the code's cells in a later world
 have Hdeep : Hid (∀ W, Touch w W (fun k => k = gr) → W.cell? ⟨g, 34, none⟩ = some (.int .i64 (yaC ls ls.length : Nat)) ∧ g < W.heap.size) := Lib.hid fun W hW => by
  obtain ⟨B2, _, h2⟩ := Hfar W hW
  exact ⟨h2.deep, h2.at.2⟩
 have Hstart : Hid (∀ W, Touch w W (fun k => k = gr) → ∀ j, 1 ≤ j → j ≤ yaC ls ls.length → W.cell? ⟨g, 2 + j, none⟩ = some (.int .i64 (cst ls j : Int))) := Lib.hid fun W hW j a1 a2 => by
  obtain ⟨B2, _, h2⟩ := Hfar W hW
  exact h2.start j a1 a2 (by omega)
 have Hrow : Hid (∀ W, Touch w W (fun k => k = gr) → ∀ j, j < 16 → ∃ A c, W.cell? ⟨g, 18 + j, none⟩ = some (.slice A (crow ls ls.length j).length c) ∧ (0 < (crow ls ls.length j).length → ∃ b off, A = some ⟨b, off, none⟩ ∧ b < W.heap.size ∧ ∀ k s : Nat, (crow ls ls.length j)[k]? = some s → W.cell? ⟨b, off + k, none⟩ = some (.int .i64 (s : Int)))) := Lib.hid fun W hW j a1 => by
  obtain ⟨B2, hb2, h2⟩ := Hfar W hW
  obtain ⟨A, c, e1, e2⟩ := h2.row j a1
  refine ⟨A, c, e1, fun hn => ?_⟩
  obtain ⟨b, off, e3, hb, e4⟩ := e2 hn
  exact ⟨b, off, e3, Nat.lt_of_lt_of_le hb hb2, e4⟩
 have HR := Lib.hid hR
 have hPL : 8 * l.length - p ≤ 8796093022208 := by omega
 have Hget : Hid (∀ W (ga m : Nat), m + 1 ≤ 8 * l.length - p → RHold W ga l (p + m) → Calls Tryz.prog 89 #[.pointer (some ⟨ga, 0, none⟩), .int .i64 1] W fun e w' => e = .returned (.tuple #[.int .i64 (num (((yag l).drop (p + m)).take 1)), .int .i64 0]) ∧ RHold w' ga l (p + m + 1) ∧ Touch W w' (fun k => k = ga)) := Lib.hid fun W ga m hm hH => get_yes l (p + m) 1 ga W hl (by omega) (by omega) hH
 have Hno := Lib.hid fun W (ga : Nat) (hH : RHold W ga l (p + (8 * l.length - p))) => get_no l (p + (8 * l.length - p)) ga 1 4 W hl (by omega) hH (by
  unfold ybv
  rw [if_neg (by omega), if_pos (by rw [yay]; omega)]) (by omega)
 have Hmove := Lib.hid fun W (wd : Nat) (hm : wd ≤ 8 * l.length - p) (hw : wd ≤ 15) (hH : RHold W gr l p) => get_yes l p wd gr W hl (by omega) (by omega) hH
 clear h hfar Hfar hBw h15 hca hD hlen hR hl hp hF hE hE2 hbin hRl hg3 hPos
 generalize yaC ls ls.length = D at *
 generalize 8 * l.length - p = M at *
 have hDi : (1 : Int) ≤ (D : Int) ∧ (D : Int) ≤ 15 := by omega
 go_enter Tryz.func57, Tryz.ntmps57
 go_wp2_with (go_at_call 88; refine Hn.out.mono ?_; rintro e w1 ⟨rfl, rfl⟩)
 have HA0 : Hid (RHold (w.alloc (.cells #[.string ⟨l.toArray⟩, .int .i64 p] 134)) w.heap.size l (p + 0)) := Lib.hid (Blk.new w _ _)
 have HB0 : Hid (Below w.heap.size w (w.alloc (.cells #[.string ⟨l.toArray⟩, .int .i64 p] 134))) := Lib.hid ((Below.refl _ _).alloc (Nat.le_refl _) _)
 generalize w.alloc (.cells #[.string ⟨l.toArray⟩, .int .i64 p] 134) = wz at *
 go_loopw [7, 8, 9, 10, 11] (fun nx wx bx ex kx W => ∃ (m wd N : Nat), m + 1 = wd ∧ m ≤ D ∧ m ≤ M ∧ nx = .int .i64 N ∧ wx = .int .i64 wd ∧ Hid (num (((yag l).drop p).take m) = N) ∧ Hid (cpos ls wd 0 ≤ v15 ((yag l).drop p)) ∧ Hid (RHold W w.heap.size l (p + m)) ∧ Hid (Below w.heap.size w W)) (fun _ wx _ _ _ _ => D + 1 - (intOf wx).toNat)
 case atStart => exact ⟨0, 1, 0, by omega, by omega, by omega, rfl, rfl, Lib.hid rfl, Hpos, HA0, HB0⟩
 case round =>
  obtain ⟨m, wd, N, hwd, hmD, hmM, rfl, rfl, HN, HV, HA, HB⟩ := hrel
  clear HA0 HB0 Hpos
  have hBW : Touch w wr (fun k => k = gr) := yak HB.out (Nat.le_refl _)
  obtain ⟨x1, x2⟩ := Hdeep.out wr hBW
  have HBW := Lib.hid hBW
  clear hBW
  by_cases hlt : wd ≤ D
  ·have hwi : (wd : Int) ≤ (D : Int) := by omega
   by_cases hend : m = M
   ·subst hend
    have Hf := Lib.hid (Hshort.out wd (by omega) hlt hwd HV.out)
    have Hn2 := Lib.hid (Hno.out wr w.heap.size HA.out)
    clear Hno Hget Hmove Hstart Hrow Hnum
    go_wp2_with (go_at_call 89; refine Hn2.out.mono ?_; rintro e w5 ⟨rfl, k5, rfl⟩)
    go_ret2
    rw [Hf.out]
    have hb2 : Below w.heap.size w (wr.drewN k5) := yaj HB.out _
    exact ⟨rfl, Blk.below HR.out hb2 hgl, yak hb2 (Nat.le_refl _)⟩
   ·have hm1 : m + 1 ≤ M := by omega
    have hwM : wd ≤ M := by omega
    have hw15 : wd ≤ 15 := by omega
    have hw16 : wd < 16 := by omega
    obtain ⟨b, hb1, hb2, hb3⟩ := Hnum.out m (by omega)
    have Hg := Lib.hid fun hH => Hget.out wr w.heap.size m hm1 hH
    rw [hb2] at Hg
    have hN1 := Hbig.out m (by omega)
    have hL := Hle.out wd hlt hwM HV.out
    have hst := Hstl.out wd hw15
    have hcnt := Hcnt.out wd
    have hH := fun k s => Hhit.out wd k s (by omega) hlt hwM
    have hMs := Hmiss.out wd hlt hwM
    rw [HN.out, hwd] at hb3
    rw [hb3] at hL hH hMs
    rw [HN.out] at hN1
    obtain ⟨q, hq⟩ : ∃ q, 2 * N + b - cst ls wd = q := ⟨_, rfl⟩
    have Hst2 := Lib.hid fun W2 hW2 => Hstart.out W2 hW2 wd (by omega) hlt
    have Hrow2 := Lib.hid fun W2 hW2 => Hrow.out W2 hW2 wd hw16
    have Hh := Lib.hid hH
    have Hm := Lib.hid hMs
    have HN2 : Hid (num (((yag l).drop p).take (m + 1)) = 2 * N + b) := Lib.hid (by rw [hwd]; exact hb3)
    have Hmv := Lib.hid fun W2 hH => Hmove.out W2 wd hwM hw15 hH
    clear Hget Hno Hmove Hstart Hrow Hnum Hshort Hhit Hmiss Hle hb2 hb3 hH hMs Hbig
    generalize num (((yag l).drop p).take wd) = NW at *
    obtain ⟨C, hC⟩ : ∃ C, crow ls ls.length wd = C := ⟨_, rfl⟩
    rw [hC] at Hrow2 Hh Hm hcnt
    have hCC := Lib.hid hC
    clear hC
    obtain ⟨cn, hcn⟩ : ∃ cn, C.length = cn := ⟨_, rfl⟩
    rw [hcn] at Hrow2 Hm hcnt
    have Hcn := Lib.hid hcn
    clear hcn
    generalize cst ls wd = st at *
    have hk : 2 * (N : Int) + (b : Int) - (st : Int) = (q : Int) := by omega
    have hbi : (0 : Int) ≤ (b : Int) ∧ (b : Int) ≤ 1 ∧ (N : Int) < 32768 ∧ (st : Int) ≤ 32768 ∧ (cn : Int) ≤ 257 := by omega
    by_cases hqc : q < cn
    ·have hqi : (0 : Int) ≤ (q : Int) ∧ (q : Int) < (cn : Int) := by omega
     obtain ⟨sy, hsy⟩ : ∃ sy, C[q]? = some sy := ⟨_, List.getElem?_eq_getElem (by rw [Hcn.out]; exact hqc)⟩
     have Hf := Lib.hid (Hh.out q sy (by omega) hsy)
     have Hrow3 : Hid (∀ W2, Touch w W2 (fun k => k = gr) → ∃ b off c, W2.cell? ⟨g, 18 + wd, none⟩ = some (.slice (some ⟨b, off, none⟩) cn c) ∧ W2.cell? ⟨b, off + q, none⟩ = some (.int .i64 (sy : Int))) := Lib.hid fun W2 hW2 => by
      obtain ⟨A, c, e1, e2⟩ := Hrow2.out W2 hW2
      obtain ⟨b, off, rfl, _, e3⟩ := e2 (by omega)
      exact ⟨b, off, c, e1, e3 q sy hsy⟩
     clear Hrow2 hsy Hm Hh hq hL
     go_wp2_with (first
      | (go_at_call 89; (with_reducible refine (Hg.out HA.out).mono ?_); rintro e w5 ⟨rfl, hr5, ht5⟩; have Hb5 := Lib.hid (cget_after HB.out ht5); clear hr5 ht5; have y1 := Hst2.out w5 (yak Hb5.out (Nat.le_refl _)); obtain ⟨b5, o5, c5, y2, _⟩ := Hrow3.out w5 (yak Hb5.out (Nat.le_refl _)); obtain ⟨y3, y4⟩ := Hdeep.out w5 (yak Hb5.out (Nat.le_refl _)))
      | (go_at_call 89; (with_reducible refine (Hmv.out w5 (RHold.below HR.out Hb5.out hgl)).mono ?_); rintro e w6 ⟨rfl, hr6, ht6⟩; have Hr6 := Lib.hid hr6; have Ht6 := Lib.hid ht6; clear hr6 ht6; obtain ⟨b6, o6, c6, y5, y6⟩ := Hrow3.out w6 ((yak Hb5.out (Nat.le_refl _)).trans Ht6.out); obtain ⟨y7, y8⟩ := Hdeep.out w6 ((yak Hb5.out (Nat.le_refl _)).trans Ht6.out)))
     go_ret2
     rw [Hf.out]
     exact ⟨rfl, Hr6.out, (yak Hb5.out (Nat.le_refl _)).trans Ht6.out⟩
    ·have hqi : ¬ (q : Int) < (cn : Int) := by omega
     have HV2 := Lib.hid (Hm.out (by omega))
     have Hrow3 : Hid (∀ W2, Touch w W2 (fun k => k = gr) → ∃ A c, W2.cell? ⟨g, 18 + wd, none⟩ = some (.slice A cn c)) := Lib.hid fun W2 hW2 => by
      obtain ⟨A, c, e1, _⟩ := Hrow2.out W2 hW2
      exact ⟨A, c, e1⟩
     clear Hrow2 Hm Hh hq hL
     go_wp2_with (go_at_call 89; (with_reducible refine (Hg.out HA.out).mono ?_); rintro e w5 ⟨rfl, hr5, ht5⟩; have Hb5 := Lib.hid (cget_after HB.out ht5); have Ha5 := Lib.hid hr5; clear hr5 ht5; have y1 := Hst2.out w5 (yak Hb5.out (Nat.le_refl _)); obtain ⟨A5, c5, y2⟩ := Hrow3.out w5 (yak Hb5.out (Nat.le_refl _)); obtain ⟨y3, y4⟩ := Hdeep.out w5 (yak Hb5.out (Nat.le_refl _)))
     go_roundw
     case rel => exact ⟨m + 1, wd + 1, 2 * N + b, by omega, by omega, by omega, iv (by omega), iv (by omega), HN2, HV2, Ha5, Hb5⟩
     case measure => simp only [intOf]; omega
  ·obtain rfl : wd = D + 1 := by omega
   have hwi : ¬ ((D + 1 : Nat) : Int) ≤ (D : Int) := by omega
   have Hf := Lib.hid (Hend.out (by omega) HV.out)
   go_wp2
   go_ret2
   rw [Hf.out]
   exact ⟨rfl, Blk.below HR.out HB.out hgl, yak HB.out (Nat.le_refl _)⟩
end Go.Proofs.YtoinjdmlembgeaaGreat
