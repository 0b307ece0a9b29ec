/-
 What the law of the last of these texts stands on, part 21.
-/
import Derived.Test.YtoinjdmlembgeaaGreatMg19
import Derived.Laws.CopyOwn
import Derived.Laws.Bits64b
namespace Go.Proofs.YtoinjdmlembgeaaGreat
set_option linter.unusedSimpArgs false
set_option linter.unusedVariables false
open Go.ChangeShapes Go.WideShapes Go.ChangeAt Go.RowKit Go.Joins Go.Deep
def bch (x : Int) : UInt8 := UInt8.ofNat x.toNat
theorem bch_nat (b : UInt8) : bch (b.toNat : Int) = b := by
 unfold bch
 rw [Int.toNat_natCast]
 exact UInt8.ofNat_toNat
def bout (c : List Int) : Nat → List UInt8
 | 0 => []
 | k + 1 => bch (c.getD (bro c k) 0) :: bout c k
theorem yb6 (c : List Int) : ∀ k, (bout c k).length = k
 | 0 => rfl
 | k + 1 => by
  show (bout c k).length + 1 = k + 1
  rw [yb6 c k]
theorem bout_get (c : List Int) : ∀ m k, k < m → (bout c m).getD (m - 1 - k) 0 = bch (c.getD (bro c k) 0)
 | 0, k, h => by omega
 | m + 1, k, h => by
  show (bch (c.getD (bro c m) 0) :: bout c m).getD (m + 1 - 1 - k) 0 = _
  by_cases e : k = m
  ·subst e
   rw [show k + 1 - 1 - k = 0 from by omega]
   rfl
  ·rw [show m + 1 - 1 - k = (m - 1 - k) + 1 from by omega, List.getD_cons_succ]
   exact bout_get c m k (by omega)
def bok (l : List UInt8) (r : Nat) : Bool := (List.range l.length).all (fun k => decide (bro (bcol l r) k ≠ r)) && decide (bro (bcol l r) l.length = r)
theorem bok_iff (l : List UInt8) (r : Nat) : bok l r = true ↔ (∀ k, k < l.length → bro (bcol l r) k ≠ r) ∧ bro (bcol l r) l.length = r := by
 unfold bok
 rw [Bool.and_eq_true, List.all_eq_true, decide_eq_true_iff]
 constructor
 ·rintro ⟨h1, h2⟩
  exact ⟨fun k hk => of_decide_eq_true (h1 k (List.mem_range.2 hk)), h2⟩
 ·rintro ⟨h1, h2⟩
  exact ⟨fun k hk => decide_eq_true (h1 k (List.mem_range.1 hk)), h2⟩
def bbad (l : List UInt8) (r : Int) : Prop := (l.length = 0 ∧ r ≠ 0) ∨ (0 < l.length ∧ (r < 1 ∨ (l.length : Int) < r))
instance (l : List UInt8) (r : Int) : Decidable (bbad l r) := by unfold bbad; infer_instance
def btF (s : List UInt8) : List UInt8 × Int × Int := if 20000 < s.length then ([], 0, 3) else (yaY s, (bpr s : Int), 0)
def bsF (l : List UInt8) (r : Int) : List Int × Int := if 20000 < l.length then ([], 3) else if bbad l r then ([], 130) else (splc ((List.range (l.length + 1)).map (brk (bcol l r.toNat))), 0)
def biF (l : List UInt8) (r : Int) : List UInt8 × Int := if 20000 < l.length then ([], 3) else if bbad l r then ([], 130) else if bok l r.toNat = true then (bout (bcol l r.toNat) l.length, 0) else ([], 130)
theorem bgood {l : List UInt8} {r : Int} (h : ¬ bbad l r) : ∃ k : Nat, r = (k : Int) ∧ k ≤ l.length ∧ (0 < l.length → 0 < k) := by
 unfold bbad at h
 refine ⟨r.toNat, ?_, ?_, fun h2 => ?_⟩ <;> by_cases e : l.length = 0 <;> omega
theorem bpr_good (s : List UInt8) : ¬ bbad (yaY s) (bpr s) := by
 unfold bbad
 rw [ybb]
 have h1 := yfK s
 have h2 := bpr_pos s
 rintro (⟨h3, h4⟩ | ⟨h3, h4⟩)
 ·omega
 ·have := h2 h3
  omega
theorem bout_back (s : List UInt8) : ∀ k, k ≤ s.length → bout (sbw s) k = s.drop (s.length - k)
 | 0, _ => by
  rw [Nat.sub_zero, List.drop_length]
  rfl
 | k + 1, hk => by
  obtain ⟨h, e⟩ := bwalk s k (by omega)
  show bch ((sbw s).getD (bro (sbw s) k) 0) :: bout (sbw s) k = _
  rw [bout_back s k (by omega), sbw_get s _ h, e, List.drop_eq_getElem_cons (show s.length - (k + 1) < s.length by omega), show s.length - (k + 1) + 1 = s.length - k from by omega]
  unfold bval
  have e9 : s.length - k - 1 = s.length - (k + 1) := by omega
  rw [if_neg (by omega), bch_nat, e9, List.getD_eq_getElem?_getD, List.getElem?_eq_getElem (by omega)]
  rfl
theorem bok_back (s : List UInt8) : bok (yaY s) (bpr s) = true := by
 rw [bok_iff, bcol_sbw, ybb]
 obtain ⟨h0, e0⟩ := bpr_get s
 constructor
 ·intro k hk e
  obtain ⟨h, e2⟩ := bwalk s k (by omega)
  simp only [e] at e2
  omega
 ·obtain ⟨h, e2⟩ := bwalk s s.length (Nat.le_refl _)
  exact sarr_inj s _ _ h h0 (by omega)
theorem bback (s : List UInt8) (h : s.length ≤ 20000) : biF (yaY s) (bpr s) = (s, 0) := by
 unfold biF
 rw [if_neg (by rw [ybb]; omega), if_neg (bpr_good s), Int.toNat_natCast, if_pos (bok_back s), bcol_sbw, ybb, bout_back s _ (Nat.le_refl _), Nat.sub_self]
 rfl
theorem bcol_byte (l : List UInt8) (r i : Nat) (h : r ≤ l.length) (hi : i < l.length + 1) (hne : i ≠ r) : ∃ b : UInt8, (bcol l r).getD i 0 = (b.toNat : Int) := by
 rcases Nat.lt_or_gt_of_ne hne with h2 | h2
 ·exact ⟨_, ygv l r i h h2⟩
 ·exact ⟨_, yeF l r i h h2 hi⟩
theorem bcol_inj (l t : List UInt8) (r q : Nat) (h : r ≤ l.length) (k : q ≤ t.length) (e : bcol l r = bcol t q) : l = t ∧ r = q := by
 have hl := congrArg List.length e
 rw [ya3 l r h, ya3 t q k] at hl
 have er : r = q := by
  by_cases e2 : r = q
  ·exact e2
  ·have h1 := bcol_at l r h
   have h2 := bcol_ge t q r k (by omega) e2
   rw [e] at h1
   omega
 subst er
 unfold bcol at e
 have hlen : (bbs (l.take r)).length = (bbs (t.take r)).length := by
  rw [ycI, ycI, List.length_take, List.length_take]
  omega
 obtain ⟨e1, e2⟩ := List.append_inj e hlen
 have e3 := bbs_inj _ _ e1
 have e4 := bbs_inj _ _ (List.cons.inj e2).2
 refine ⟨?_, rfl⟩
 rw [← List.take_append_drop r l, ← List.take_append_drop r t, e3, e4]
section
variable (l : List UInt8) (r : Nat) (h : r ≤ l.length) (hN : ∀ k, k < l.length → bro (bcol l r) k ≠ r)
include h hN
theorem yff (k : Nat) (hk : k < l.length) : (bcol l r).getD (bro (bcol l r) k) 0 = (((bout (bcol l r) l.length).getD (l.length - 1 - k) 0).toNat : Int) := by
 obtain ⟨b, e⟩ := bcol_byte l r (bro (bcol l r) k) h (by have := yda (bcol l r) (by rw [ya3 l r h]; omega) k; rw [ya3 l r h] at this; exact this) (hN k hk)
 rw [bout_get _ _ _ hk, e, bch_nat]
theorem bonly_lt : ∀ i j, i ≤ l.length → j ≤ l.length → (slt (bout (bcol l r) l.length) (l.length - i) (l.length - j) = true ↔ bro (bcol l r) i < bro (bcol l r) j)
 | i, 0, hi, _ => by
  unfold slt
  rw [Nat.sub_zero, show (bout (bcol l r) l.length).drop l.length = [] from List.drop_of_length_le (by rw [yb6]; omega), ycz]
  constructor
  ·intro h
   cases h
  ·intro h
   exact absurd h (Nat.not_lt_zero _)
 | 0, j + 1, _, hj => by
  have h1 := yfd l r h hN 0 (j + 1) (by omega) hj
  unfold slt
  rw [Nat.sub_zero, show (bout (bcol l r) l.length).drop l.length = [] from List.drop_of_length_le (by rw [yb6]; omega), List.drop_eq_getElem_cons (show l.length - (j + 1) < (bout (bcol l r) l.length).length by rw [yb6]; omega)]
  have e0 : bro (bcol l r) 0 = 0 := rfl
  rw [e0] at h1 ⊢
  constructor
  ·intro _
   exact Nat.pos_of_ne_zero fun e => h1 e.symm
  ·intro _
   rfl
 | i + 1, j + 1, hi, hj => by
  have hl := yb6 (bcol l r) l.length
  have hi2 : l.length - (i + 1) < (bout (bcol l r) l.length).length := by omega
  have hj2 : l.length - (j + 1) < (bout (bcol l r) l.length).length := by omega
  have b1 := yff l r h hN i (by omega)
  have b2 := yff l r h hN j (by omega)
  have g : ∀ i, (hi : l.length - (i + 1) < (bout (bcol l r) l.length).length) → (bout (bcol l r) l.length).getD (l.length - 1 - i) 0 = (bout (bcol l r) l.length)[l.length - (i + 1)] := fun i hi => by
   have e9 : l.length - 1 - i = l.length - (i + 1) := by omega
   rw [e9, List.getD_eq_getElem?_getD, List.getElem?_eq_getElem hi, Option.getD_some]
  rw [g i hi2] at b1
  rw [g j hj2] at b2
  have ih := bonly_lt i j (by omega) (by omega)
  have hc := ya3 l r h
  show _ ↔ brk (bcol l r) (bro (bcol l r) i) < brk (bcol l r) (bro (bcol l r) j)
  rw [brk_iff _ (yda _ (by omega) i) (yda _ (by omega) j), yeq, bslt_step _ _ _ hi2 hj2, b1, b2, show l.length - (i + 1) + 1 = l.length - i from by omega, show l.length - (j + 1) + 1 = l.length - j from by omega, ih]
  constructor
  ·rintro (h | ⟨h, h2⟩)
   ·exact Or.inl (by omega)
   ·exact Or.inr ⟨by rw [h], h2⟩
  ·rintro (h | ⟨h, h2⟩)
   ·exact Or.inl (by omega)
   ·exact Or.inr ⟨UInt8.toNat_inj.1 (by omega), h2⟩
theorem bonly_perm : ((List.range (l.length + 1)).map fun q => bro (bcol l r) (l.length - q)).Perm (List.range (l.length + 1)) := by
 refine wperm ?_ ?_ (by rw [List.length_map, List.length_range])
 ·rw [List.nodup_iff_pairwise_ne, List.pairwise_iff_getElem]
  intro i j hi hj hij
  rw [List.length_map, List.length_range] at hj
  rw [List.getElem_map, List.getElem_map, List.getElem_range, List.getElem_range]
  exact (yfd l r h hN (l.length - j) (l.length - i) (by omega) (by omega)).symm
 ·intro x hx
  obtain ⟨k, _, rfl⟩ := List.mem_map.1 hx
  have := yda (bcol l r) (by rw [ya3 l r h]; omega) (l.length - k)
  rw [ya3 l r h] at this
  exact this
theorem bonly_row (i : Nat) (hi : i ≤ l.length) : ∃ k : bro (bcol l r) i < (sarr (bout (bcol l r) l.length)).length, (sarr (bout (bcol l r) l.length))[bro (bcol l r) i] = l.length - i := by
 have hl := yb6 (bcol l r) l.length
 obtain ⟨k, hk, e⟩ := bat (bout (bcol l r) l.length) (l.length - i) (by omega)
 have hc := wsort_idx (ycx _) (ybT (bout (bcol l r) l.length)) k hk
 rw [e, (yeA _).countP_eq, hl] at hc
 have hb : bro (bcol l r) i ≤ l.length + 1 := by
  have := yda (bcol l r) (by rw [ya3 l r h]; omega) i
  rw [ya3 l r h] at this
  omega
 have h2 := wcount_below (l.length + 1) _ hb
 rw [← (bonly_perm l r h hN).countP_eq, List.countP_map] at h2
 have e2 : k = bro (bcol l r) i := by
  rw [← hc, ← h2]
  refine List.countP_congr fun q hq => ?_
  rw [List.mem_range] at hq
  have := bonly_lt l r h hN (l.length - q) i (by omega) hi
  rw [show l.length - (l.length - q) = q from by omega] at this
  rw [this]
  simp
 exact ⟨by omega, by simp only [← e2]; exact e⟩
theorem bonly_col (hE : bro (bcol l r) l.length = r) : sbw (bout (bcol l r) l.length) = bcol l r := by
 have hl := yb6 (bcol l r) l.length
 apply List.ext_getElem
 ·rw [sbw_len, hl, ya3 l r h]
 ·intro a h1 h2
  have hm : a ∈ (List.range (l.length + 1)).map (bro (bcol l r)) := (bro_perm l r h hN).mem_iff.2 (by rw [List.mem_range, ← ya3 l r h]; exact h2)
  obtain ⟨k, hk, e⟩ := List.mem_map.1 hm
  rw [List.mem_range] at hk
  obtain ⟨h3, e3⟩ := bonly_row l r h hN k (by omega)
  have e4 := sbw_get _ _ h3
  have key : (sbw (bout (bcol l r) l.length)).getD a 0 = (bcol l r).getD a 0 := by
   rw [← e, e4, e3]
   by_cases hkn : k = l.length
   ·subst hkn
    rw [Nat.sub_self, hE, bcol_at l r h]
    rfl
   ·rw [yff l r h hN k (by omega)]
    unfold bval
    rw [if_neg (by omega), show l.length - k - 1 = l.length - 1 - k from by omega]
  rw [List.getD_eq_getElem?_getD, List.getD_eq_getElem?_getD, List.getElem?_eq_getElem h1, List.getElem?_eq_getElem h2] at key
  exact key
end
theorem bonly (l : List UInt8) (r : Nat) (h : r ≤ l.length) (hk : bok l r = true) : yaY (bout (bcol l r) l.length) = l ∧ bpr (bout (bcol l r) l.length) = r := by
 obtain ⟨hN, hE⟩ := (bok_iff l r).1 hk
 have := bonly_col l r h hN hE
 rw [← bcol_sbw] at this
 exact bcol_inj _ _ _ _ (by rw [ybb]; exact yfK _) h this
theorem bi_only (l : List UInt8) (r : Int) (h : (biF l r).2 = 0) : btF (biF l r).1 = (l, r, 0) ∧ (biF l r).1.length = l.length := by
 unfold biF at h ⊢
 by_cases h1 : 20000 < l.length
 ·rw [if_pos h1] at h
  cases h
 ·rw [if_neg h1] at h ⊢
  by_cases h2 : bbad l r
  ·rw [if_pos h2] at h
   cases h
  ·rw [if_neg h2] at h ⊢
   obtain ⟨k, rfl, hk, _⟩ := bgood h2
   rw [Int.toNat_natCast] at h ⊢
   by_cases h3 : bok l k = true
   ·rw [if_pos h3]
    obtain ⟨e1, e2⟩ := bonly l k hk h3
    unfold btF
    dsimp only
    rw [if_neg (by rw [yb6]; exact h1), e1, e2, yb6]
    exact ⟨rfl, rfl⟩
   ·rw [if_neg h3] at h
    cases h
theorem bi_none (l : List UInt8) (r : Int) (h : (biF l r).2 ≠ 0) : (biF l r).1 = [] := by
 unfold biF at h ⊢
 split
 ·rfl
 ·split
  ·rfl
  ·split
   ·rename_i h1 h2 h3
    rw [if_neg h1, if_neg h2, if_pos h3] at h
    exact absurd rfl h
   ·rfl
theorem size_any (n : Int) (w : World) (h : n < 9223372036854775808) : Calls Tryz.prog 70 #[.int .i64 n] w fun e w' => e = .returned (.int .i64 (sizeF n)) ∧ w = w' := by
 by_cases h0 : n < 0
 ·have fin : sizeF n = 0 := by simp [sizeF, putB, h0]
  rw [fin]
  clear fin
  go_enter Tryz.func70, Tryz.ntmps70
  go_wp2
  go_ret
  exact ⟨rfl, rfl⟩
 ·obtain ⟨m, rfl⟩ := Int.eq_ofNat_of_zero_le (by omega : 0 ≤ n)
  have hm : m < 128 ^ (8 + 1) := by rw [pow9]; omega
  have fin : sizeF (m : Int) = ((dg 9 m).length : Int) := by unfold sizeF; rw [yec (by omega), Int.toNat_natCast]
  rw [fin]
  clear fin
  have st : Hid (m < 128 ^ (8 + 1) ∧ 1 + (dg (8 + 1) m).length = (dg 9 m).length + 1) := Lib.hid ⟨hm, Nat.add_comm _ _⟩
  clear hm
  generalize hL : (dg 9 m).length = L at st ⊢
  have hL' := Lib.hid hL
  clear hL
  go_enter Tryz.func70, Tryz.ntmps70
  go_wp2
  go_loop [0, 3] (fun n s => ∃ (f k c : Nat), n = .int .i64 (k : Int) ∧ s = .int .i64 (c : Int) ∧ c + f ≤ 9 ∧ (k : Int) < 9223372036854775808 ∧ Hid (k < 128 ^ (f + 1) ∧ c + (dg (f + 1) k).length = L + 1)) (fun n _ => match n with | .int _ m => m.toNat | _ => 0)
  case atStart => exact ⟨8, m, 1, rfl, rfl, by omega, by omega, ⟨st.1, by rw [← hL'.out]; exact Nat.add_comm _ _⟩⟩
  case round =>
   obtain ⟨f, k, c, rfl, rfl, hc, hk, hd⟩ := hrel
   clear st hL' h h0
   by_cases h128 : 128 ≤ (k : Int)
   ·go_wp2
    obtain ⟨hd1, hd2⟩ := hd.out
    cases f with
    | zero => exfalso; simp at hd1; omega
    | succ f =>
     have hdiv : k / 128 < 128 ^ (f + 1) := by rw [Nat.div_lt_iff_lt_mul (by omega)]; rw [Nat.pow_succ] at hd1; exact hd1
     have e : dg (f + 1 + 1) k = UInt8.ofNat (128 + k % 128) :: dg (f + 1) (k / 128) := by rw [dg, if_neg (by omega)]
     rw [e, List.length_cons] at hd2
     refine ⟨⟨f, k / 128, c + 1, iv (by omega), iv (by omega), by omega, by omega, hdiv, by omega⟩, ?_⟩
     show Int.toNat _ < Int.toNat _
     omega
   ·go_wp2
    obtain ⟨hd1, hd2⟩ := hd.out
    have e : dg (f + 1) k = [UInt8.ofNat k] := by rw [dg, if_pos (by omega)]
    rw [e] at hd2
    go_ret
    exact ⟨congrArg Ending.returned (iv (by simp at hd2; omega)), rfl⟩
theorem tmask (d : Nat) (h : d < 4294967296) : bits .and .u64 (d : Int) 4294967295 = (d : Int) := by
 have h1 := bits_and_u64_nat d 4294967295 (by omega) (by omega)
 have e : d &&& 4294967295 = d % 4294967296 := Nat.and_two_pow_sub_one_eq_mod d 32
 rw [e, Nat.mod_eq_of_lt h] at h1
 exact h1
set_option maxRecDepth 100000 in
set_option maxHeartbeats 2000000 in
theorem tmul64_one (z : Int) (h0 : 0 ≤ z) (h1 : z ≤ 1000000) (w : World) :
  Calls Tryz.prog 160 #[.int .u64 1, .int .u64 z] w fun e w' => e = .returned (.tuple #[.int .u64 0, .int .u64 z]) ∧ w = w' := by
 have m1 : bits .and .u64 1 4294967295 = 1 := tmask 1 (by decide)
 have m0 : bits .and .u64 0 4294967295 = 0 := tmask 0 (by decide)
 have m2 : bits .and .u64 z 4294967295 = z := by
  obtain ⟨d, rfl⟩ := Int.eq_ofNat_of_zero_le h0
  exact tmask d (by omega)
 have m3 : z / 4294967296 = 0 := by omega
 go_enter Tryz.func160, Tryz.ntmps160
 go_wp2
 go_ret2
 exact ⟨rfl, rfl⟩
set_option maxRecDepth 100000 in
set_option maxHeartbeats 2000000 in
theorem tmul_one (z : Int) (h0 : 0 ≤ z) (h1 : z ≤ 1000000) (w : World) :
  Calls Tryz.prog 149 #[.int .u64 1, .int .u64 z] w fun e w' => e = .returned (.tuple #[.int .u64 0, .int .u64 z]) ∧ w = w' := by
 go_enter Tryz.func149, Tryz.ntmps149
 go_wp2_with (go_at_call 160; refine (tmul64_one z h0 h1 _).mono ?_; rintro e w1 ⟨rfl, rfl⟩)
 go_ret2
 exact ⟨rfl, rfl⟩
theorem ye5 : (Tryz.prog.info? 3).map (fun i => (i.zero, i.size, i.bytes)) = some (some (.int .i64 0), 1, 8) := by kernel_rfl
theorem tints_zero (n : Nat) : madeCells #[.int .i64 0] n = (ints (List.replicate n 0)).toArray := by
 unfold ints
 apply Array.ext'
 simp [madeCells, Nat.mod_one]
 rw [List.map_const', List.length_range]
theorem tmk_ints (n : Int) (N : Nat) (hN : (N : Int) = n) (h : N ≤ 17592186044416) (w : World) :
  (Instr.makeSlice 28 (.int .i64 n) (.int .i64 n)).run Tryz.prog w = .ok (.slice (some ⟨w.heap.size, 0, none⟩) N N) (w.alloc (.cells (ints (List.replicate N 0)).toArray 3)) := by
 subst hN
 rw [← tints_zero]
 exact run_make_row' (P := Tryz.prog) 28 3 (.int .i64 0) 8 Tryz.underlying28 ye5 rfl .i64 .i64 N (by omega) (by omega) w
def trow (x : Int) (d k : Nat) : List Int := List.replicate k x ++ List.replicate (d - k) 0
theorem trow_len (x : Int) (d k : Nat) (h : k ≤ d) : (ints (trow x d k)).length = d := by rw [yab]; simp [trow]; omega
theorem trow_zero (x : Int) (d : Nat) : trow x d 0 = List.replicate d 0 := by simp [trow]
theorem trow_all (x : Int) (d : Nat) : trow x d d = List.replicate d x := by simp [trow]
theorem ygX (x : Int) (d k m : Nat) (h : k + m ≤ d) : splice (ints (trow x d k)) k (ints (List.replicate m x)) = ints (trow x d (k + m)) := by
 unfold splice trow ints
 rw [List.length_map, List.length_replicate, ← List.map_take, ← List.map_drop, ← List.map_append, ← List.map_append]
 congr 1
 rw [List.take_left' (by simp), ← List.drop_drop, List.drop_left' (by simp), List.drop_replicate, ← List.append_assoc, List.replicate_append_replicate, show d - k - m = d - (k + m) from by omega]
theorem trow_get (x : Int) (d k j : Nat) (h : j < k) : (ints (trow x d k)).toArray[j]? = some (.int .i64 x) := by
 unfold ints trow
 simp [List.getElem?_append, h]
theorem yhs (l : List Int) : ∀ u ∈ ints l, u.oneCell' = true := by
 intro u hu
 obtain ⟨b, _, rfl⟩ := List.mem_map.1 hu
 rfl
theorem trep_src {w : World} {g d k m : Nat} {x : Int} {t : TypeId} (h : Blk w g t (ints (trow x d k)).toArray) (hm : m ≤ k) : ∀ j v, (ints (List.replicate m x))[j]? = some v → w.cell? ((⟨g, 0, none⟩ : Addr).add j) = some v := by
 intro j v hj
 have hlt : j < m := by
  have := (List.getElem?_eq_some_iff.1 hj).1
  rw [yab, List.length_replicate] at this
  exact this
 rw [ydW, Nat.zero_add, h.cell, trow_get x d k j (by omega), ← hj]
 simp [ints, hlt]
set_option maxRecDepth 100000 in
set_option maxHeartbeats 4000000 in
theorem trepeat_any (x : Int) (A : Option Addr) (c d : Nat) (w : World) (h0 : 0 < d) (hd : d ≤ 1000000) (hr : Reads w w.heap.size 1 A 1 (ints [x])) :
  Calls Tryz.prog 125 #[.slice A 1 c, .int .i64 (d : Int)] w fun e w' => ∃ g, e = .returned (.slice (some ⟨g, 0, none⟩) d d) ∧ w.heap.size ≤ g ∧ Blk w' g 3 (ints (List.replicate d x)).toArray ∧ Below w.heap.size w w' := by
 obtain ⟨b, off, rfl, hb, hc⟩ := hr.2 (by omega)
 have hmk := fun w => tmk_ints (d : Int) d rfl (by omega) w
 have hi0 : (0 : Int) < (d : Int) ∧ (d : Int) ≤ 1000000 := by omega
 have hsrc : ∀ j v, (ints (List.replicate 1 x))[j]? = some v → (w.alloc (.cells (ints (trow x d 0)).toArray 3)).cell? ((⟨b, off, none⟩ : Addr).add j) = some v := by
  intro j v hj
  rw [ydW, World.cell?_alloc_lt w _ _ hb]
  exact hc j v hj
 have Hsrc := Lib.hid hsrc
 rw [← trow_zero x d] at hmk
 clear hc hr hsrc
 go_enter Tryz.func125, Tryz.ntmps125
 go_wp2_with (first
  | (go_at_call 149; refine (tmul_one (d : Int) (by omega) (by omega) _).mono ?_; rintro e w1 ⟨rfl, rfl⟩)
  | (refine wpList_copy_splice rfl _ _ _ _ rfl 3 Tryz.underlying28 (by kernel_rfl) _ _ d d 1 c rfl rfl w.heap.size 0 (ints (trow x d 0)) 3 (Blk.new w _ _) (ints (List.replicate 1 x)) ?c1 (fun _ => ⟨rfl, _, rfl, Hsrc.out⟩) ?c2 (yhs _) w.heap.size w ((Below.refl _ _).alloc (Nat.le_refl _) _) (Nat.le_refl _) ?_))

 case c1 =>
  rw [yab, List.length_replicate]
  exact (Nat.min_eq_left h0).symm
 case c2 => rw [trow_len _ _ _ (by omega), yab, List.length_replicate]; omega
 intro w1 hb1 hB1
 have Hb1 : Hid (Blk w1 w.heap.size 3 (ints (trow x d 1)).toArray) := Lib.hid (by
  have e : splice (ints (trow x d 0)) 0 (ints [x]) = ints (trow x d 1) := by
   have := ygX x d 0 1 (by omega)
   rwa [Nat.zero_add] at this
  have := hb1.out
  rw [e] at this
  exact this)
 have HB1 := Lib.hid hB1
 clear hb1 hB1 Hsrc hmk
 rw [yab]
 generalize hg : w.heap.size = g at *
 have Hg := Lib.hid hg
 clear hg
 go_wp2
 go_loopw [8] (fun i wr => ∃ k : Nat, 1 ≤ k ∧ k ≤ d ∧ i = .int .i64 k ∧ Hid (Blk wr g 3 (ints (trow x d k)).toArray) ∧ Hid (Below g w wr)) (fun i _ => d - (intOf i).toNat)
 case atStart => exact ⟨1, by omega, by omega, rfl, Hb1, HB1⟩
 case round =>
  obtain ⟨k, hk1, hk2, rfl, HB, HO⟩ := hrel
  by_cases hlt : k < d
  ·have hki : (0 : Int) < (k : Int) ∧ (k : Int) < (d : Int) := by omega
   obtain ⟨m, hm⟩ : ∃ m, Nat.min k (d - k) = m := ⟨_, rfl⟩
   have hmk : 1 ≤ m ∧ m ≤ k ∧ k + m ≤ d := by
    have h1 : min k (d - k) = m := hm
    omega
   have hlen : (ints (List.replicate m x)).length = m := by rw [yab, List.length_replicate]
   have Hs := Lib.hid (ygX x d k m hmk.2.2)
   have Hsrc := Lib.hid (trep_src HB.out hmk.2.1)
   have hkl : ((d - k : Nat) : Int) = (d : Int) - (k : Int) := by omega
   have hkm : (k : Int) + (m : Int) ≤ 1000000 ∧ (1 : Int) ≤ (m : Int) := by omega
   have Hlen := Lib.hid hlen
   have Hc3 : Hid ((ints (List.replicate m x)).length = Nat.min k (d - k)) := Lib.hid (by rw [hlen, hm])
   have Hc4 : Hid (k + (ints (List.replicate m x)).length ≤ (ints (trow x d k)).length) := Lib.hid (by rw [trow_len _ _ _ (by omega), hlen]; omega)
   have hnk : ¬ d = k := by omega
   have hwr : IntKind.i64.wrap ((k : Int) + (m : Int)) = (k : Int) + (m : Int) := by rw [IntKind.wrap_i64]; omega
   clear hlen hm
   go_wp2
   refine wp_region_held_drew (S := (fun _ => True)) (by kernel_rfl) (trivial) (fun hHeld => ?_)
   refine wpAnyH_take (i := 0) (oi := ⟨some 38, Op.move (Operand.tmp 8), 3, _, #[], none⟩) (v := ?_) rfl (by kernel_rfl) (by kernel_rfl) (by kernel_rfl) (fun _ _ _ h => h) (Or.inl ⟨by rfl, ?_⟩) hHeld ?_
   rotate_left
   ·(intro wz hSw; go_simp; try (with_reducible rfl))
   try simp only [Act.put, List.setIfInBounds_toArray, List.set_cons_zero, List.set_cons_succ]
   refine wpAnyH_take (i := 1) (oi := ⟨some 39, Op.move (Operand.tmp 7), 28, _, #[], none⟩) (v := ?_) rfl (by kernel_rfl) (by kernel_rfl) (by kernel_rfl) (fun _ _ _ h => h) (Or.inl ⟨by rfl, ?_⟩) hHeld ?_
   rotate_left
   ·(intro wz hSw; go_simp; try (with_reducible rfl))
   try simp only [Act.put, List.setIfInBounds_toArray, List.set_cons_zero, List.set_cons_succ]
   refine wpAnyH_take (i := 2) (oi := ⟨some 40, Op.move (Operand.tmp 8), 3, _, #[], none⟩) (v := ?_) rfl (by kernel_rfl) (by kernel_rfl) (by kernel_rfl) (fun _ _ _ h => h) (Or.inl ⟨by rfl, ?_⟩) hHeld ?_
   rotate_left
   ·(intro wz hSw; go_simp; try (with_reducible rfl))
   try simp only [Act.put, List.setIfInBounds_toArray, List.set_cons_zero, List.set_cons_succ]
   refine wpAnyH_take (i := 3) (oi := ⟨some 41, Op.slice 28 (Operand.tmp 39) (some (Operand.tmp 40)) none none, 28, _, #[{ on := 1, ground := Ground.data }, { on := 2, ground := Ground.data }], none⟩) (v := ?_) rfl (by kernel_rfl) (by kernel_rfl) (by kernel_rfl) (fun _ _ _ h => h) (Or.inl ⟨by rfl, ?_⟩) hHeld ?_
   rotate_left
   ·(intro wz hSw; go_simp; try (with_reducible rfl))
   try simp only [Act.put, List.setIfInBounds_toArray, List.set_cons_zero, List.set_cons_succ]
   refine wpAnyH_take (i := 4) (oi := ⟨some 42, Op.move (Operand.tmp 7), 28, _, #[], none⟩) (v := ?_) rfl (by kernel_rfl) (by kernel_rfl) (by kernel_rfl) (fun _ _ _ h => h) (Or.inl ⟨by rfl, ?_⟩) hHeld ?_
   rotate_left
   ·(intro wz hSw; go_simp; try (with_reducible rfl))
   try simp only [Act.put, List.setIfInBounds_toArray, List.set_cons_zero, List.set_cons_succ]
   refine wpAnyH_take (i := 5) (oi := ⟨some 43, Op.move (Operand.tmp 8), 3, _, #[], none⟩) (v := ?_) rfl (by kernel_rfl) (by kernel_rfl) (by kernel_rfl) (fun _ _ _ h => h) (Or.inl ⟨by rfl, ?_⟩) hHeld ?_
   rotate_left
   ·(intro wz hSw; go_simp; try (with_reducible rfl))
   try simp only [Act.put, List.setIfInBounds_toArray, List.set_cons_zero, List.set_cons_succ]
   refine wpAnyH_take (i := 6) (oi := ⟨some 44, Op.slice 28 (Operand.tmp 42) none (some (Operand.tmp 43)) none, 28, _, #[{ on := 4, ground := Ground.data }, { on := 5, ground := Ground.data }], none⟩) (v := ?_) rfl (by kernel_rfl) (by kernel_rfl) (by kernel_rfl) (fun _ _ _ h => h) (Or.inl ⟨by rfl, ?_⟩) hHeld ?_
   rotate_left
   ·(intro wz hSw; go_simp; try (with_reducible rfl))
   try simp only [Act.put, List.setIfInBounds_toArray, List.set_cons_zero, List.set_cons_succ]
   refine wpAnyH_ready (rs := [7]) (by kernel_rfl) (by simp) ?_
   refine AllReadyH.cons (o := ⟨some 45, Op.call { callee := Callee.builtin Builtin.copy, args := #[Operand.tmp 41, Operand.tmp 44], argTypes := #[28, 28] }, 3, _, #[{ on := 3, ground := Ground.data }, { on := 6, ground := Ground.data }], none⟩) rfl (fun K hK => ?_) AllReadyH.nil
   refine step_copy_splice (by rfl) (.tmp 41) (.tmp 44) 28 28 (by rfl) 3 Tryz.underlying28 (by kernel_rfl) _ _ (d - k) (d - k) k d (by rfl) (by rfl) g k (ints (trow x d k)) 3 HB.out.drew (ints (List.replicate m x)) Hc3.out (fun _ => ⟨rfl, _, rfl, Hsrc.out⟩) Hc4.out (yhs _) g w HO.out.drew (Nat.le_refl _) ?_
   intro w2 hb2 hB2
   rw [Hlen.out]
   refine hK.out _ _ (trivial) (fun hH => ?_)
   clear hK K hHeld
   have hHeld : True := trivial
   try simp only [Act.put, List.setIfInBounds_toArray, List.set_cons_zero, List.set_cons_succ]
   refine wpAnyH_take (i := 8) (oi := ⟨some 46, Op.binOp BinOp.add 3 (Operand.tmp 38) (Operand.tmp 45) 3, 3, _, #[{ on := 0, ground := Ground.data }, { on := 7, ground := Ground.data }], none⟩) (v := ?_) rfl (by kernel_rfl) (by kernel_rfl) (by kernel_rfl) (fun _ _ _ h => h) (Or.inl ⟨by rfl, ?_⟩) hHeld ?_
   rotate_left
   ·(intro wz hSw; go_simp; try (with_reducible rfl))
   try simp only [Act.put, List.setIfInBounds_toArray, List.set_cons_zero, List.set_cons_succ]
   refine wpAnyH_take (i := 9) (oi := ⟨some 8, Op.assign (Operand.tmp 46), 3, _, #[{ on := 8, ground := Ground.data }, { on := 7, ground := Ground.chain }, { on := 0, ground := Ground.phase }, { on := 1, ground := Ground.phase }, { on := 2, ground := Ground.phase }, { on := 3, ground := Ground.phase }, { on := 4, ground := Ground.phase }, { on := 5, ground := Ground.phase }, { on := 6, ground := Ground.phase }, { on := 7, ground := Ground.phase }, { on := 8, ground := Ground.phase }], none⟩) (v := ?_) rfl (by kernel_rfl) (by kernel_rfl) (by kernel_rfl) (fun _ _ _ h => h) (Or.inl ⟨by rfl, ?_⟩) hHeld ?_
   rotate_left
   ·(intro wz hSw; go_simp; try (with_reducible rfl))
   try simp only [Act.put, List.setIfInBounds_toArray, List.set_cons_zero, List.set_cons_succ]
   refine wpAnyH_done (by kernel_rfl) ?_ _
   have Hb2 := Lib.hid (show Blk w2 g 3 (ints (trow x d (k + m))).toArray by have := hb2.out; rw [Hs.out] at this; exact this)
   have HB2 := Lib.hid hB2
   clear hb2 hB2
   go_wp2
   go_roundw
   case rel => exact ⟨k + m, by omega, by omega, iv (by omega), Hb2, HB2⟩
   case measure => simp only [intOf]; omega
  ·obtain rfl : k = d := by omega
   have HB' : Hid (Blk wr g 3 (ints (List.replicate k x)).toArray) := Lib.hid (by rw [← trow_all x k]; exact HB.out)
   clear HB HB1 Hb1
   go_wp2
   go_ret
   exact ⟨g, rfl, Nat.le_of_eq Hg.out, HB'.out, by rw [Hg.out]; exact HO.out⟩
variable {ls : List Nat}
def crow (ls : List Nat) (i n : Nat) : List Nat := (List.range i).filter fun s => decide (0 < n ∧ ls.getD s 0 = n)
theorem yeY (n : Nat) : crow ls 0 n = [] := rfl
theorem ycc (i n : Nat) : crow ls (i + 1) n = crow ls i n ++ (if 0 < n ∧ ls.getD i 0 = n then [i] else []) := by
 unfold crow
 rw [List.range_succ, List.filter_append]
 congr 1
 by_cases h : 0 < n ∧ ls.getD i 0 = n
 ·rw [if_pos h, List.filter_cons, if_pos (by simpa using h)]; rfl
 ·rw [if_neg h, List.filter_cons, if_neg (by simpa using h)]; rfl
theorem crow_none (i : Nat) : crow ls i 0 = [] := by
 induction i with
 | zero => rfl
 | succ i ih => rw [ycc, ih, if_neg (by omega)]; rfl
theorem yep (i n : Nat) : (crow ls i n).length ≤ i := by
 have := List.length_filter_le (fun s => decide (0 < n ∧ ls.getD s 0 = n)) (List.range i)
 simpa [crow] using this
theorem crow_at (n k s : Nat) : ∀ (i : Nat), (crow ls i n)[k]? = some s → s < i ∧ 0 < n ∧ ls.getD s 0 = n ∧ (crow ls s n).length = k
 | 0, h => by simp [yeY] at h
 | i + 1, h => by
  rw [ycc] at h
  by_cases hk : k < (crow ls i n).length
  ·rw [List.getElem?_append_left hk] at h
   obtain ⟨h1, h2⟩ := crow_at n k s i h
   exact ⟨by omega, h2⟩
  ·rw [List.getElem?_append_right (by omega)] at h
   by_cases hp : 0 < n ∧ ls.getD i 0 = n
   ·rw [if_pos hp] at h
    have e : k - (crow ls i n).length = 0 := by
     rcases Nat.eq_zero_or_pos (k - (crow ls i n).length) with e | e
     ·exact e
     ·rw [List.getElem?_eq_none (by simp; omega)] at h
      cases h
    rw [e] at h
    have : i = s := by simpa using h
    subst this
    exact ⟨by omega, hp.1, hp.2, by omega⟩
   ·rw [if_neg hp] at h
    simp at h
theorem crow_mono (i n : Nat) : ∀ d, (crow ls i n).length ≤ (crow ls (i + d) n).length
 | 0 => Nat.le_refl _
 | d + 1 => by
  have := crow_mono i n d
  rw [show i + (d + 1) = i + d + 1 from rfl, ycc, List.length_append]
  omega
theorem ycP {l : List Nat} (s : Nat) (h : s < l.length) : l.getD s 0 = l[s] := by rw [List.getD_eq_getElem?_getD, List.getElem?_eq_getElem h]; rfl
theorem yg2 (n : Nat) (hn : 0 < n) (i : Nat) : ∀ d, (crow ls (i + d) n).length = (crow ls i n).length → cpos ls n (i + d) = cpos ls n i ∧ wat ls n (i + d) = wat ls n i
 | 0, _ => ⟨rfl, rfl⟩
 | d + 1, h => by
  have h1 := crow_mono (ls := ls) i n d
  have h2 := ycc (ls := ls) (i + d) n
  rw [show i + (d + 1) = i + d + 1 from rfl] at h ⊢
  by_cases hp : 0 < n ∧ ls.getD (i + d) 0 = n
  ·rw [h2, if_pos hp, List.length_append, List.length_singleton] at h
   omega
  ·have hne : ls.getD (i + d) 0 ≠ n := fun e => hp ⟨hn, e⟩
   rw [h2, if_neg hp, List.append_nil] at h
   obtain ⟨h3, h4⟩ := yg2 n hn i d h
   refine ⟨?_, ?_⟩
   ·rw [ye8 n (i + d) fun hs e => hne (by rw [ycP _ hs]; exact e), h3]
   ·rw [wat_skip ls n (i + d) hne, h4]
theorem crow_eq (n : Nat) (hn : 0 < n) (i j : Nat) (h : (crow ls i n).length = (crow ls j n).length) : cpos ls n i = cpos ls n j ∧ wat ls n i = wat ls n j := by
 rcases Nat.le_total i j with e | e
 ·obtain ⟨d, rfl⟩ := Nat.exists_eq_add_of_le e
  obtain ⟨a, b⟩ := yg2 n hn i d h.symm
  exact ⟨a.symm, b.symm⟩
 ·obtain ⟨d, rfl⟩ := Nat.exists_eq_add_of_le e
  exact yg2 n hn j d h
theorem crow_pos (n : Nat) (hn : 0 < n) : ∀ i, i ≤ ls.length → cpos ls n i = cpos ls n 0 + (crow ls i n).length * 2 ^ (15 - n)
 | 0, _ => by rw [yeY]; simp
 | i + 1, h => by
  have ih := crow_pos n hn i (by omega)
  have hg := ycP (l := ls) i (by omega)
  rw [ycc]
  by_cases hp : ls[i]'(by omega) = n
  ·rw [yhc n i (by omega) hp hn, ih, if_pos ⟨hn, by rw [hg]; exact hp⟩, List.length_append, List.length_singleton, Nat.add_mul, Nat.one_mul]
   omega
  ·rw [ye8 n i fun _ => hp, ih, if_neg (by rw [hg]; exact fun e => hp e.2), List.append_nil]
def cst (ls : List Nat) (n : Nat) : Nat := ybr ls n 0
theorem yhm (n : Nat) (hn : n ≤ 15) : cst ls n * 2 ^ (15 - n) = cpos ls n 0 := ycA n 0 hn
theorem cst_none : cst ls 0 = 0 := by
 unfold cst ybr
 rw [yc7, Nat.zero_div]
theorem crow_over (n : Nat) (hn : n ≤ 15) : cpos ls (n + 1) 0 = (cst ls n + (crow ls ls.length n).length) * 2 ^ (15 - n) := by
 rw [← yc6 n ls.length (Nat.le_refl _), Nat.add_mul, yhm n hn]
 rcases Nat.eq_zero_or_pos n with e | e
 ·subst e
  rw [yc7, yc7, crow_none]
  simp
 ·exact crow_pos n e ls.length (Nat.le_refl _)
theorem cst_next (n : Nat) (hn : n + 1 ≤ 15) : cst ls (n + 1) = 2 * (cst ls n + (crow ls ls.length n).length) := by
 have h1 := crow_over (ls := ls) n (by omega)
 have h2 := yhm (ls := ls) (n + 1) hn
 have h3 : 0 < (2 : Nat) ^ (15 - (n + 1)) := Nat.pow_pos (by omega)
 rw [show 15 - n = 15 - (n + 1) + 1 from by omega, Nat.pow_succ, Nat.mul_comm _ 2, ← Nat.mul_assoc, Nat.mul_comm _ 2] at h1
 rw [h1] at h2
 exact Nat.eq_of_mul_eq_mul_right h3 h2
theorem cst_word (n k s : Nat) (hn : 0 < n) (hn2 : n ≤ 15) (h : (crow ls ls.length n)[k]? = some s) : ybr ls n s = cst ls n + k ∧ s < ls.length ∧ ls.getD s 0 = n ∧ (crow ls s n).length = k := by
 obtain ⟨h1, _, h2, h3⟩ := crow_at n k s _ h
 refine ⟨?_, h1, h2, h3⟩
 have h4 := crow_pos (ls := ls) n hn s (by omega)
 have h5 := yhm (ls := ls) n hn2
 have h6 := ycA (ls := ls) n s hn2
 rw [h3, ← h5, ← Nat.add_mul] at h4
 rw [h4] at h6
 exact Nat.eq_of_mul_eq_mul_right (Nat.pow_pos (by omega)) h6
theorem cst_le (n : Nat) (hn : n ≤ 15) (hc : call ls ≤ 32768) : cst ls n ≤ 32768 := by
 have h1 := yhm (ls := ls) n hn
 have h2 := cpos_le (ls := ls) n 0
 have h3 : 0 < (2 : Nat) ^ (15 - n) := Nat.pow_pos (by omega)
 have h4 := Nat.mul_le_mul_left (cst ls n) h3
 omega
theorem cdeep_over (n : Nat) (h : ∀ s (hs : s < ls.length), ls[s] ≤ n) : ∀ m, cpos ls (n + 1 + m) 0 = cpos ls (n + 1) 0 ∧ wat ls (n + 1 + m) 0 = wat ls (n + 1) 0
 | 0 => ⟨rfl, rfl⟩
 | m + 1 => by
  obtain ⟨h1, h2⟩ := cdeep_over n h m
  have hz : (crow ls ls.length (n + 1 + m)).length = (crow ls 0 (n + 1 + m)).length := by
   have : crow ls ls.length (n + 1 + m) = [] := by
    unfold crow
    rw [List.filter_eq_nil_iff]
    intro s hs
    have hs2 := List.mem_range.1 hs
    have h3 := h s hs2
    have h4 := ycP (l := ls) s hs2
    simp only [decide_eq_true_eq]
    omega
   rw [this, yeY]
  obtain ⟨h5, h6⟩ := crow_eq (ls := ls) (n + 1 + m) (by omega) _ _ hz
  rw [yc6 _ _ (Nat.le_refl _)] at h5
  rw [wat_next _ _ _ (Nat.le_refl _)] at h6
  rw [show n + 1 + (m + 1) = n + 1 + m + 1 from rfl, h5, h6]
  exact ⟨h1, h2⟩
theorem cdeep_all (n : Nat) (hn : n ≤ 15) (h : ∀ s (hs : s < ls.length), ls[s] ≤ n) : cpos ls (n + 1) 0 = call ls ∧ wat ls (n + 1) 0 = wat ls 16 0 := by
 obtain ⟨h1, h2⟩ := cdeep_over n h (15 - n)
 rw [show n + 1 + (15 - n) = 16 from by omega] at h1 h2
 refine ⟨?_, h2.symm⟩
 rw [← h1]
 exact cpos_end fun x hx => by
  obtain ⟨i, hi, rfl⟩ := List.getElem_of_mem hx
  have := h i hi
  omega
section
variable {R : List Nat}
theorem cgo_bit (hb : Bin R) (k : Nat) (hk : k < R.length) : num ((R.drop k).take 1) = R[k] := by
 rw [List.drop_eq_getElem_cons hk, List.take_succ_cons, List.take_zero]
 simp [num]
theorem cgo_num (n : Nat) (hk : n < R.length) : num (R.take (n + 1)) = 2 * num (R.take n) + R[n] := num_next R n hk
theorem cgo_le (hb : Bin R) (n : Nat) (hn : n ≤ 15) (hl : n ≤ R.length) (hv : cpos ls n 0 ≤ v15 R) : cst ls n ≤ num (R.take n) := by
 rw [yd2 hb n hn hl, Nat.le_div_iff_mul_le (Nat.pow_pos (by omega)), yhm n hn]
 exact hv
theorem cgo_hit (h15 : ∀ x ∈ ls, x ≤ 15) (hc : call ls ≤ 32768) (hb : Bin R) (E : Int) (n : Nat) (hn : 0 < n) (hn2 : n ≤ 15) (hl : n ≤ R.length) (k s : Nat) (hk : num (R.take n) = cst ls n + k) (hs : (crow ls ls.length n)[k]? = some s) : ybs (wat ls 16 0) 0 R E = ((s : Int), (n : Int), 0) := by
 obtain ⟨h1, h2, h3, _⟩ := cst_word n k s hn hn2 hs
 have hg := ycP (l := ls) s h2
 have h4 : ls[s] = n := by omega
 have h5 := cget_found h15 hc hb E s h2 (by omega) (by omega) (by
  have h6 := ycA (ls := ls) n s hn2
  have h7 := (part_of (v := v15 R) (D := 2 ^ (15 - n)) (x := num (R.take n)) (Nat.pow_pos (by omega))).1 (yd2 hb n hn2 hl).symm
  rw [h4, ← h6, h1, ← hk]
  exact h7)
 rw [h4] at h5
 exact h5
theorem cgo_miss (hb : Bin R) (n : Nat) (hn2 : n ≤ 15) (hl : n ≤ R.length) (h : cst ls n + (crow ls ls.length n).length ≤ num (R.take n)) : cpos ls (n + 1) 0 ≤ v15 R := by
 rw [crow_over n hn2, ← Nat.le_div_iff_mul_le (Nat.pow_pos (by omega)), ← yd2 hb n hn2 hl]
 exact h
theorem cgo_short (h15 : ∀ x ∈ ls, x ≤ 15) (hc : call ls ≤ 32768) (hb : Bin R) (n D : Nat) (hn : 0 < n) (hn2 : n ≤ D) (hl : R.length + 1 = n) (hv : cpos ls n 0 ≤ v15 R) (hD : D = 1 ∨ call ls = 32768) (E : Int) (hE : R = [] → E = 4) : ybs (wat ls 16 0) 0 R E = (0, 0, 4) := by
 rcases hD with hD | hD
 ·have hR : R = [] := List.eq_nil_of_length_eq_zero (by omega)
  subst hR
  refine yel [] _ 0 E (fun j hj => ?_) (Or.inl (hE rfl))
  have hj2 : j < ls.length := by rw [yaF] at hj; exact hj
  by_cases hp : 0 < ls[j]
  ·right
   rw [(ycL h15 j hj2 hj hp).1]
   cases hbb : (begF [] (dig ls[j] (ybr ls ls[j] j))).2 with
   | false => rfl
   | true =>
    have := ((yeQ _ _).1 hbb).1
    rw [yad, List.length_nil] at this
    omega
  ·exact Or.inl (yd9 h15 j hj2 hj hp)
 ·obtain ⟨k, hk, hp, hv2⟩ := ye6 (ls := ls) (v15 R) 16 0 (by rw [cpos_end h15, hD]; exact v15_lt hb)
  refine cget_cut h15 hc hb E k hk hp ?_ hv2
  rcases Nat.lt_or_ge R.length ls[k] with e | e
  ·exact e
  ·have := ybN ls[k] k n 0 hk rfl hp (Or.inl (by omega))
   omega
theorem cget1_none (R : List Nat) : ∀ (ws : List (Int × Int)) (s : Nat) (E : Int), (∀ j (hj : j < ws.length), ws[j].2 = 0 ∨ (begF R (digI ws[j].1 ws[j].2)).1 = false ∧ (begF R (digI ws[j].1 ws[j].2)).2 = false) → ybs ws s R E = (0, 0, E)
 | [], s, E, _ => rfl
 | f :: t, s, E, h0 => by
  have hf := h0 0 (by simp)
  simp only [List.getElem_cons_zero] at hf
  have ih := cget1_none R t (s + 1) E (fun j hj => by
   have := h0 (j + 1) (by simpa using hj)
   simpa only [List.getElem_cons_succ] using this)
  unfold ybs
  by_cases hz : f.2 = 0
  ·rw [if_pos hz]
   exact ih
  ·rcases hf with hf | ⟨hf, hf2⟩
   ·exact absurd hf hz
   ·rw [if_neg hz, if_neg (by rw [hf2]; decide), if_neg (by rw [hf]; decide)]
    exact ih
theorem cgo_end (h15 : ∀ x ∈ ls, x ≤ 15) (hc : call ls ≤ 32768) (hb : Bin R) (D : Nat) (hD1 : 0 < D) (hD2 : D ≤ 15) (hd : ∀ s (hs : s < ls.length), ls[s] ≤ D) (hl : D ≤ R.length) (hv : cpos ls (D + 1) 0 ≤ v15 R) (E : Int) : ybs (wat ls 16 0) 0 R E = (0, 0, E) := by
 refine cget1_none R _ 0 E fun j hj => ?_
 have hj2 : j < ls.length := by rw [yaF] at hj; exact hj
 by_cases hp : 0 < ls[j]
 ·right
  have h1 := hd j hj2
  have h2 : (begF R (dig ls[j] (ybr ls ls[j] j))).2 = false := by
   cases hbb : (begF R (dig ls[j] (ybr ls ls[j] j))).2 with
   | false => rfl
   | true =>
    have h3 := ((yc8 h15 hc hb j hj2 hp).1 hbb).2
    have h4 := ybN ls[j] j (D + 1) 0 hj2 rfl hp (Or.inl (by omega))
    omega
  rw [(ycL h15 j hj2 hj hp).1]
  refine ⟨?_, h2⟩
  cases hbb : (begF R (dig ls[j] (ybr ls ls[j] j))).1 with
  | false => rfl
  | true =>
   have h3 := (ygT _ _).1 hbb
   rw [yad, List.take_of_length_le (l := dig _ _) (by rw [yad]; omega)] at h3
   have h4 := (yeQ R (dig ls[j] (ybr ls ls[j] j))).2 ⟨by rw [yad]; omega, by rw [yad]; exact h3⟩
   rw [h4] at h2
   cases h2
 ·exact Or.inl (yd9 h15 j hj2 hj hp)
end
def yaC (ls : List Nat) : Nat → Nat
 | 0 => 1
 | i + 1 => max (yaC ls i) (ls.getD i 0)
theorem yc1 : ∀ i, 1 ≤ yaC ls i
 | 0 => Nat.le_refl _
 | i + 1 => Nat.le_trans (yc1 i) (Nat.le_max_left _ _)
theorem yeL (h15 : ∀ s (hs : s < ls.length), ls[s] ≤ 15) : ∀ i, i ≤ ls.length → yaC ls i ≤ 15
 | 0, _ => by show 1 ≤ 15; omega
 | i + 1, h => by
  have h1 := yeL h15 i (by omega)
  have h2 := h15 i (by omega)
  have h3 := ycP (l := ls) i (by omega)
  show max _ _ ≤ 15
  omega
theorem cdeep_ge : ∀ i, i ≤ ls.length → ∀ s (hs : s < ls.length), s < i → ls[s] ≤ yaC ls i
 | 0, _, s, hs, h => by omega
 | i + 1, hi, s, hs, h => by
  show _ ≤ max (yaC ls i) (ls.getD i 0)
  by_cases e : s = i
  ·subst e
   rw [ycP _ hs]
   omega
  ·have := cdeep_ge i (by omega) s hs (by omega)
   omega
theorem cdeep_has : ∀ i, i ≤ ls.length → yaC ls i = 1 ∨ ∃ s, ∃ hs : s < ls.length, ls[s] = yaC ls i
 | 0, _ => Or.inl rfl
 | i + 1, hi => by
  show max (yaC ls i) (ls.getD i 0) = 1 ∨ ∃ s, ∃ hs : s < ls.length, ls[s] = max (yaC ls i) (ls.getD i 0)
  have hg := ycP (l := ls) i (by omega)
  rcases Nat.le_total (yaC ls i) (ls.getD i 0) with e | e
  ·exact Or.inr ⟨i, by omega, by omega⟩
  ·rw [Nat.max_eq_left e]
   exact cdeep_has i (by omega)
theorem yfm : ∀ (l : List Int), yap l ≤ 16384 * yau l ∧ ((∃ x ∈ l, 2 ≤ x) → yap l + 8192 ≤ 16384 * yau l)
 | [] => ⟨by simp [yau, yap], fun ⟨x, hx, _⟩ => by cases hx⟩
 | x :: t => by
  obtain ⟨h1, h2⟩ := yfm t
  have hu : yau (x :: t) = (if 0 < x then 1 else 0) + yau t := by
   unfold yau
   by_cases h : 0 < x
   ·rw [List.filter_cons, if_pos (by simpa using h), if_pos h, List.length_cons]; omega
   ·rw [List.filter_cons, if_neg (by simpa using h), if_neg h]; omega
  have hp : yap (x :: t) = (if 0 < x then 2 ^ (15 - x.toNat) else 0) + yap t := rfl
  rw [hu, hp]
  have hs : 0 < x → (2 : Nat) ^ (15 - x.toNat) ≤ 16384 := fun h => Nat.le_trans (Nat.pow_le_pow_right (by omega) (by omega)) (by decide : (2 : Nat) ^ 14 ≤ 16384)
  have hs2 : 2 ≤ x → (2 : Nat) ^ (15 - x.toNat) ≤ 8192 := fun h => Nat.le_trans (Nat.pow_le_pow_right (by omega) (by omega)) (by decide : (2 : Nat) ^ 13 ≤ 8192)
  by_cases h : 0 < x
  ·rw [if_pos h, if_pos h]
   have h3 := hs h
   refine ⟨by omega, fun ⟨y, hy, hy2⟩ => ?_⟩
   rcases List.mem_cons.1 hy with rfl | hy
   ·have := hs2 hy2
    omega
   ·have := h2 ⟨y, hy, hy2⟩
    omega
  ·rw [if_neg h, if_neg h]
   refine ⟨by omega, fun ⟨y, hy, hy2⟩ => ?_⟩
   rcases List.mem_cons.1 hy with rfl | hy
   ·omega
   ·have := h2 ⟨y, hy, hy2⟩
    omega
theorem cdeep_full {l : List Int} (h : yaw l = 0) : yaC (l.map Int.toNat) (l.map Int.toNat).length = 1 ∨ call (l.map Int.toNat) = 32768 := by
 rcases cdeep_has (ls := l.map Int.toNat) _ (Nat.le_refl _) with e | ⟨s, hs, e⟩
 ·exact Or.inl e
 ·by_cases hd : yaC (l.map Int.toNat) (l.map Int.toNat).length = 1
  ·exact Or.inl hd
  ·right
   have hge := yc1 (ls := l.map Int.toNat) (l.map Int.toNat).length
   obtain ⟨hl, hg, hca⟩ := ycp h
   have hs2 : s < l.length := by simpa using hs
   have hx : ∃ x ∈ l, 2 ≤ x := ⟨l[s], List.getElem_mem hs2, by rw [List.getElem_map] at e; omega⟩
   obtain ⟨h1, h2⟩ := yfm l
   have h3 := h2 hx
   have h4 := yfh l
   rw [yhq]
   unfold yaw at h
   rw [if_neg (by omega)] at h
   by_cases h5 : sumF l = 0 ∨ sumF l = 32768 ∨ ((yau l : Int) = 1 ∧ sumF l = 16384)
   ·unfold sumF at h5
    rw [if_pos hg] at h5
    omega
   ·rw [if_neg h5] at h
    cases h
end Go.Proofs.YtoinjdmlembgeaaGreat
namespace Go.Proofs.YtoinjdmlembgeaaGreat
set_option linter.unusedSimpArgs false
set_option linter.unusedVariables false
open Go.ChangeShapes Go.WideShapes Go.ChangeAt Go.RowKit Go.Joins Go.Deep
theorem bl_mul (m r : Nat) (h0 : m ≠ 0) (h : m * 2 ^ r < 4294967296) : bl (m * 2 ^ r) = bl m + r := by
 have hp : 0 < 2 ^ r := Nat.pow_pos (by omega)
 have hm : m ≤ m * 2 ^ r := Nat.le_mul_of_pos_right m hp
 obtain ⟨a, b, c⟩ := ycW 32 m h0 (by rw [show (2 : Nat) ^ 32 = 4294967296 from by decide]; omega) (by omega)
 have := bl_of (n := m * 2 ^ r) (k := bl m - 1 + r) (by rw [Nat.pow_add]; exact Nat.mul_le_mul_right _ b)
  (by rw [show bl m - 1 + r + 1 = bl m + r from by omega, Nat.pow_add]; exact Nat.mul_lt_mul_of_pos_right c hp) h
 omega
theorem lz_dig (m s : Nat) (l : List Nat) (h0 : m ≠ 0) (h : m < 2 ^ s) (hs : s ≤ 32) : lz (dig s m ++ l) = s - bl m ∧ bl m ≤ s := by
 have h32 : m < 2 ^ 32 := Nat.lt_of_lt_of_le h (Nat.pow_le_pow_right (by omega) hs)
 obtain ⟨a, b, c⟩ := ycW 32 m h0 h32 (by omega)
 obtain ⟨k, hk⟩ : ∃ k, bl m = k + 1 := ⟨bl m - 1, by omega⟩
 rw [hk] at b c ⊢
 rw [Nat.add_sub_cancel] at b
 have hks : k + 1 ≤ s := Nat.le_of_not_lt fun hgt => by
  have := Nat.pow_le_pow_right (n := 2) (by omega) (show s ≤ k by omega)
  omega
 refine ⟨?_, hks⟩
 have h1 := ycu (s - (k + 1)) (k + 1) m
 rw [show s - (k + 1) + (k + 1) = s from by omega, Nat.div_eq_of_lt c, ydA, yhg b c] at h1
 rw [h1, List.append_assoc, ygu, List.cons_append, lz_one]
 rfl
theorem row_left (l : List UInt8) (k : Nat) (hq : k / 8 < l.length) : (yag l).drop k = dig (8 - k % 8) (l[k / 8].toNat % 2 ^ (8 - k % 8)) ++ yag (l.drop (k / 8 + 1)) := by
 have h1 : k = 8 * (k / 8) + k % 8 := (Nat.div_add_mod k 8).symm
 rw [show (yag l).drop k = ((yag l).drop (8 * (k / 8))).drop (k % 8) from by rw [List.drop_drop, ← h1], row_drop, List.drop_eq_getElem_cons hq, yev, List.drop_append_of_le_length (by rw [yad]; omega)]
 congr 1
 have h2 := ycu (k % 8) (8 - k % 8) l[k / 8].toNat
 rw [show k % 8 + (8 - k % 8) = 8 from by omega] at h2
 rw [h2, List.drop_left' (yad _ _)]
 have h3 := dig_num (ycF (8 - k % 8) l[k / 8].toNat)
 rw [yad, ycK] at h3
 exact h3.symm
theorem shl_byte (b r : Nat) (hr : r < 8) : b * 2 ^ r % 256 = b % 2 ^ (8 - r) * 2 ^ r := by
 rw [show 256 = 2 ^ (8 - r) * 2 ^ r from by rw [← Nat.pow_add, show 8 - r + r = 8 from by omega], Nat.mul_mod_mul_right]
theorem left_zero (l : List UInt8) (p k : Nat) (hp : p ≤ k) (hq : k / 8 < l.length) (hz : ((yag l).drop p).take (k - p) = List.replicate (k - p) 0) (hb : l[k / 8].toNat * 2 ^ (k % 8) % 256 = 0) :
  ((yag l).drop p).take (8 * (k / 8 + 1) - p) = List.replicate (8 * (k / 8 + 1) - p) 0 := by
 have h1 := row_left l k hq
 rw [shl_byte _ _ (by omega)] at hb
 have hp' : 0 < 2 ^ (k % 8) := Nat.pow_pos (by omega)
 have hm : l[k / 8].toNat % 2 ^ (8 - k % 8) = 0 := by
  rcases Nat.mul_eq_zero.1 hb with h | h
  ·exact h
  ·omega
 rw [hm, ydA] at h1
 rw [show 8 * (k / 8 + 1) - p = (k - p) + (8 - k % 8) from by omega, List.take_add, List.drop_drop, show p + (k - p) = k from by omega, hz, h1, List.take_left' (by simp), List.replicate_append_replicate]
theorem left_some (l : List UInt8) (p k : Nat) (hp : p ≤ k) (hq : k / 8 < l.length) (hz : ((yag l).drop p).take (k - p) = List.replicate (k - p) 0) (hb : l[k / 8].toNat * 2 ^ (k % 8) % 256 ≠ 0) :
  lz ((yag l).drop p) + p = k + (8 - bl (l[k / 8].toNat * 2 ^ (k % 8) % 256)) ∧ bl (l[k / 8].toNat * 2 ^ (k % 8) % 256) ≤ 8 := by
 have h1 := row_left l k hq
 rw [shl_byte _ _ (by omega)] at hb ⊢
 have hm : l[k / 8].toNat % 2 ^ (8 - k % 8) ≠ 0 := fun e => hb (by rw [e, Nat.zero_mul])
 have hlt : l[k / 8].toNat % 2 ^ (8 - k % 8) < 2 ^ (8 - k % 8) := Nat.mod_lt _ (Nat.pow_pos (by omega))
 have hsm : l[k / 8].toNat % 2 ^ (8 - k % 8) * 2 ^ (k % 8) < 256 := by
  have h2 := Nat.mul_lt_mul_of_pos_right hlt (show 0 < 2 ^ (k % 8) from Nat.pow_pos (by omega))
  rw [← Nat.pow_add, show 8 - k % 8 + k % 8 = 8 from by omega] at h2
  exact h2
 have hc := lz_cut ((yag l).drop p) (k - p) (by rw [List.length_drop, yay]; omega) hz
 rw [List.drop_drop, show p + (k - p) = k from by omega, h1] at hc
 have hd := lz_dig _ (8 - k % 8) (yag (l.drop (k / 8 + 1))) hm hlt (by omega)
 rw [bl_mul _ _ hm (by omega), hc, hd.1]
 have := hd.2
 omega
set_option maxRecDepth 100000 in
set_option maxHeartbeats 2000000 in
theorem ycG (l : List UInt8) (p g : Nat) (w : World) (hl : l.length ≤ 1099511627776) (hp : p ≤ 8 * l.length) (hB : Blk w g 134 #[.string ⟨l.toArray⟩, .int .i64 p]) :
  Calls Tryz.prog 92 #[.pointer (some ⟨g, 0, none⟩)] w fun e w' => e = .returned (.int .i64 (lz ((yag l).drop p))) ∧ ∃ k, w.drewN k = w' := by
 obtain ⟨c1, c2, _, _⟩ := hB.two
 have hll : (l.length : Int) ≤ 1099511627776 := by omega
 have hpl : (p : Int) ≤ 8 * l.length := by omega
 have Hlz : Hid (((yag l).drop p).length = 8 * l.length - p) := Lib.hid (by rw [List.length_drop, yay])
 have hp0 : (0 : Int) ≤ p := by omega
 clear hB hl
 go_enter Tryz.func92, Tryz.ntmps92
 go_wp2
 go_loop [4] (fun a => ∃ k : Nat, p ≤ k ∧ k ≤ 8 * l.length ∧ a = .int .i64 k ∧ Hid (((yag l).drop p).take (k - p) = List.replicate (k - p) 0)) (fun a => 8 * l.length - (intOf a).toNat)
 case atStart => exact ⟨p, Nat.le_refl _, hp, rfl, Lib.hid (by rw [Nat.sub_self]; rfl)⟩
 case round =>
  obtain ⟨k, hk0, hk, rfl, Hz⟩ := hrel
  by_cases hlt : k < 8 * l.length
  ·have hq : k / 8 < l.length := by omega
   have hqi : 0 ≤ (k : Int) / 8 ∧ (k : Int) / 8 < l.length := by omega
   have hki : (k : Int) < 8 * l.length := by omega
   have hkb : (k : Int) ≤ 8796093022208 := by omega
   have Hq := Lib.hid (left_zero l p k hk0 hq Hz.out)
   have Hs := Lib.hid (left_some l p k hk0 hq Hz.out)
   go_wp2
   ·have hb : (((ByteArray.mk l.toArray)[k / 8]'(by rw [ByteArray.size_mk', List.size_toArray]; exact hq)).toNat * 2 ^ (k % 8) % 256 != (0 : Int)) = true := by assumption
    rw [ycZ] at hb ⊢
    have eB : ((l[k / 8].toNat : Int) * 2 ^ (k % 8) % 256) = ((l[k / 8].toNat * 2 ^ (k % 8) % 256 : Nat) : Int) := by norm_cast
    have hs := Hs.out
    have hB8 : l[k / 8].toNat * 2 ^ (k % 8) % 256 < 256 := Nat.mod_lt _ (by omega)
    rw [eB] at hb ⊢
    generalize l[k / 8].toNat * 2 ^ (k % 8) % 256 = B at hs hb hB8 ⊢
    have hb0 : B ≠ 0 := by
     rintro rfl
     exact absurd hb (by decide)
    obtain ⟨hs1, hs2⟩ := hs hb0
    have hlz := fun w => lz8_any (B : Int) w (by omega) (by omega)
    have e8 : Lib.bitLen ((B : Int)).toNat = bl B := rfl
    rw [e8] at hlz
    have hw1 : IntKind.i64.wrap ((k : Int) + (8 - (bl B : Int))) = ((k + (8 - bl B) : Nat) : Int) := by rw [IntKind.wrap_i64]; omega
    have hw2 : IntKind.i64.wrap (((k + (8 - bl B) : Nat) : Int) - p) = (lz ((yag l).drop p) : Int) := by rw [IntKind.wrap_i64]; omega
    clear hb hB8 hs hs1 hs2 eB e8
    generalize k + (8 - bl B) = K at *
    generalize hZ : lz ((yag l).drop p) = Z at *
    have HZ := Lib.hid hZ
    clear hZ
    go_quiet ((go_at_call 127; exact (hlz _).mono fun _ _ ⟨he, hm⟩ => ⟨he, _, hm.symm⟩))
    go_wp2
    go_ret
    exact ⟨by rw [HZ.out]; rfl, _, rfl⟩
   ·have hb : (((ByteArray.mk l.toArray)[k / 8]'(by rw [ByteArray.size_mk', List.size_toArray]; exact hq)).toNat * 2 ^ (k % 8) % 256 != (0 : Int)) = false := by assumption
    rw [ycZ] at hb
    have eB : ((l[k / 8].toNat : Int) * 2 ^ (k % 8) % 256) = ((l[k / 8].toNat * 2 ^ (k % 8) % 256 : Nat) : Int) := by norm_cast
    rw [eB] at hb
    have hb0 : l[k / 8].toNat * 2 ^ (k % 8) % 256 = 0 := by
     have := bne_eq_false_iff_eq.1 hb
     omega
    go_round
    case rel => exact ⟨8 * (k / 8 + 1), by omega, by omega, iv (by omega), Lib.hid (Hq.out hb0)⟩
    case measure => simp only [intOf]; omega
  ·obtain rfl : k = 8 * l.length := by omega
   have hlz : lz ((yag l).drop p) = 8 * l.length - p := by
    have h1 := Hz.out
    rw [List.take_of_length_le (by rw [Hlz.out]; omega)] at h1
    rw [h1]
    have := ygu (8 * l.length - p) []
    rw [List.append_nil] at this
    rw [this]
    rfl
   have Hl2 := Lib.hid hlz
   clear hlz
   go_wp2
   go_ret
   refine ⟨congrArg Ending.returned (iv ?_), 0, rfl⟩
   rw [Hl2.out]
   omega
set_option maxRecDepth 100000 in
set_option maxHeartbeats 1000000 in
theorem rgamma_yes (l : List UInt8) (p g n : Nat) (w : World) (hl : l.length ≤ 1099511627776) (hp : p ≤ 8 * l.length) (hB : RHold w g l p) (k : Nat) (h : ybt ((yag l).drop p) = ((n : Int), k, 0)) :
  Calls Tryz.prog 124 #[.pointer (some ⟨g, 0, none⟩)] w fun e w' => e = .returned (.tuple #[.int .i64 n, .int .i64 0]) ∧ RHold w' g l (p + k) ∧ Touch w w' (fun k => k = g) := by
 have hlen : ((yag l).drop p).length = 8 * l.length - p := by rw [List.length_drop, yay]
 unfold ybt at h
 by_cases a1 : lz ((yag l).drop p) = ((yag l).drop p).length
 ·rw [if_pos a1] at h
  simp at h
 ·rw [if_neg a1] at h
  by_cases a2 : 32 ≤ lz ((yag l).drop p)
  ·rw [if_pos a2] at h
   simp at h
  ·rw [if_neg a2] at h
   by_cases a3 : ((yag l).drop p).length < 2 * lz ((yag l).drop p) + 1
   ·rw [if_pos a3] at h
    simp at h
   ·rw [if_neg a3] at h
    simp only [Prod.mk.injEq, and_true] at h
    obtain ⟨hn, hk⟩ := h
    rw [List.drop_drop] at hn
    rw [hlen] at a1 a3
    have hnou := fun v hB => ycG l p g v hl hp hB
    have hleft := fun v hB => ybV l p g v (by omega) hp hB
    generalize lz ((yag l).drop p) = z at *
    have hnum := fun v hB => number_any l (p + z) (z + 1) g p v hl (by omega) (by omega) hB
    rw [Int.natCast_inj.1 hn] at hnum
    have b1 : ¬ (z : Int) = ((8 * l.length - p : Nat) : Int) := by omega
    have b2 : (z : Int) < 32 := by omega
    have b3 : ¬ ((8 * l.length - p : Nat) : Int) < 2 * z + 1 := by omega
    have hpl : (p : Int) ≤ 8796093022208 := by omega
    have hM : ((8 * l.length - p : Nat) : Int) ≤ 8796093022208 := by omega
    have e1 : (p : Int) + z = ((p + z : Nat) : Int) := by omega
    have e2 : (z : Int) + 1 = ((z + 1 : Nat) : Int) := by omega
    have Hk := Lib.hid hk
    obtain ⟨c1, c2, z1, z2⟩ := Blk.two hB
    have hg := Blk.lt hB
    have HB := Lib.hid hB
    have Hnum := Lib.hid hnum
    have E := Lib.hid (And.intro e1 e2)
    clear hB hp hl hn hk a1 a2 a3 hlen hnum e1 e2
    generalize 8 * l.length - p = M at *
    go_enter Tryz.func124, Tryz.ntmps124
    go_wp2_with (first
     | (go_at_call 90; refine (ycw g _).mono ?_; rintro e w1 ⟨rfl, rfl⟩)
     | (go_at_call 92; refine (hnou _ (HB.out.drewN 0)).mono ?_; rintro e w1 ⟨rfl, k0, rfl⟩)
     | (go_at_call 91; refine (hleft _ (HB.out.drewN _)).mono ?_; rintro e w1 ⟨rfl, k1, rfl⟩)
     | (go_at_call 126; rw [E.out.1, E.out.2]; refine (Hnum.out _ (HB.out.drewN _)).mono ?_; rintro e w1 ⟨rfl, k2, rfl⟩))
    go_ret2
    refine ⟨rfl, ?_, ((Touch.refl w (fun k => k = g)).drewN _).set (p := ⟨g, 1, none⟩) (Or.inl rfl) _⟩
    rw [← Hk.out]
    exact RHold.go (HB.out.drewN _) (2 * z + 1) _ (by omega)
set_option maxRecDepth 100000 in
set_option maxHeartbeats 1000000 in
theorem rgamma_no (l : List UInt8) (p g : Nat) (e : Int) (w : World) (hl : l.length ≤ 1099511627776) (hp : p ≤ 8 * l.length) (hB : RHold w g l p) (he : (ybt ((yag l).drop p)).2.2 = e) (hne : e ≠ 0) :
  Calls Tryz.prog 124 #[.pointer (some ⟨g, 0, none⟩)] w fun r w' => r = .returned (.tuple #[.int .i64 0, .int .i64 e]) ∧ ∃ k, w.drewN k = w' := by
 have hlen : ((yag l).drop p).length = 8 * l.length - p := by rw [List.length_drop, yay]
 have hzl := lz_le ((yag l).drop p)
 unfold ybt at he
 rw [hlen] at he hzl
 have Hnou := Lib.hid fun v hB => ycG l p g v hl hp hB
 have Hleft := Lib.hid fun v hB => ybV l p g v (by omega) hp hB
 have hMi : ((8 * l.length - p : Nat) : Int) ≤ 8796093022208 := by omega
 obtain ⟨c1, c2, z1, z2⟩ := Blk.two hB
 have hg := Blk.lt hB
 have HB := Lib.hid hB
 clear hB hl hp hlen
 generalize lz ((yag l).drop p) = z at *
 generalize 8 * l.length - p = M at *
 by_cases a1 : z = M
 ·rw [if_pos a1] at he
  subst he
  have b1 : (z : Int) = (M : Int) := by omega
  have b2 : ((z : Int) == (M : Int)) = true := by simp; omega
  subst a1
  go_enter Tryz.func124, Tryz.ntmps124
  go_wp2_with (first
   | (go_at_call 90; refine (ycw g _).mono ?_; rintro e w1 ⟨rfl, rfl⟩)
   | (go_at_call 92; refine (Hnou.out _ (HB.out.drewN 0)).mono ?_; rintro e w1 ⟨rfl, k0, rfl⟩)
   | (go_at_call 91; refine (Hleft.out _ (HB.out.drewN _)).mono ?_; rintro e w1 ⟨rfl, k1, rfl⟩))
  go_ret2
  exact ⟨rfl, _, rfl⟩
 ·rw [if_neg a1] at he
  have b1 : ¬ (z : Int) = (M : Int) := by omega
  have b2 : ((z : Int) == (M : Int)) = false := by simp; omega
  by_cases a2 : 32 ≤ z
  ·rw [if_pos a2] at he
   subst he
   have b3 : (32 : Int) ≤ (z : Int) := by omega
   go_enter Tryz.func124, Tryz.ntmps124
   go_wp2_with (first
    | (go_at_call 90; refine (ycw g _).mono ?_; rintro e w1 ⟨rfl, rfl⟩)
    | (go_at_call 92; refine (Hnou.out _ (HB.out.drewN 0)).mono ?_; rintro e w1 ⟨rfl, k0, rfl⟩)
    | (go_at_call 91; refine (Hleft.out _ (HB.out.drewN _)).mono ?_; rintro e w1 ⟨rfl, k1, rfl⟩))
   go_ret2
   exact ⟨rfl, _, rfl⟩
  ·rw [if_neg a2] at he
   by_cases a3 : M < 2 * z + 1
   ·rw [if_pos a3] at he
    subst he
    have b3 : ¬ (32 : Int) ≤ (z : Int) := by omega
    have b4 : (M : Int) < 2 * (z : Int) + 1 := by omega
    go_enter Tryz.func124, Tryz.ntmps124
    go_wp2_with (first
     | (go_at_call 90; refine (ycw g _).mono ?_; rintro e w1 ⟨rfl, rfl⟩)
     | (go_at_call 92; refine (Hnou.out _ (HB.out.drewN 0)).mono ?_; rintro e w1 ⟨rfl, k0, rfl⟩)
     | (go_at_call 91; refine (Hleft.out _ (HB.out.drewN _)).mono ?_; rintro e w1 ⟨rfl, k1, rfl⟩))
    go_ret2
    exact ⟨rfl, ⟨_, rfl⟩⟩
   ·rw [if_neg a3] at he
    exact absurd he.symm hne
end Go.Proofs.YtoinjdmlembgeaaGreat
