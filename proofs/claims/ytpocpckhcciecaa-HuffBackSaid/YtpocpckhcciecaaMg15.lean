/-
  What the law of the last of these texts stands on, part 15.
-/
import Derived.Test.YtpocpckhcciecaaRows
import Derived.Test.YtpocpckhcciecaaMg01
import Derived.Test.YtpocpckhcciecaaMg02
import Derived.Test.YtpocpckhcciecaaMg03
import Derived.Test.YtpocpckhcciecaaMg04
import Derived.Test.YtpocpckhcciecaaMg05
import Derived.Test.YtpocpckhcciecaaMg06
import Derived.Test.YtpocpckhcciecaaMg07
import Derived.Test.YtpocpckhcciecaaMg08
import Derived.Test.YtpocpckhcciecaaMg09
import Derived.Test.YtpocpckhcciecaaMg10
import Derived.Test.YtpocpckhcciecaaMg11
import Derived.Test.YtpocpckhcciecaaMg12
import Derived.Test.YtpocpckhcciecaaMg13
import Derived.Test.YtpocpckhcciecaaMg14
import Derived.WalkKit
import Derived.WalkSpells
import Derived.WalkLawsBesides
import Derived.ProofKit
import Derived.OpenShut
import Derived.Handy
import Derived.SizedLaws
import Derived.JoinedOf
import Derived.KernelRfl
import Derived.Lib.Hide
import Derived.Lib.SmallJoins
import Derived.Deep.Slices
import Derived.Deep.Fields
import Derived.Deep.SlicePairs
import Derived.Deep.Draws
import Derived.Deep.AppendLies
import Derived.Deep.QuietTactic
import Derived.BigQuiet
import Derived.Deep.RegionHeld3
import Derived.StillTailTactics
import Derived.Laws.OwnMore
import Derived.Laws.Rows
import Derived.Below
import Derived.Carry
import Derived.Lib.BitFns
import Derived.Deep.OwnRows
import Derived.WalkMore
import Derived.Laws.BytesString
import Derived.Laws.BitsLemmas
import Derived.Laws.Concat
import Derived.OwnWalk
import Derived.Deep.RegionWith
import Derived.Laws.EntriesVeiled
import Derived.Deep.Upon
import Derived.Deep.RegionLaw
import Derived.Laws.CopyOwn
import Derived.Laws.Bits64b
namespace Go.Proofs.Ytpocpckhcciecaa
set_option linter.unusedSimpArgs false
set_option linter.unusedVariables false
open Go.ChangeShapes Go.WideShapes Go.ChangeAt Go.RowKit Go.Joins Go.Deep
/-- How often each of the 257 symbols comes. -/
def hcount (l : List Int) : List Int := (List.range 257).map fun s : Nat => ((l.count (s : Int) : Nat) : Int)
theorem hcount_len (l : List Int) : (hcount l).length = 257 := by unfold hcount; rw [List.length_map, List.length_range]
theorem hcount_get (l : List Int) (s : Nat) (h : s < (hcount l).length) : (hcount l)[s] = ((l.count (s : Int) : Nat) : Int) := by
  have e : (hcount l)[s]? = some ((l.count (s : Int) : Nat) : Int) := by
    unfold hcount
    rw [List.getElem?_map, List.getElem?_range (by rw [hcount_len] at h; exact h)]
    rfl
  rw [List.getElem?_eq_getElem h] at e
  injection e
theorem hcount_nil : hcount [] = List.replicate 257 0 := by
  apply List.ext_getElem
  · rw [hcount_len, List.length_replicate]
  · intro i h1 h2
    rw [hcount_get, List.getElem_replicate]
    rfl
theorem hcount_snoc (l : List Int) (x : Int) (h0 : 0 ≤ x) (h1 : x ≤ 256) : hcount (l ++ [x]) = (hcount l).set x.toNat ((hcount l)[x.toNat]'(by rw [hcount_len]; omega) + 1) := by
  apply List.ext_getElem
  · rw [List.length_set, hcount_len, hcount_len]
  · intro i h2 h3
    rw [hcount_get, List.getElem_set, List.count_append, List.count_singleton]
    by_cases e : x.toNat = i
    · have e2 : x = (i : Int) := by omega
      have e3 : (x == (i : Int)) = true := by rw [beq_iff_eq]; exact e2
      rw [if_pos e, hcount_get, if_pos e3, e]
      omega
    · have e3 : ¬ (x == (i : Int)) = true := by rw [beq_iff_eq]; omega
      rw [if_neg e, hcount_get, if_neg e3, Nat.add_zero]
/-- Are all of them symbols? -/
def hin (l : List Int) : Bool := l.all fun x => decide (0 ≤ x) && decide (x ≤ 256)
theorem hin_get {l : List Int} (h : hin l = true) : ∀ x ∈ l, 0 ≤ x ∧ x ≤ 256 := by
  intro x hx
  unfold hin at h
  rw [List.all_eq_true] at h
  simpa using h x hx
theorem hin_of {l : List Int} (h : ∀ x ∈ l, 0 ≤ x ∧ x ≤ 256) : hin l = true := by
  unfold hin
  rw [List.all_eq_true]
  intro x hx
  simpa using h x hx
/-- What Counts answers. -/
def hcF (l : List Int) : List Int × Int := if 100000 < l.length then ([], 3) else if hin l = true then (hcount l, 0) else ([], 70)
theorem hc_ok {l : List Int} (h : (hcF l).2 = 0) : l.length ≤ 100000 ∧ hin l = true ∧ hcF l = (hcount l, 0) := by
  unfold hcF at h ⊢
  by_cases h1 : 100000 < l.length
  · rw [if_pos h1] at h; cases h
  · rw [if_neg h1] at h ⊢
    by_cases h2 : hin l = true
    · rw [if_pos h2]
      exact ⟨by omega, h2, rfl⟩
    · rw [if_neg h2] at h; cases h
theorem hc_bad {l : List Int} (h : (hcF l).2 ≠ 0) : (hcF l).1 = [] := by
  unfold hcF at h ⊢
  by_cases h1 : 100000 < l.length
  · rw [if_pos h1]
  · rw [if_neg h1] at h ⊢
    by_cases h2 : hin l = true
    · rw [if_pos h2] at h; exact absurd rfl h
    · rw [if_neg h2]
theorem hcount_good {l : List Int} (h : l.length ≤ 100000) : cgood (hcount l) = true := cgood_of fun i hi => by
  rw [hcount_get]
  have := List.count_le_length (a := (i : Int)) (l := l)
  omega
/-- The best lengths of symbols. -/
def hL (l : List Int) : List Int := lbestL (hcount l) 15
theorem hL_len (l : List Int) : (hL l).length = 257 := by unfold hL; rw [lbestL_len, hcount_len]
theorem hleaves (l : List Int) : (lleaves (hcount l)).length ≤ 2 ^ 15 := by
  have := lleaves_len (hcount l)
  rw [hcount_len] at this
  have : (257 : Nat) ≤ 2 ^ 15 := by decide
  omega
theorem hbest {l : List Int} (h : l.length ≤ 100000) : lbestF (hcount l) 15 = (hL l, 0) := by
  have := hleaves l
  unfold lbestF
  rw [if_neg (by rw [hcount_len]; decide), if_neg (by omega), if_pos (hcount_good h), if_neg (by show ¬ 2 ^ 15 < _; omega)]
  rfl
theorem hL_good {l : List Int} (h : l.length ≤ 100000) : LGoodB (hcount l) (hL l) 15 := lbestL_good ⟨by omega, by omega⟩ (hcount_good h) (hleaves l)
theorem hL_check {l : List Int} (h : l.length ≤ 100000) : checkF (hL l) = 0 := by
  rw [← lcheck_ref]
  exact lbestL_check ⟨by omega, by omega⟩ (hcount_good h) (hleaves l) (by rw [hcount_len]; omega)
/-- The code words of symbols. -/
def hws (l : List Int) : List (Int × Int) := wat ((hL l).map Int.toNat) 16 0
theorem hL_word {l : List Int} (h : l.length ≤ 100000) (hi : hin l = true) : ∀ s ∈ l, (cwordF (hws l) s).2 = 0 := by
  intro s hs
  obtain ⟨s0, s1⟩ := hin_get hi s hs
  obtain ⟨k, rfl⟩ := Int.eq_ofNat_of_zero_le s0
  have hk : k < (hL l).length := by rw [hL_len]; omega
  have hkc : k < (hcount l).length := by rw [hcount_len]; omega
  have hp := ((hL_good h).pos k hk hkc).2 (by
    rw [hcount_get]
    have := List.count_pos_iff.2 hs
    omega)
  unfold hws
  have hk2 : k < ((hL l).map Int.toNat).length := by rw [List.length_map]; exact hk
  rw [cword_is (cnat15 (tcheck_ok (hL_check h)).2) k hk2 (by rw [List.getElem_map]; omega)]
/-- The bits of symbols. -/
def hB (l : List Int) : List Nat := tbits (hL l) ++ cbits (hws l) l
theorem hfit (l : List Int) (h : l.length ≤ 100000) : ∀ f ∈ hws l, fits f.1 f.2 := by
  have := cwords_fit (hL l)
  rw [cwords_ok (hL_check h)] at this
  exact this
theorem hB_bin {l : List Int} (h : l.length ≤ 100000) : Bin (hB l) := (tbits_bin _).app (cbits_bin (hfit l h) l)
theorem hcbits_len {ws : List (Int × Int)} (hf : ∀ f ∈ ws, fits f.1 f.2) : ∀ sy : List Int, (cbits ws sy).length ≤ 32 * sy.length
  | [] => Nat.le_refl _
  | s :: t => by
    have h1 := (cword_small hf s).1
    have h2 := hcbits_len hf t
    rw [cbits_cons, List.length_append, List.length_cons]
    omega
theorem htbits_len (l : List Int) : (tbits (hL l)).length ≤ 17219 := by
  have := tbits_len (hL l) (by rw [hL_len]; omega)
  rw [hL_len] at this
  omega
theorem hB_len {l : List Int} (h : l.length ≤ 100000) : (hB l).length ≤ 17219 + 32 * l.length := by
  have h1 := htbits_len l
  have h2 := hcbits_len (hfit l h) l
  unfold hB
  rw [List.length_append]
  omega
/-- What Encode and Size answer. -/
def hencF (l : List Int) : List UInt8 × Int := if (hcF l).2 = 0 then (text (hB l), 0) else ([], (hcF l).2)
def hsizeF (l : List Int) : Nat := if (hcF l).2 = 0 then (hB l).length else 0
end Go.Proofs.Ytpocpckhcciecaa
namespace Go.Proofs.Ytpocpckhcciecaa
set_option linter.unusedSimpArgs false
set_option linter.unusedVariables false
open Go.ChangeShapes Go.WideShapes Go.ChangeAt Go.RowKit Go.Joins Go.Deep
theorem tmask (d : Nat) (h : d < 4294967296) : bits .and .u64 (d : Int) 4294967295 = (d : Int) := by
  have h1 := bits_and_u64_nat d 4294967295 (by omega) (by omega)
  have e : d &&& 4294967295 = d % 4294967296 := Nat.and_two_pow_sub_one_eq_mod d 32
  rw [e, Nat.mod_eq_of_lt h] at h1
  exact h1
set_option maxRecDepth 100000 in
set_option maxHeartbeats 2000000 in
theorem tmul64_one (z : Int) (h0 : 0 ≤ z) (h1 : z ≤ 1000000) (w : World) :
    Calls Try.prog 92 #[.int .u64 1, .int .u64 z] w fun e w' => e = .returned (.tuple #[.int .u64 0, .int .u64 z]) ∧ w = w' := by
  have m1 : bits .and .u64 1 4294967295 = 1 := tmask 1 (by decide)
  have m0 : bits .and .u64 0 4294967295 = 0 := tmask 0 (by decide)
  have m2 : bits .and .u64 z 4294967295 = z := by
    obtain ⟨d, rfl⟩ := Int.eq_ofNat_of_zero_le h0
    exact tmask d (by omega)
  have m3 : z / 4294967296 = 0 := by omega
  go_enter Try.func92, Try.ntmps92
  go_wp2
  go_ret2
  exact ⟨rfl, rfl⟩
set_option maxRecDepth 100000 in
set_option maxHeartbeats 2000000 in
theorem tmul_one (z : Int) (h0 : 0 ≤ z) (h1 : z ≤ 1000000) (w : World) :
    Calls Try.prog 85 #[.int .u64 1, .int .u64 z] w fun e w' => e = .returned (.tuple #[.int .u64 0, .int .u64 z]) ∧ w = w' := by
  go_enter Try.func85, Try.ntmps85
  go_wp2_with (go_at_call 92; refine (tmul64_one z h0 h1 _).mono ?_; rintro e w1 ⟨rfl, rfl⟩)
  go_ret2
  exact ⟨rfl, rfl⟩
theorem tint_info : (Try.prog.info? 3).map (fun i => (i.zero, i.size, i.bytes)) = some (some (.int .i64 0), 1, 8) := by kernel_rfl
theorem tints_zero (n : Nat) : madeCells #[.int .i64 0] n = (ints (List.replicate n 0)).toArray := by
  unfold ints
  apply Array.ext'
  simp [madeCells, Nat.mod_one]
  rw [List.map_const', List.length_range]
theorem tmk_ints (n : Int) (N : Nat) (hN : (N : Int) = n) (h : N ≤ 17592186044416) (w : World) :
    (Instr.makeSlice 22 (.int .i64 n) (.int .i64 n)).run Try.prog w = .ok (.slice (some ⟨w.heap.size, 0, none⟩) N N) (w.alloc (.cells (ints (List.replicate N 0)).toArray 3)) := by
  subst hN
  rw [← tints_zero]
  exact run_make_row' (P := Try.prog) 22 3 (.int .i64 0) 8 Try.underlying22 tint_info rfl .i64 .i64 N (by omega) (by omega) w
/-- k copies of x, and then 0. -/
def trow (x : Int) (d k : Nat) : List Int := List.replicate k x ++ List.replicate (d - k) 0
theorem trow_len (x : Int) (d k : Nat) (h : k ≤ d) : (ints (trow x d k)).length = d := by rw [ints_length]; simp [trow]; omega
theorem trow_zero (x : Int) (d : Nat) : trow x d 0 = List.replicate d 0 := by simp [trow]
theorem trow_all (x : Int) (d : Nat) : trow x d d = List.replicate d x := by simp [trow]
theorem trow_splice (x : Int) (d k m : Nat) (h : k + m ≤ d) : splice (ints (trow x d k)) k (ints (List.replicate m x)) = ints (trow x d (k + m)) := by
  unfold splice trow ints
  rw [List.length_map, List.length_replicate, ← List.map_take, ← List.map_drop, ← List.map_append, ← List.map_append]
  congr 1
  rw [List.take_left' (by simp), ← List.drop_drop, List.drop_left' (by simp), List.drop_replicate, ← List.append_assoc, List.replicate_append_replicate, show d - k - m = d - (k + m) from by omega]
theorem trow_get (x : Int) (d k j : Nat) (h : j < k) : (ints (trow x d k)).toArray[j]? = some (.int .i64 x) := by
  unfold ints trow
  simp [List.getElem?_append, h]
theorem tints_one (l : List Int) : ∀ u ∈ ints l, u.oneCell' = true := by
  intro u hu
  obtain ⟨b, _, rfl⟩ := List.mem_map.1 hu
  rfl
theorem trep_src {w : World} {g d k m : Nat} {x : Int} {t : TypeId} (h : Blk w g t (ints (trow x d k)).toArray) (hm : m ≤ k) : ∀ j v, (ints (List.replicate m x))[j]? = some v → w.cell? ((⟨g, 0, none⟩ : Addr).add j) = some v := by
  intro j v hj
  have hlt : j < m := by
    have := (List.getElem?_eq_some_iff.1 hj).1
    rw [ints_length, List.length_replicate] at this
    exact this
  rw [add_mk, Nat.zero_add, h.cell, trow_get x d k j (by omega), ← hj]
  simp [ints, hlt]
set_option maxRecDepth 100000 in
set_option maxHeartbeats 4000000 in
theorem trepeat_any (x : Int) (A : Option Addr) (c d : Nat) (w : World) (h0 : 0 < d) (hd : d ≤ 1000000) (hr : Reads w w.heap.size 1 A 1 (ints [x])) :
    Calls Try.prog 74 #[.slice A 1 c, .int .i64 (d : Int)] w fun e w' => ∃ g, e = .returned (.slice (some ⟨g, 0, none⟩) d d) ∧ w.heap.size ≤ g ∧ Blk w' g 3 (ints (List.replicate d x)).toArray ∧ Below w.heap.size w w' := by
  obtain ⟨b, off, rfl, hb, hc⟩ := hr.2 (by omega)
  have hmk := fun w => tmk_ints (d : Int) d rfl (by omega) w
  have hi0 : (0 : Int) < (d : Int) ∧ (d : Int) ≤ 1000000 := by omega
  have hsrc : ∀ j v, (ints (List.replicate 1 x))[j]? = some v → (w.alloc (.cells (ints (trow x d 0)).toArray 3)).cell? ((⟨b, off, none⟩ : Addr).add j) = some v := by
    intro j v hj
    rw [add_mk, World.cell?_alloc_lt w _ _ hb]
    exact hc j v hj
  have Hsrc := Lib.hid hsrc
  rw [← trow_zero x d] at hmk
  clear hc hr hsrc
  go_enter Try.func74, Try.ntmps74
  go_wp2_with (first
    | (go_at_call 85; refine (tmul_one (d : Int) (by omega) (by omega) _).mono ?_; rintro e w1 ⟨rfl, rfl⟩)
    | (refine wpList_copy_splice rfl _ _ _ _ rfl 3 Try.underlying22 (by kernel_rfl) _ _ d d 1 c rfl rfl w.heap.size 0 (ints (trow x d 0)) 3 (Blk.new w _ _) (ints (List.replicate 1 x)) ?c1 (fun _ => ⟨rfl, _, rfl, Hsrc.out⟩) ?c2 (tints_one _) w.heap.size w ((Below.refl _ _).alloc (Nat.le_refl _) _) (Nat.le_refl _) ?_))

  case c1 =>
    rw [ints_length, List.length_replicate]
    exact (Nat.min_eq_left h0).symm
  case c2 => rw [trow_len _ _ _ (by omega), ints_length, List.length_replicate]; omega
  intro w1 hb1 hB1
  have Hb1 : Hid (Blk w1 w.heap.size 3 (ints (trow x d 1)).toArray) := Lib.hid (by
    have e : splice (ints (trow x d 0)) 0 (ints [x]) = ints (trow x d 1) := by
      have := trow_splice x d 0 1 (by omega)
      rwa [Nat.zero_add] at this
    have := hb1.out
    rw [e] at this
    exact this)
  have HB1 := Lib.hid hB1
  clear hb1 hB1 Hsrc hmk
  rw [ints_length]
  generalize hg : w.heap.size = g at *
  have Hg := Lib.hid hg
  clear hg
  go_wp2
  go_loopw [8] (fun i wr => ∃ k : Nat, 1 ≤ k ∧ k ≤ d ∧ i = .int .i64 k ∧ Hid (Blk wr g 3 (ints (trow x d k)).toArray) ∧ Hid (Below g w wr)) (fun i _ => d - (intOf i).toNat)
  case atStart => exact ⟨1, by omega, by omega, rfl, Hb1, HB1⟩
  case round =>
    obtain ⟨k, hk1, hk2, rfl, HB, HO⟩ := hrel
    by_cases hlt : k < d
    · have hki : (0 : Int) < (k : Int) ∧ (k : Int) < (d : Int) := by omega
      obtain ⟨m, hm⟩ : ∃ m, Nat.min k (d - k) = m := ⟨_, rfl⟩
      have hmk : 1 ≤ m ∧ m ≤ k ∧ k + m ≤ d := by
        have h1 : min k (d - k) = m := hm
        omega
      have hlen : (ints (List.replicate m x)).length = m := by rw [ints_length, List.length_replicate]
      have Hs := Lib.hid (trow_splice x d k m hmk.2.2)
      have Hsrc := Lib.hid (trep_src HB.out hmk.2.1)
      have hkl : ((d - k : Nat) : Int) = (d : Int) - (k : Int) := by omega
      have hkm : (k : Int) + (m : Int) ≤ 1000000 ∧ (1 : Int) ≤ (m : Int) := by omega
      have Hlen := Lib.hid hlen
      have Hc3 : Hid ((ints (List.replicate m x)).length = Nat.min k (d - k)) := Lib.hid (by rw [hlen, hm])
      have Hc4 : Hid (k + (ints (List.replicate m x)).length ≤ (ints (trow x d k)).length) := Lib.hid (by rw [trow_len _ _ _ (by omega), hlen]; omega)
      have hnk : ¬ d = k := by omega
      have hwr : IntKind.i64.wrap ((k : Int) + (m : Int)) = (k : Int) + (m : Int) := by rw [IntKind.wrap_i64]; omega
      clear hlen hm
      go_wp2
      refine wp_region_held_drew (S := (fun _ => True)) (by kernel_rfl) (trivial) (fun hHeld => ?_)
      refine wpAnyH_take (i := 0) (oi := ⟨some 38, Op.move (Operand.tmp 8), 3, _, #[], none⟩) (v := ?_) rfl (by kernel_rfl) (by kernel_rfl) (by kernel_rfl) (fun _ _ _ h => h) (Or.inl ⟨by rfl, ?_⟩) hHeld ?_
      rotate_left
      · (intro wz hSw; go_simp; try (with_reducible rfl))
      try simp only [Act.put, List.setIfInBounds_toArray, List.set_cons_zero, List.set_cons_succ]
      refine wpAnyH_take (i := 1) (oi := ⟨some 39, Op.move (Operand.tmp 7), 22, _, #[], none⟩) (v := ?_) rfl (by kernel_rfl) (by kernel_rfl) (by kernel_rfl) (fun _ _ _ h => h) (Or.inl ⟨by rfl, ?_⟩) hHeld ?_
      rotate_left
      · (intro wz hSw; go_simp; try (with_reducible rfl))
      try simp only [Act.put, List.setIfInBounds_toArray, List.set_cons_zero, List.set_cons_succ]
      refine wpAnyH_take (i := 2) (oi := ⟨some 40, Op.move (Operand.tmp 8), 3, _, #[], none⟩) (v := ?_) rfl (by kernel_rfl) (by kernel_rfl) (by kernel_rfl) (fun _ _ _ h => h) (Or.inl ⟨by rfl, ?_⟩) hHeld ?_
      rotate_left
      · (intro wz hSw; go_simp; try (with_reducible rfl))
      try simp only [Act.put, List.setIfInBounds_toArray, List.set_cons_zero, List.set_cons_succ]
      refine wpAnyH_take (i := 3) (oi := ⟨some 41, Op.slice 22 (Operand.tmp 39) (some (Operand.tmp 40)) none none, 22, _, #[{ on := 1, ground := Ground.data }, { on := 2, ground := Ground.data }], none⟩) (v := ?_) rfl (by kernel_rfl) (by kernel_rfl) (by kernel_rfl) (fun _ _ _ h => h) (Or.inl ⟨by rfl, ?_⟩) hHeld ?_
      rotate_left
      · (intro wz hSw; go_simp; try (with_reducible rfl))
      try simp only [Act.put, List.setIfInBounds_toArray, List.set_cons_zero, List.set_cons_succ]
      refine wpAnyH_take (i := 4) (oi := ⟨some 42, Op.move (Operand.tmp 7), 22, _, #[], none⟩) (v := ?_) rfl (by kernel_rfl) (by kernel_rfl) (by kernel_rfl) (fun _ _ _ h => h) (Or.inl ⟨by rfl, ?_⟩) hHeld ?_
      rotate_left
      · (intro wz hSw; go_simp; try (with_reducible rfl))
      try simp only [Act.put, List.setIfInBounds_toArray, List.set_cons_zero, List.set_cons_succ]
      refine wpAnyH_take (i := 5) (oi := ⟨some 43, Op.move (Operand.tmp 8), 3, _, #[], none⟩) (v := ?_) rfl (by kernel_rfl) (by kernel_rfl) (by kernel_rfl) (fun _ _ _ h => h) (Or.inl ⟨by rfl, ?_⟩) hHeld ?_
      rotate_left
      · (intro wz hSw; go_simp; try (with_reducible rfl))
      try simp only [Act.put, List.setIfInBounds_toArray, List.set_cons_zero, List.set_cons_succ]
      refine wpAnyH_take (i := 6) (oi := ⟨some 44, Op.slice 22 (Operand.tmp 42) none (some (Operand.tmp 43)) none, 22, _, #[{ on := 4, ground := Ground.data }, { on := 5, ground := Ground.data }], none⟩) (v := ?_) rfl (by kernel_rfl) (by kernel_rfl) (by kernel_rfl) (fun _ _ _ h => h) (Or.inl ⟨by rfl, ?_⟩) hHeld ?_
      rotate_left
      · (intro wz hSw; go_simp; try (with_reducible rfl))
      try simp only [Act.put, List.setIfInBounds_toArray, List.set_cons_zero, List.set_cons_succ]
      refine wpAnyH_ready (rs := [7]) (by kernel_rfl) (by simp) ?_
      refine AllReadyH.cons (o := ⟨some 45, Op.call { callee := Callee.builtin Builtin.copy, args := #[Operand.tmp 41, Operand.tmp 44], argTypes := #[22, 22] }, 3, _, #[{ on := 3, ground := Ground.data }, { on := 6, ground := Ground.data }], none⟩) rfl (fun K hK => ?_) AllReadyH.nil
      refine step_copy_splice (by rfl) (.tmp 41) (.tmp 44) 22 22 (by rfl) 3 Try.underlying22 (by kernel_rfl) _ _ (d - k) (d - k) k d (by rfl) (by rfl) g k (ints (trow x d k)) 3 HB.out.drew (ints (List.replicate m x)) Hc3.out (fun _ => ⟨rfl, _, rfl, Hsrc.out⟩) Hc4.out (tints_one _) g w HO.out.drew (Nat.le_refl _) ?_
      intro w2 hb2 hB2
      rw [Hlen.out]
      refine hK.out _ _ (trivial) (fun hH => ?_)
      clear hK K hHeld
      have hHeld : True := trivial
      try simp only [Act.put, List.setIfInBounds_toArray, List.set_cons_zero, List.set_cons_succ]
      refine wpAnyH_take (i := 8) (oi := ⟨some 46, Op.binOp BinOp.add 3 (Operand.tmp 38) (Operand.tmp 45) 3, 3, _, #[{ on := 0, ground := Ground.data }, { on := 7, ground := Ground.data }], none⟩) (v := ?_) rfl (by kernel_rfl) (by kernel_rfl) (by kernel_rfl) (fun _ _ _ h => h) (Or.inl ⟨by rfl, ?_⟩) hHeld ?_
      rotate_left
      · (intro wz hSw; go_simp; try (with_reducible rfl))
      try simp only [Act.put, List.setIfInBounds_toArray, List.set_cons_zero, List.set_cons_succ]
      refine wpAnyH_take (i := 9) (oi := ⟨some 8, Op.assign (Operand.tmp 46), 3, _, #[{ on := 8, ground := Ground.data }, { on := 7, ground := Ground.chain }, { on := 0, ground := Ground.phase }, { on := 1, ground := Ground.phase }, { on := 2, ground := Ground.phase }, { on := 3, ground := Ground.phase }, { on := 4, ground := Ground.phase }, { on := 5, ground := Ground.phase }, { on := 6, ground := Ground.phase }, { on := 7, ground := Ground.phase }, { on := 8, ground := Ground.phase }], none⟩) (v := ?_) rfl (by kernel_rfl) (by kernel_rfl) (by kernel_rfl) (fun _ _ _ h => h) (Or.inl ⟨by rfl, ?_⟩) hHeld ?_
      rotate_left
      · (intro wz hSw; go_simp; try (with_reducible rfl))
      try simp only [Act.put, List.setIfInBounds_toArray, List.set_cons_zero, List.set_cons_succ]
      refine wpAnyH_done (by kernel_rfl) ?_ _
      have Hb2 := Lib.hid (show Blk w2 g 3 (ints (trow x d (k + m))).toArray by have := hb2.out; rw [Hs.out] at this; exact this)
      have HB2 := Lib.hid hB2
      clear hb2 hB2
      go_wp2
      go_roundw
      case rel => exact ⟨k + m, by omega, by omega, iv (by omega), Hb2, HB2⟩
      case measure => simp only [intOf]; omega
    · obtain rfl : k = d := by omega
      have HB' : Hid (Blk wr g 3 (ints (List.replicate k x)).toArray) := Lib.hid (by rw [← trow_all x k]; exact HB.out)
      clear HB HB1 Hb1
      go_wp2
      go_ret
      exact ⟨g, rfl, Nat.le_of_eq Hg.out, HB'.out, by rw [Hg.out]; exact HO.out⟩
end Go.Proofs.Ytpocpckhcciecaa
namespace Go.Proofs.Ytpocpckhcciecaa
set_option linter.unusedSimpArgs false
set_option linter.unusedVariables false
open Go.ChangeShapes Go.WideShapes Go.ChangeAt Go.RowKit Go.Joins Go.Deep
/-- What Counts leaves. -/
def HCPost (w w' : World) (e : Ending) (F : List Int × Int) : Prop := ∃ A' c', e = .returned (.tuple #[.slice A' F.1.length c', .int .i64 F.2]) ∧ F.1.length ≤ c' ∧ Reads w' w'.heap.size 1 A' F.1.length (ints F.1) ∧ Below w.heap.size w w'
theorem hcpost_none {w w' : World} {E : Int} (hb : Below w.heap.size w w') : HCPost w w' (.returned (.tuple #[.slice none 0 0, .int .i64 E])) ([], E) := ⟨none, 0, rfl, Nat.le_refl _, Reads.none_, hb⟩
theorem hcpost_row {w w' : World} {L : List Int} {g : Nat} (hl : L.length = 257) (hB : Blk w' g 3 (ints L).toArray) (hb : Below w.heap.size w w') : HCPost w w' (.returned (.tuple #[.slice (some ⟨g, 0, none⟩) 257 257, .int .i64 0])) (L, 0) := by
  refine ⟨some ⟨g, 0, none⟩, 257, by rw [hl], by rw [hl]; exact Nat.le_refl _, ?_, hb⟩
  refine ⟨by rw [ints_length]; show L.length = L.length * 1; omega, fun _ => ⟨g, 0, rfl, hB.lt, fun j u hu => ?_⟩⟩
  rw [Nat.zero_add, hB.cell]
  simpa using hu
theorem hints_set (l : List Int) (k : Nat) (v : Int) : (ints l).toArray.setIfInBounds k (.int .i64 v) = (ints (l.set k v)).toArray := by
  rw [List.setIfInBounds_toArray]
  simp [ints, List.map_set]
/-- The counts as cells, as far as k symbols are counted: what a walk leans on. -/
structure HCells (l : List Int) (C : Nat → List Value) : Prop where
  zero : C 0 = ints (List.replicate 257 0)
  get : ∀ k (s : Nat), s < 257 → ∃ v : Nat, v ≤ k ∧ (C k).toArray[s]? = some (.int .i64 (v : Int)) ∧ ∀ hk : k < l.length, l[k] = (s : Int) → (C k).toArray.setIfInBounds s (.int .i64 ((v : Int) + 1)) = (C (k + 1)).toArray
  last : C l.length = ints (hcount l)
theorem hcells (l : List Int) : HCells l (fun k => ints (hcount (l.take k))) := by
  refine ⟨by rw [List.take_zero, hcount_nil], fun k s hs => ?_, by rw [List.take_length]⟩
  have hsl : s < (hcount (l.take k)).length := by rw [hcount_len]; exact hs
  refine ⟨(l.take k).count (s : Int), ?_, ?_, fun hk hx => ?_⟩
  · have := List.count_le_length (a := (s : Int)) (l := l.take k)
    rw [List.length_take] at this
    omega
  · rw [List.getElem?_toArray, ints_get _ s hsl, hcount_get]
  · rw [hints_set, List.take_succ_eq_append_getElem hk, hx, hcount_snoc (l.take k) (s : Int) (by omega) (by omega)]
    simp only [Int.toNat_natCast]
    rw [hcount_get]
theorem hc_big {l : List Int} (h : 100000 < l.length) : hcF l = ([], 3) := if_pos h
theorem hc_all {l : List Int} (h : ¬ 100000 < l.length) (hi : hin l = true) : hcF l = (hcount l, 0) := by unfold hcF; rw [if_neg h, if_pos hi]
theorem hc_none {l : List Int} (h : ¬ 100000 < l.length) (k : Nat) (hk : k < l.length) (hx : ¬ (0 ≤ l[k] ∧ l[k] ≤ 256)) : hcF l = ([], 70) := by
  unfold hcF
  rw [if_neg h, if_neg fun hi => hx (hin_get hi _ (List.getElem_mem hk))]
theorem hin_take {l : List Int} (k : Nat) (hk : k < l.length) (h : hin (l.take k) = true) (hx : 0 ≤ l[k] ∧ l[k] ≤ 256) : hin (l.take (k + 1)) = true := by
  refine hin_of fun x hm => ?_
  rw [List.take_succ_eq_append_getElem hk] at hm
  rcases List.mem_append.1 hm with h2 | h2
  · exact hin_get h x h2
  · rw [List.mem_singleton.1 h2]; exact hx
set_option maxRecDepth 100000 in
set_option maxHeartbeats 4000000 in
theorem href_counts_any (l : List Int) (A : Option Addr) (n c : Nat) (w : World) (hm : n ≤ 1000000) (hr : Reads w w.heap.size 1 A n (ints l)) :
    Calls Try.prog 10 #[.slice A n c] w fun e w' => HCPost w w' e (hcF l) := by
  have en : l.length = n := by have := hr.1; rw [ints_length] at this; omega
  have hni : (n : Int) ≤ 1000000 := by omega
  by_cases hbig : 100000 < n
  · rw [hc_big (by omega)]
    have hb1 : (100000 : Int) < (n : Int) := by omega
    clear hr
    go_enter Try.func10, Try.ntmps10
    go_wp2
    go_ret2
    exact hcpost_none (Below.refl _ _)
  have hb1 : ¬ (100000 : Int) < (n : Int) := by omega
  have hbl : ¬ 100000 < l.length := by omega
  obtain ⟨C, hC⟩ : ∃ C : Nat → List Value, HCells l C := ⟨_, hcells l⟩
  have hmk := fun w => tmk_ints 257 257 rfl (by decide) w
  rw [← hC.zero] at hmk
  have HC := Lib.hid hC
  have Hcell : Hid (∀ W, Below w.heap.size w W → ∀ k (hk : k < l.length), ∃ b off, A = some ⟨b, off, none⟩ ∧ W.cell? ⟨b, off + k, none⟩ = some (.int .i64 l[k])) := Lib.hid fun W hW k hk => by
    obtain ⟨b, off, e, hb, hc⟩ := hr.2 (by omega)
    exact ⟨b, off, e, (hW.cell (p := ⟨b, off + k, none⟩) hb).trans (hc k _ (ints_get l k hk))⟩
  have En := Lib.hid en
  have Hbl := Lib.hid hbl
  have HB0 := Lib.hid (Blk.new w 3 (C 0).toArray)
  have HO0 := Lib.hid ((Below.refl w.heap.size w).alloc (Nat.le_refl _) (.cells (C 0).toArray 3))
  clear hr hC en hbl
  generalize hg : w.heap.size = g at *
  go_enter Try.func10, Try.ntmps10
  go_wp2
  go_loopw [5, 6] (fun i xv wr => ∃ k : Nat, k ≤ n ∧ i = .int .i64 k ∧ Hid (hin (l.take k) = true) ∧ Hid (Blk wr g 3 (C k).toArray) ∧ Hid (Below g w wr)) (fun i _ _ => n - (intOf i).toNat)
  case atStart => exact ⟨0, by omega, rfl, Lib.hid rfl, HB0, HO0⟩
  case round =>
    obtain ⟨k, hk, rfl, Hin, HB, HO⟩ := hrel
    clear HB0 HO0 hmk
    by_cases hlt : k < n
    · have hki : (k : Int) < (n : Int) := by omega
      have hkl : k < l.length := by rw [En.out]; exact hlt
      obtain ⟨b, off, rfl, x1⟩ := Hcell.out wr HO.out k hkl
      obtain ⟨x, hx⟩ : ∃ x, l[k] = x := ⟨_, rfl⟩
      rw [hx] at x1
      by_cases hin0 : 0 ≤ x ∧ x ≤ 256
      · obtain ⟨s, rfl⟩ := Int.eq_ofNat_of_zero_le hin0.1
        have hsi : (0 : Int) ≤ (s : Int) ∧ (s : Int) < 257 ∧ (s : Int) ≤ 256 := by omega
        obtain ⟨v, hv1, hv2, hv3⟩ := HC.out.get k s (by omega)
        have x2 : wr.cell? ⟨g, s, none⟩ = some (.int .i64 (v : Int)) := by rw [HB.out.cell]; exact hv2
        have x3 := HB.out.frozen s
        have Hset := Lib.hid (hv3 hkl hx)
        have Hin2 := Lib.hid (hin_take k hkl Hin.out (by rw [hx]; exact hin0))
        have hvi : (0 : Int) ≤ (v : Int) ∧ (v : Int) ≤ 1000000 := by omega
        have hgl := HB.out.lt
        clear hx hv2 hv3 hin0 hkl
        go_wp2
        go_roundw
        case rel =>
          refine ⟨k + 1, by omega, iv (by omega), Hin2, Lib.hid ?_, Lib.hid ?_⟩
          · rw [← Hset.out]
            exact HB.out.set_ s _
          · exact HO.out.setCell (p := ⟨g, s, none⟩) (Nat.le_refl _) _
        case measure => simp only [intOf]; omega
      · have Hf := Lib.hid (hc_none Hbl.out k hkl (by rw [hx]; exact hin0))
        by_cases h0 : 0 ≤ x
        · have h1 : ¬ x ≤ 256 := by omega
          clear hx hkl
          go_wp2
          go_ret2
          rw [Hf.out]
          subst hg
          exact hcpost_none HO.out
        · clear hx hkl
          go_wp2
          go_ret2
          rw [Hf.out]
          subst hg
          exact hcpost_none HO.out
    · obtain rfl : k = n := by omega
      have hii : ¬ (k : Int) < (k : Int) := by omega
      have hin2 := Hin.out
      rw [List.take_of_length_le (by rw [En.out]; exact Nat.le_refl _)] at hin2
      have Hf := Lib.hid (hc_all Hbl.out hin2)
      have hlast := HC.out.last
      rw [En.out] at hlast
      have HB2 : Hid (Blk wr g 3 (ints (hcount l)).toArray) := Lib.hid (by rw [← hlast]; exact HB.out)
      clear hin2 hlast
      go_wp2
      go_ret2
      rw [Hf.out]
      subst hg
      exact hcpost_row (hcount_len l) HB2.out HO.out
end Go.Proofs.Ytpocpckhcciecaa
