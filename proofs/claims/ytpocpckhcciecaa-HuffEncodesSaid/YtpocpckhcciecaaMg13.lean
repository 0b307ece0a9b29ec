/-
  What the law of the last of these texts stands on, part 13.
-/
import Derived.Test.YtpocpckhcciecaaRows
import Derived.Test.YtpocpckhcciecaaMg01
import Derived.Test.YtpocpckhcciecaaMg02
import Derived.Test.YtpocpckhcciecaaMg03
import Derived.Test.YtpocpckhcciecaaMg04
import Derived.Test.YtpocpckhcciecaaMg05
import Derived.Test.YtpocpckhcciecaaMg10
import Derived.Test.YtpocpckhcciecaaMg11
import Derived.Test.YtpocpckhcciecaaMg12
import Derived.Lib.BitFns
import Derived.WalkKit
import Derived.WalkSpells
import Derived.WalkLawsBesides
import Derived.ProofKit
import Derived.OpenShut
import Derived.Handy
import Derived.SizedLaws
import Derived.JoinedOf
import Derived.KernelRfl
import Derived.Lib.Hide
import Derived.Lib.SmallJoins
import Derived.Deep.Slices
import Derived.Deep.Fields
import Derived.Deep.SlicePairs
import Derived.Deep.Draws
import Derived.Deep.AppendLies
import Derived.Deep.QuietTactic
import Derived.BigQuiet
import Derived.Deep.RegionHeld3
import Derived.StillTailTactics
import Derived.Laws.OwnMore
import Derived.Laws.Rows
import Derived.Below
import Derived.Carry
import Derived.WalkMore
import Derived.Laws.BytesString
import Derived.Laws.BitsLemmas
import Derived.Laws.Concat
import Derived.Deep.Upon
import Derived.Deep.OwnRows
import Derived.OwnWalk
namespace Go.Proofs.Ytpocpckhcciecaa
set_option linter.unusedSimpArgs false
set_option linter.unusedVariables false
open Go.ChangeShapes Go.WideShapes Go.ChangeAt Go.RowKit Go.Joins Go.Deep
def bl (n : Nat) : Nat := Lib.bitLen n
theorem bl_spec : ∀ (f n : Nat), n ≠ 0 → n < 2 ^ f → f ≤ 64 → 1 ≤ bl n ∧ 2 ^ (bl n - 1) ≤ n ∧ n < 2 ^ bl n
  | 0, n, h0, h, _ => by simp at h; omega
  | f + 1, n, h0, h, hf => by
    have h64 : n < 2 ^ 64 := Nat.lt_of_lt_of_le h (Nat.pow_le_pow_right (by omega) hf)
    have e : bl n = 1 + bl (n / 2) := Lib.bitLen_half n h0 h64
    by_cases h1 : n / 2 = 0
    · have hb : bl (n / 2) = 0 := by rw [h1]; rfl
      rw [e, hb]
      simp
      omega
    · obtain ⟨a, b, c⟩ := bl_spec f (n / 2) h1 (by rw [Nat.pow_succ] at h; omega) (by omega)
      rw [e]
      refine ⟨by omega, ?_, ?_⟩
      · rw [show 1 + bl (n / 2) - 1 = bl (n / 2) - 1 + 1 from by omega, Nat.pow_succ]
        omega
      · rw [Nat.add_comm, Nat.pow_succ]
        omega
theorem bl_of {n k : Nat} (h1 : 2 ^ k ≤ n) (h2 : n < 2 ^ (k + 1)) (h : n < 4294967296) : bl n = k + 1 := by
  have hp : 0 < 2 ^ k := Nat.pow_pos (by omega)
  obtain ⟨a, b, c⟩ := bl_spec 32 n (by omega) (by rw [show (2 : Nat) ^ 32 = 4294967296 from by decide]; exact h) (by omega)
  rcases Nat.lt_trichotomy (bl n) (k + 1) with hlt | he | hgt
  · have := Nat.pow_le_pow_right (n := 2) (by omega) (show bl n ≤ k by omega)
    omega
  · exact he
  · have := Nat.pow_le_pow_right (n := 2) (by omega) (show k + 1 ≤ bl n - 1 by omega)
    omega
theorem bl_le {n : Nat} (h0 : n ≠ 0) (h : n < 4294967296) : 1 ≤ bl n ∧ bl n ≤ 32 := by
  obtain ⟨a, b, c⟩ := bl_spec 32 n h0 (by rw [show (2 : Nat) ^ 32 = 4294967296 from by decide]; exact h) (by omega)
  refine ⟨a, Nat.le_of_not_lt fun hgt => ?_⟩
  have := Nat.pow_le_pow_right (n := 2) (by omega) (show 32 ≤ bl n - 1 by omega)
  rw [show (2 : Nat) ^ 32 = 4294967296 from by decide] at this
  omega
/-- Has n gamma bits? -/
def hasG (n : Int) : Prop := 1 ≤ n ∧ n ≤ 4294967295
instance (n : Int) : Decidable (hasG n) := by unfold hasG; infer_instance
/-- The gamma bits of a number. -/
def gam (n : Nat) : List Nat := List.replicate (bl n - 1) 0 ++ dig (bl n) n
theorem gam_is {n k : Nat} (h1 : 2 ^ k ≤ n) (h2 : n < 2 ^ (k + 1)) (h : n < 4294967296) : gam n = List.replicate k 0 ++ dig (k + 1) n := by
  unfold gam
  rw [bl_of h1 h2 h, Nat.add_sub_cancel]
theorem gam_bin (n : Nat) : Bin (gam n) := Bin.app (fun d hd => by rw [List.eq_of_mem_replicate hd]; omega) (dig_bin _ _)
/-- How many noughts stand ahead. -/
def lz : List Nat → Nat
  | [] => 0
  | d :: t => if d = 0 then lz t + 1 else 0
theorem lz_le : ∀ l, lz l ≤ l.length
  | [] => Nat.le_refl _
  | d :: t => by
    have := lz_le t
    unfold lz
    split <;> simp <;> omega
theorem lz_zeros (k : Nat) (l : List Nat) : lz (List.replicate k 0 ++ l) = k + lz l := by
  induction k with
  | zero => simp
  | succ k ih => rw [List.replicate_succ, List.cons_append, lz, if_pos rfl, ih]; omega
theorem lz_one (l : List Nat) : lz (1 :: l) = 0 := rfl
/-- Noughts first, then what is behind them. -/
theorem lz_cut (l : List Nat) (k : Nat) (hk : k ≤ l.length) (h : l.take k = List.replicate k 0) : lz l = k + lz (l.drop k) := by
  have h1 := List.take_append_drop k l
  rw [h] at h1
  rw [← h1, lz_zeros]
  congr 2
  rw [List.drop_left' (by simp)]
/-- What Gamma tells of a row that is left: the number, how many bits, the error. -/
def ungam (l : List Nat) : Int × Nat × Int :=
  if lz l = l.length then (0, 0, 4) else if 32 ≤ lz l then (0, 0, 40) else if l.length < 2 * lz l + 1 then (0, 0, 4) else ((num ((l.drop (lz l)).take (lz l + 1)) : Int), 2 * lz l + 1, 0)
theorem bin_dig_top {k n : Nat} (h1 : 2 ^ k ≤ n) (h2 : n < 2 ^ (k + 1)) : dig (k + 1) n = 1 :: dig k n := by
  have h : n / 2 ^ k = 1 := Nat.div_eq_of_lt_le (by omega) (by rw [Nat.pow_succ] at h2; omega)
  rw [Nat.add_comm, dig_add 1 k, h]
  rfl
/-- What Gamma writes, Gamma reads. -/
theorem ungam_gam (n : Nat) (l : List Nat) (h0 : n ≠ 0) (h : n < 4294967296) : ungam (gam n ++ l) = ((n : Int), 2 * (bl n - 1) + 1, 0) ∧ (gam n).length = 2 * (bl n - 1) + 1 := by
  obtain ⟨a, b, c⟩ := bl_spec 32 n h0 (by rw [show (2 : Nat) ^ 32 = 4294967296 from by decide]; exact h) (by omega)
  have hle := bl_le h0 h
  obtain ⟨k, hk⟩ : ∃ k, bl n = k + 1 := ⟨bl n - 1, by omega⟩
  rw [hk] at b c hle ⊢
  rw [Nat.add_sub_cancel] at b ⊢
  have hg := gam_is b c h
  have htop := bin_dig_top b c
  have hlz : lz (gam n ++ l) = k := by rw [hg, htop, List.append_assoc, lz_zeros, List.cons_append, lz_one]; rfl
  have hlen : (gam n).length = 2 * k + 1 := by rw [hg, List.length_append, List.length_replicate, dig_length]; omega
  refine ⟨?_, hlen⟩
  unfold ungam
  rw [hlz, List.length_append, hlen, if_neg (by omega), if_neg (by omega), if_neg (by omega), hg, List.append_assoc, List.drop_left' (by simp), List.take_left' (by rw [dig_length]), num_dig, Nat.mod_eq_of_lt c]
end Go.Proofs.Ytpocpckhcciecaa
namespace Go.Proofs.Ytpocpckhcciecaa
set_option linter.unusedSimpArgs false
set_option linter.unusedVariables false
open Go.ChangeShapes Go.WideShapes Go.ChangeAt Go.RowKit Go.Joins Go.Deep
theorem tbyte_info : (Try.prog.info? 5).map (fun i => (i.zero, i.size, i.bytes)) = some (some (.int .u8 0), 1, 1) := by kernel_rfl
/-- Eight bits from a place on, noughts behind the end. -/
def eight (l : List Nat) (i : Nat) : List Nat := (l.drop i).take 8 ++ List.replicate (8 - ((l.drop i).take 8).length) 0
theorem eight_length (l : List Nat) (i : Nat) : (eight l i).length = 8 := by
  unfold eight
  rw [List.length_append, List.length_replicate]
  have : ((l.drop i).take 8).length ≤ 8 := by simp; omega
  omega
theorem eight_in (l : List Nat) (i k : Nat) (hk : k < 8) (h : i + k < l.length) : (eight l i)[k]'(by rw [eight_length]; exact hk) = l[i + k] := by
  unfold eight
  rw [List.getElem_append_left (by simp; omega), List.getElem_take, List.getElem_drop]
theorem eight_out (l : List Nat) (i k : Nat) (hk : k < 8) (h : l.length ≤ i + k) : (eight l i)[k]'(by rw [eight_length]; exact hk) = 0 := by
  unfold eight
  rw [List.getElem_append_right (by simp; omega)]
  simp
theorem eight_bin {l : List Nat} (h : Bin l) (i : Nat) : Bin (eight l i) := Bin.app (fun d hd => h d (List.mem_of_mem_drop (List.mem_of_mem_take hd))) (fun d hd => by rw [List.eq_of_mem_replicate hd]; omega)
theorem num_zeros (l : List Nat) (k : Nat) : num (l ++ List.replicate k 0) = num l * 2 ^ k := by
  rw [num_append, List.length_replicate]
  have : num (List.replicate k 0) = 0 := by rw [← dig_zero, num_dig]; exact Nat.zero_mod _
  omega
theorem text_next (l : List Nat) (q : Nat) (h : 8 * q < l.length) : text (l.take (8 * (q + 1))) = text (l.take (8 * q)) ++ [UInt8.ofNat (num (eight l (8 * q)))] := by
  have e : l.take (8 * (q + 1)) = l.take (8 * q) ++ (l.drop (8 * q)).take 8 := by rw [show 8 * (q + 1) = 8 * q + 8 from by omega, List.take_add]
  rw [e, text_whole q _ _ (by simp; omega), text_short ((l.drop (8 * q)).take 8) (by simp; omega) (by simp; omega)]
  unfold eight
  rw [num_zeros]
theorem num_next (D : List Nat) (k : Nat) (h : k < D.length) : num (D.take (k + 1)) = 2 * num (D.take k) + D[k] := by
  rw [List.take_succ_eq_append_getElem h, num_snoc]
theorem num_small {D : List Nat} (h : Bin D) (k : Nat) (hk : k ≤ 8) : num (D.take k) < 256 := by
  have h5 := num_lt (l := D.take k) (fun d hd => h d (List.mem_of_mem_take hd))
  have h6 : 2 ^ (D.take k).length ≤ 2 ^ 8 := Nat.pow_le_pow_right (by omega) (by simp; omega)
  rw [show (2 : Nat) ^ 8 = 256 from by decide] at h6
  omega
set_option maxRecDepth 100000 in
set_option maxHeartbeats 2000000 in
theorem refText_any (l : List Nat) (A : Option Addr) (n c : Nat) (w : World) (hn : l.length = n) (hl : n ≤ 1099511627776) (hr : Reads w w.heap.size 1 A n (bcs l)) (hbin : Bin l) :
    Calls Try.prog 25 #[.slice A n c] w fun e w' => e = .returned (.string ⟨(text l).toArray⟩) ∧ Below w.heap.size w w' := by
  obtain ⟨i0, hi, hz0, hz1, hz2⟩ := info_parts tbyte_info
  have hni : (n : Int) ≤ 1099511627776 := by omega
  have Hcell : Hid (0 < n → ∃ b off, A = some ⟨b, off, none⟩ ∧ b < w.heap.size ∧ ∀ k, (hk : k < l.length) → w.cell? ⟨b, off + k, none⟩ = some (.int .i64 (l[k] : Int))) := Lib.hid fun h => reads_at hr h
  have Hn := Lib.hid hn
  have Hbin := Lib.hid hbin
  have Hsmall : Hid (∀ i k, k ≤ 8 → num ((eight l i).take k) < 256) := Lib.hid fun i k hk => num_small (eight_bin hbin i) k hk
  have Hlen : Hid (∀ k, (text (l.take k)).length ≤ 1099511627780) := Lib.hid fun k => by rw [text_length, List.length_take]; omega
  clear hn hbin hr hl
  go_enter Try.func25, Try.ntmps25
  go_wp2
  go_loopw [3, 4] (fun v i wr => ∃ q : Nat, 8 * q ≤ n + 7 ∧ i = .int .i64 ((8 * q : Nat) : Int) ∧ Hid (wr.ownsRow w.heap.size 5 1 v (text (l.take (8 * q))).length (bc (text (l.take (8 * q)))).toList) ∧ Hid (Below w.heap.size w wr)) (fun _ i _ => n + 8 - (intOf i).toNat)
  case atStart => exact ⟨0, by omega, rfl, Lib.hid (by simpa [text_nil, bc] using World.ownsRow_nil w w.heap.size 5 1), Lib.hid (Below.refl _ _)⟩
  case round =>
    obtain ⟨q, hq, rfl, Hown, Hb⟩ := hrel
    by_cases hlt : 8 * q < n
    · have hqi : ((8 * q : Nat) : Int) < n := by omega
      have hqb : ((8 * q : Nat) : Int) ≤ 1099511627776 := by omega
      have hnext := text_next l q (by rw [Hn.out]; exact hlt)
      have Hnext := Lib.hid hnext
      have Hq := Lib.hid hq
      clear hnext hq
      generalize hi8 : 8 * q = i at *
      have Hi8 := Lib.hid hi8
      clear hi8
      obtain ⟨b, off, rfl, hb, hc⟩ := Hcell.out (by omega)
      have Hc := Lib.hid hc
      clear hc
      go_wp2
      go_loop [5, 6] (fun x j => ∃ k X : Nat, k ≤ 8 ∧ j = .int .i64 k ∧ x = .int .i64 X ∧ Hid (X = num ((eight l i).take k))) (fun _ j => 8 - (intOf j).toNat)
      case atStart => exact ⟨0, 0, by omega, rfl, rfl, rfl⟩
      case round =>
        obtain ⟨k, X, hk, rfl, rfl, HX⟩ := hrel
        by_cases hk8 : k < 8
        · have hki : (k : Int) < 8 := by omega
          have hX : (X : Int) ≤ 255 := by have h7 := Hsmall.out i k hk; have h8 := HX.out; omega
          have Hnum := Lib.hid (num_next (eight l i) k (by rw [eight_length]; exact hk8))
          by_cases hin : i + k < n
          · have hkl : i + k < l.length := by rw [Hn.out]; exact hin
            have x1 := (Hb.out.cell (p := ⟨b, off + (i + k), none⟩) hb).trans (Hc.out (i + k) hkl)
            have hkn : 0 ≤ (i : Int) + k ∧ (i : Int) + k < n := by omega
            have He := Lib.hid (eight_in l i k hk8 hkl)
            have hd1 : (l[i + k] : Int) ≤ 1 := by have := Hbin.out _ (List.getElem_mem hkl); omega
            generalize l[i + k] = d at *
            clear hkl hin
            go_wp2
            go_round
            case rel =>
              have h7 := Hnum.out
              rw [← HX.out, He.out] at h7
              exact ⟨k + 1, 2 * X + d, by omega, iv (by omega), iv (by omega), Lib.hid h7.symm⟩
            case measure => simp only [intOf]; omega
          · have hkn : ¬ (i : Int) + k < n := by omega
            have He := Lib.hid (eight_out l i k hk8 (by rw [Hn.out]; omega))
            clear hin
            go_wp2
            go_round
            case rel =>
              have h7 := Hnum.out
              rw [← HX.out, He.out] at h7
              exact ⟨k + 1, 2 * X, by omega, iv (by omega), iv (by omega), Lib.hid h7.symm⟩
            case measure => simp only [intOf]; omega
        · obtain rfl : k = 8 := by omega
          have hX : (X : Int) ≤ 255 := by have h7 := Hsmall.out i 8 hk; have h8 := HX.out; omega
          have hXe : X = num (eight l i) := by have := HX.out; rwa [List.take_of_length_le (by rw [eight_length]; omega)] at this
          have HXe := Lib.hid hXe
          clear hXe
          have hszr := Hb.out.size
          go_wp2_with (at_builtin; refine wpList_append_sep _ rfl _ _ 44 rfl w.heap.size 5 i0 (.int .u8 0) 1 1 Try.underlying44 hi hz0 hz1 hz2 rfl (by decide) _ _ _ rfl (Hown.out.alloc _) _ 1 1 _ _ rfl (reads_new wr 5 _ 1 1 rfl) ?c1 ?c2 ?c3 ?c4 ?_)
          case c1 => exact rfl
          case c2 => have := Hlen.out i; unfold maxLen; omega
          case c3 => have := Hlen.out i; omega
          case c4 => first | omega | (simp; omega)
          intro v2 w2 hown2 hgrow hsep
          have hb2 : Below w.heap.size w w2 := (Hb.out.trans ((Below.refl _ _).alloc hszr _)).grown hgrow (by simp; omega) (fun g hg => (Hown.out.lt g hg).1)
          have hx8 : ((UInt8.ofNat (num (eight l i))).toNat : Int) = X := by rw [u8_ofNat _ (by have := hX; have := HXe.out; omega), HXe.out]
          have hown3 : w2.ownsRow w.heap.size 5 1 v2 (text (l.take (8 * (q + 1)))).length (bc (text (l.take (8 * (q + 1))))).toList := by
            rw [Hnext.out, List.length_append, show bc (text (l.take i) ++ [UInt8.ofNat (num (eight l i))]) = (((bc (text (l.take i))).toList ++ [Value.int .u8 ((UInt8.ofNat (num (eight l i))).toNat : Int)]).toArray) from by simp [bc], hx8]
            exact hown2
          have Hown3 := Lib.hid hown3
          have Hb2 := Lib.hid hb2
          clear hown3 hb2 hown2 hgrow hsep hx8
          go_wp2
          go_roundw
          case rel => exact ⟨q + 1, by have := Hi8.out; omega, iv (by have := Hi8.out; omega), Hown3.out, Hb2.out⟩
          case measure => simp only [intOf]; omega
    · have hfin : l.take (8 * q) = l := List.take_of_length_le (by have := Hn.out; omega)
      have hown := Hown.out
      rw [hfin] at hown
      obtain ⟨A', c', rfl, hc', hr'⟩ := owns_cells hown
      have hcv : (convert 44 9 (.slice A' (text l).length c')).run Try.prog wr = .ok (.string ⟨(text l).toArray⟩) wr := run_str_any Try.underlying44 Try.underlying5 Try.underlying9 wr A' c' _ hr'
      have hlti : ¬ ((8 * q : Nat) : Int) < n := by omega
      clear Hown hown hr' hfin
      generalize (text l).length = m at *
      generalize 8 * q = i at *
      generalize hta : (text l).toArray = ta at *
      have Hta := Lib.hid hta
      clear hta
      go_wp2
      go_ret
      exact ⟨by rw [Hta.out]; rfl, Hb.out⟩
end Go.Proofs.Ytpocpckhcciecaa
namespace Go.Proofs.Ytpocpckhcciecaa
set_option linter.unusedSimpArgs false
set_option linter.unusedVariables false
open Go.ChangeShapes Go.WideShapes Go.ChangeAt Go.RowKit Go.Joins Go.Deep
/-- The words of lengths are numbers that fit. -/
theorem cwords_fit (l : List Int) : ∀ f ∈ (cwordsF l).1, fits f.1 f.2 := by
  unfold cwordsF
  by_cases h0 : checkF l = 0
  · rw [if_pos h0]
    obtain ⟨hl, hg, hca⟩ := check_ok h0
    intro f hf
    obtain ⟨j, hj, rfl⟩ := List.mem_map.1 (show f ∈ wat (l.map Int.toNat) 16 0 from hf)
    have hjl := List.mem_range.1 hj
    have hjl2 : j < l.length := by simpa using hjl
    have hgd : (l.map Int.toNat).getD j 0 = (l.map Int.toNat)[j] := by rw [List.getD_eq_getElem?_getD, List.getElem?_eq_getElem hjl]; rfl
    have hle : (l.map Int.toNat)[j] ≤ 15 := by
      have := lgood_get hg j hjl2
      rw [List.getElem_map]
      omega
    unfold cat1
    rw [hgd]
    by_cases hp : 0 < (l.map Int.toNat)[j] ∧ ((l.map Int.toNat)[j] < 16 ∨ ((l.map Int.toNat)[j] = 16 ∧ j < 0))
    · rw [if_pos hp]
      have hlt := cword_lt (ls := l.map Int.toNat) (l.map Int.toNat)[j] j hjl rfl ⟨hp.1, hle⟩ hca
      refine ⟨by show (0 : Int) ≤ _; omega, by show (_ : Int) ≤ 32; omega, by show (0 : Int) ≤ _; omega, ?_⟩
      show ((cword (l.map Int.toNat) (l.map Int.toNat)[j] j : Nat) : Int) < 2 ^ (((l.map Int.toNat)[j] : Nat) : Int).toNat
      rw [Int.toNat_natCast]
      exact_mod_cast hlt
    · rw [if_neg hp]
      exact ⟨by decide, by decide, by decide, by decide⟩
  · rw [if_neg h0]
    intro f hf
    cases hf
theorem cword_small {ws : List (Int × Int)} (hf : ∀ f ∈ ws, fits f.1 f.2) (s : Int) : (cwordF ws s).1.length ≤ 32 ∧ Bin (cwordF ws s).1 := by
  unfold cwordF
  by_cases h : 0 ≤ s ∧ s < ws.length ∧ (ws.getD s.toNat (0, 0)).2 ≠ 0
  · rw [if_pos h]
    have hk : s.toNat < ws.length := by omega
    have hgd : ws.getD s.toNat (0, 0) = ws[s.toNat] := by rw [List.getD_eq_getElem?_getD, List.getElem?_eq_getElem hk]; rfl
    have hfit := hf _ (List.getElem_mem hk)
    rw [← hgd] at hfit
    refine ⟨?_, dig_bin _ _⟩
    show (digI _ _).length ≤ 32
    unfold digI
    rw [dig_length]
    have := hfit.2.1
    omega
  · rw [if_neg h]
    exact ⟨Nat.zero_le _, bin_nil⟩
end Go.Proofs.Ytpocpckhcciecaa
namespace Go.Proofs.Ytpocpckhcciecaa
set_option linter.unusedSimpArgs false
set_option linter.unusedVariables false
open Go.ChangeShapes Go.WideShapes Go.ChangeAt Go.RowKit Go.Joins Go.Deep
theorem begF_len : ∀ (R d : List Nat), (begF R d).2 = true → d.length ≤ R.length
  | _, [], _ => Nat.zero_le _
  | [], _ :: _, h => by cases h
  | a :: t, b :: u, h => by
    unfold begF at h
    by_cases e : a = b
    · rw [if_pos e] at h
      have := begF_len t u h
      simp only [List.length_cons]
      omega
    · rw [if_neg e] at h
      cases h
/-- What Get answers: a symbol's number and its length, within what is left; or nothing, and an error. -/
theorem cget1_ok (R : List Nat) : ∀ (ws : List (Int × Int)) (s : Nat) (E : Int), E = 4 ∨ E = 40 → (∀ f ∈ ws, fits f.1 f.2) → ((cget1 ws s R E).2.2 = 0 ∧ ∃ x k : Nat, (cget1 ws s R E).1 = (x : Int) ∧ x < s + ws.length ∧ (cget1 ws s R E).2.1 = (k : Int) ∧ k ≤ R.length ∧ k ≤ 32) ∨ ((cget1 ws s R E).2.2 = 4 ∨ (cget1 ws s R E).2.2 = 40) ∧ (cget1 ws s R E).1 = 0 ∧ (cget1 ws s R E).2.1 = 0
  | [], s, E, hE, _ => Or.inr ⟨hE, rfl, rfl⟩
  | f :: t, s, E, hE, hf => by
    have hft : ∀ f ∈ t, fits f.1 f.2 := fun g hg => hf g (List.mem_cons_of_mem _ hg)
    have hff := hf f (List.mem_cons_self ..)
    unfold cget1
    by_cases hz : f.2 = 0
    · rw [if_pos hz]
      rcases cget1_ok R t (s + 1) E hE hft with ⟨h1, x, k, h2, h3, h4⟩ | h
      · exact Or.inl ⟨h1, x, k, h2, by simp only [List.length_cons]; omega, h4⟩
      · exact Or.inr h
    · rw [if_neg hz]
      by_cases hb : (begF R (digI f.1 f.2)).2 = true
      · rw [if_pos hb]
        refine Or.inl ⟨rfl, s, _, rfl, by simp, rfl, begF_len _ _ hb, ?_⟩
        unfold digI
        rw [dig_length]
        have := hff.2.1
        omega
      · rw [if_neg hb]
        rcases cget1_ok R t (s + 1) (if (begF R (digI f.1 f.2)).1 = true then 4 else E) (by split <;> omega) hft with ⟨h1, x, k, h2, h3, h4⟩ | h
        · exact Or.inl ⟨h1, x, k, h2, by simp only [List.length_cons]; omega, h4⟩
        · exact Or.inr h
/-- What n symbols are, from place p on: the symbols, where it ends, and the error. -/
def cunp (ws : List (Int × Int)) (L : List Nat) : Nat → Nat → List Int → List Int × Nat × Int
  | 0, p, acc => (acc, p, 0)
  | i + 1, p, acc => if (cgetF ws L p).2.2 = 0 then cunp ws L i (p + (cgetF ws L p).2.1.toNat) (acc ++ [(cgetF ws L p).1]) else (acc, p, (cgetF ws L p).2.2)
theorem cunp_step (ws : List (Int × Int)) (L : List Nat) (i p : Nat) (acc : List Int) : cunp ws L (i + 1) p acc = if (cgetF ws L p).2.2 = 0 then cunp ws L i (p + (cgetF ws L p).2.1.toNat) (acc ++ [(cgetF ws L p).1]) else (acc, p, (cgetF ws L p).2.2) := rfl
theorem cgetF_ok (ws : List (Int × Int)) (L : List Nat) (p nl : Nat) (hL : L.length = nl) (hp : p ≤ nl) (hw : ws.length ≤ 257) (hf : ∀ f ∈ ws, fits f.1 f.2) : ((cgetF ws L p).2.2 = 0 ∧ ∃ x k : Nat, (cgetF ws L p).1 = (x : Int) ∧ x < 257 ∧ (cgetF ws L p).2.1 = (k : Int) ∧ p + k ≤ nl) ∨ (cgetF ws L p).2.2 ≠ 0 := by
  unfold cgetF
  rcases cget1_ok (L.drop p) ws 0 (if p = L.length then 4 else 40) (by split <;> omega) hf with ⟨h1, x, k, h2, h3, h4, h5, h6⟩ | ⟨h, _⟩
  · refine Or.inl ⟨h1, x, k, h2, by omega, h4, ?_⟩
    rw [List.length_drop] at h5
    omega
  · exact Or.inr (by omega)
end Go.Proofs.Ytpocpckhcciecaa
namespace Go.Proofs.Ytpocpckhcciecaa
set_option linter.unusedSimpArgs false
set_option linter.unusedVariables false
open Go.ChangeShapes Go.WideShapes Go.ChangeAt Go.RowKit Go.Joins Go.Deep
/-- The first fifteen bits of a row, or what there is of them and noughts, as a number. -/
def v15 (R : List Nat) : Nat := num ((R ++ List.replicate 15 0).take 15)
theorem bin_zeros (n : Nat) : Bin (List.replicate n 0) := fun d hd => by rw [List.eq_of_mem_replicate hd]; omega
theorem v15_bin {R : List Nat} (hb : Bin R) : Bin ((R ++ List.replicate 15 0).take 15) := fun d hd => (hb.app (bin_zeros 15)) d (List.mem_of_mem_take hd)
theorem v15_lt {R : List Nat} (hb : Bin R) : v15 R < 32768 := by
  have h := num_lt (v15_bin hb)
  have hl : ((R ++ List.replicate 15 0).take 15).length = 15 := by simp
  rw [hl] at h
  exact h
theorem v15_take {R : List Nat} (hb : Bin R) (n : Nat) (hn : n ≤ 15) (hl : n ≤ R.length) : num (R.take n) = v15 R / 2 ^ (15 - n) := by
  have e : (R ++ List.replicate 15 0).take 15 = R.take n ++ ((R ++ List.replicate 15 0).drop n).take (15 - n) := by
    conv => lhs; rw [show 15 = n + (15 - n) from by omega]
    rw [List.take_add, List.take_append_of_le_length hl, show n + (15 - n) = 15 from by omega]
  have hr : Bin (((R ++ List.replicate 15 0).drop n).take (15 - n)) := fun d hd => (hb.app (bin_zeros 15)) d (List.mem_of_mem_drop (List.mem_of_mem_take hd))
  have hrl : (((R ++ List.replicate 15 0).drop n).take (15 - n)).length = 15 - n := by simp; omega
  have h1 := num_lt hr
  rw [hrl] at h1
  unfold v15
  rw [e, num_append, hrl, Nat.mul_comm, Nat.mul_add_div (Nat.pow_pos (by omega)), Nat.div_eq_of_lt h1, Nat.add_zero]
theorem part_of {v D x : Nat} (h : 0 < D) : v / D = x ↔ x * D ≤ v ∧ v < x * D + D := by
  constructor
  · intro e
    subst e
    have h1 := Nat.div_add_mod v D
    have h2 := Nat.mod_lt v h
    rw [Nat.mul_comm] at h1
    omega
  · intro e
    exact Nat.div_eq_of_lt_le e.1 (by rw [Nat.add_mul, Nat.one_mul]; exact e.2)
theorem begF_all : ∀ (R d : List Nat), (begF R d).2 = true ↔ d.length ≤ R.length ∧ R.take d.length = d
  | R, [] => by cases R <;> simp [begF]
  | [], _ :: _ => by simp [begF]
  | a :: t, b :: u => by
    unfold begF
    by_cases e : a = b
    · rw [if_pos e, begF_all t u]
      subst e
      simp
    · rw [if_neg e]
      simp [e]
theorem begF_some : ∀ (R d : List Nat), (begF R d).1 = true ↔ R.take d.length = d.take R.length
  | R, [] => by cases R <;> simp [begF]
  | [], _ :: _ => by simp [begF]
  | a :: t, b :: u => by
    unfold begF
    by_cases e : a = b
    · rw [if_pos e, begF_some t u]
      subst e
      simp
    · rw [if_neg e]
      simp [e]
/-- A word begins a row, if it is no longer and the row lies in its part. -/
theorem begF_word {R : List Nat} (hb : Bin R) (n x : Nat) (hn : n ≤ 15) (hx : x < 2 ^ n) : (begF R (dig n x)).2 = true ↔ n ≤ R.length ∧ x * 2 ^ (15 - n) ≤ v15 R ∧ v15 R < x * 2 ^ (15 - n) + 2 ^ (15 - n) := by
  rw [begF_all, dig_length]
  have hD : 0 < (2 : Nat) ^ (15 - n) := Nat.pow_pos (by omega)
  constructor
  · rintro ⟨hl, e⟩
    refine ⟨hl, (part_of hD).1 ?_⟩
    rw [← v15_take hb n hn hl, e, num_dig, Nat.mod_eq_of_lt hx]
  · rintro ⟨hl, e⟩
    refine ⟨hl, ?_⟩
    have h1 := (part_of hD).2 e
    rw [← v15_take hb n hn hl] at h1
    have h2 := dig_num_of n (R.take n) (by simp; omega) fun d hd => hb d (List.mem_of_mem_take hd)
    rw [← h2, h1]
/-- A longer word in whose part the row lies goes on from it. -/
theorem begF_part {R : List Nat} (hb : Bin R) (n x : Nat) (hn : n ≤ 15) (hl : R.length < n) (e : x * 2 ^ (15 - n) ≤ v15 R ∧ v15 R < x * 2 ^ (15 - n) + 2 ^ (15 - n)) : (begF R (dig n x)).1 = true := by
  rw [begF_some, dig_length, List.take_of_length_le (by omega)]
  have hD : 0 < (2 : Nat) ^ (15 - n) := Nat.pow_pos (by omega)
  have h1 := (part_of hD).2 e
  have h2 := v15_take hb R.length (by omega) (Nat.le_refl _)
  rw [List.take_of_length_le (Nat.le_refl _)] at h2
  have h3 : x / 2 ^ (n - R.length) = num R := by
    rw [← h1, h2, Nat.div_div_eq_div_mul, ← Nat.pow_add, show 15 - n + (n - R.length) = 15 - R.length from by omega]
  have h4 := dig_add R.length (n - R.length) x
  rw [show R.length + (n - R.length) = n from by omega, h3, dig_num hb] at h4
  rw [h4, List.take_append_of_le_length (Nat.le_refl _), List.take_of_length_le (Nat.le_refl _)]
theorem cget1_hit (R : List Nat) (E : Int) : ∀ (ws : List (Int × Int)) (s k : Nat) (E : Int) (hk : k < ws.length), (∀ j (hj : j < ws.length), j < k → ws[j].2 = 0 ∨ (begF R (digI ws[j].1 ws[j].2)).2 = false) → ws[k].2 ≠ 0 → (begF R (digI ws[k].1 ws[k].2)).2 = true → cget1 ws s R E = (((s + k : Nat) : Int), ((digI ws[k].1 ws[k].2).length : Int), 0)
  | f :: t, s, 0, E, hk, _, h1, h2 => by
    unfold cget1
    simp only [List.getElem_cons_zero] at h1 h2 ⊢
    rw [if_neg h1, if_pos h2]
    rfl
  | f :: t, s, k + 1, E, hk, h0, h1, h2 => by
    have hf := h0 0 (by simp) (by omega)
    simp only [List.getElem_cons_zero] at hf
    have ih := fun E => cget1_hit R E t (s + 1) k E (by simpa using hk) (fun j hj hjk => by
      have := h0 (j + 1) (by simpa using hj) (by omega)
      simpa only [List.getElem_cons_succ] using this) (by simpa only [List.getElem_cons_succ] using h1) (by simpa only [List.getElem_cons_succ] using h2)
    simp only [List.getElem_cons_succ]
    unfold cget1
    by_cases hz : f.2 = 0
    · rw [if_pos hz, ih, show s + 1 + k = s + (k + 1) from by omega]
    · rcases hf with hf | hf
      · exact absurd hf hz
      · rw [if_neg hz, if_neg (by rw [hf]; decide), ih, show s + 1 + k = s + (k + 1) from by omega]
theorem cget1_short (R : List Nat) : ∀ (ws : List (Int × Int)) (s : Nat) (E : Int), (∀ j (hj : j < ws.length), ws[j].2 = 0 ∨ (begF R (digI ws[j].1 ws[j].2)).2 = false) → (E = 4 ∨ ∃ j, ∃ hj : j < ws.length, ws[j].2 ≠ 0 ∧ (begF R (digI ws[j].1 ws[j].2)).1 = true) → cget1 ws s R E = (0, 0, 4)
  | [], s, E, _, h => by
    rcases h with rfl | ⟨j, hj, _⟩
    · rfl
    · exact absurd hj (by simp)
  | f :: t, s, E, h0, h => by
    have hf := h0 0 (by simp)
    simp only [List.getElem_cons_zero] at hf
    have ih := fun E => cget1_short R t (s + 1) E (fun j hj => by
      have := h0 (j + 1) (by simpa using hj)
      simpa only [List.getElem_cons_succ] using this)
    have hrest : E = 4 ∨ (f.2 ≠ 0 ∧ (begF R (digI f.1 f.2)).1 = true) ∨ ∃ j, ∃ hj : j < t.length, t[j].2 ≠ 0 ∧ (begF R (digI t[j].1 t[j].2)).1 = true := by
      rcases h with h | ⟨j, hj, h1, h2⟩
      · exact Or.inl h
      · cases j with
        | zero => exact Or.inr (Or.inl ⟨by simpa only [List.getElem_cons_zero] using h1, by simpa only [List.getElem_cons_zero] using h2⟩)
        | succ j => exact Or.inr (Or.inr ⟨j, by simpa using hj, by simpa only [List.getElem_cons_succ] using h1, by simpa only [List.getElem_cons_succ] using h2⟩)
    unfold cget1
    by_cases hz : f.2 = 0
    · rw [if_pos hz]
      refine ih E ?_
      rcases hrest with h | h | h
      · exact Or.inl h
      · exact absurd hz h.1
      · exact Or.inr h
    · rcases hf with hf | hf
      · exact absurd hf hz
      · rw [if_neg hz, if_neg (by rw [hf]; decide)]
        refine ih _ ?_
        rcases hrest with h | h | h
        · left; split <;> simp [h]
        · left; rw [if_pos h.2]
        · exact Or.inr h
end Go.Proofs.Ytpocpckhcciecaa
