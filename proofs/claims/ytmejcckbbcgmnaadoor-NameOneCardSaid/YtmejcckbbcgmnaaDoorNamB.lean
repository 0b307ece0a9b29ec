/-
  Layer 18, the program's: a number with noughts ahead, a segment's name.
-/
import Derived.Test.YtmejcckbbcgmnaaDoorNamA
import Derived.Test.YtmejcckbbcgmnaaDoorItoa
namespace Go.Proofs.YtmejcckbbcgmnaaDoor
set_option linter.unusedSimpArgs false
set_option linter.unusedVariables false
open Go.ChangeShapes Go.WideShapes Go.ChangeAt Go.RowKit Go.Joins Go.Deep
theorem nsx_snoc : ∀ (k n : Nat), nsx (k + 1) n = nsx k (n / 10) ++ [UInt8.ofNat (48 + n % 10)]
  | 0, n => by
    show [UInt8.ofNat (48 + n / 10 ^ 0 % 10)] = _
    rw [Nat.pow_zero, Nat.div_one]
    rfl
  | k + 1, n => by
    show UInt8.ofNat (48 + n / 10 ^ (k + 1) % 10) :: nsx (k + 1) n = UInt8.ofNat (48 + n / 10 / 10 ^ k % 10) :: nsx k (n / 10) ++ _
    rw [nsx_snoc k n, Nat.div_div_eq_div_mul, Nat.pow_succ, Nat.mul_comm (10 ^ k) 10]
    rfl
theorem nsx_nought : ∀ (k : Nat), nsx k 0 = List.replicate k 48
  | 0 => rfl
  | k + 1 => by
    show UInt8.ofNat (48 + 0 / 10 ^ k % 10) :: nsx k 0 = _
    rw [Nat.zero_div, nsx_nought k, List.replicate_succ]
    rfl
theorem ndec_len : ∀ (k n : Nat), n < 10 ^ (k + 1) → (Lib.decDigits n).length ≤ k + 1
  | 0, n, h => by
    rw [Lib.decDigits_one (by simpa using h)]
    simp
  | k + 1, n, h => by
    by_cases h1 : n < 10
    · rw [Lib.decDigits_one h1]
      simp
    · rw [Lib.decDigits, dif_neg h1, List.length_append]
      have := ndec_len k (n / 10) (by rw [Nat.pow_succ] at h; omega)
      simp
      omega
theorem nsx_dec : ∀ (k n : Nat), n < 10 ^ (k + 1) → nsx (k + 1) n = List.replicate (k + 1 - (Lib.decDigits n).length) 48 ++ Lib.decDigits n
  | 0, n, h => by
    rw [nsx_snoc, Lib.decDigits_one (by simpa using h), Nat.mod_eq_of_lt (by simpa using h)]
    rfl
  | k + 1, n, h => by
    rw [nsx_snoc]
    by_cases h1 : n < 10
    · rw [Lib.decDigits_one h1, Nat.div_eq_of_lt h1, nsx_nought, Nat.mod_eq_of_lt h1]
      rfl
    · have hk : n / 10 < 10 ^ (k + 1) := by rw [Nat.pow_succ] at h; omega
      have hl := ndec_len k (n / 10) hk
      rw [nsx_dec k (n / 10) hk, List.append_assoc]
      conv => rhs; rw [Lib.decDigits, dif_neg h1]
      rw [List.length_append]
      congr 2
      simp
set_option maxRecDepth 100000 in
theorem p_npad_any (n : Nat) (hn : 1 ≤ n ∧ n ≤ 999999) (w : World) (ht : NTab w) :
    Calls Tryd.prog 20 #[.int .i64 (n : Int)] w fun e w' => e = .returned (.string ⟨(nsx 6 n).toArray⟩) ∧ Below w.heap.size w w' := by
  have C := itoa_any (n : Int) (by omega) (by omega) w ht
  rw [Int.toNat_natCast] at C
  have hl := ndec_len 5 n (by omega)
  have e := nsx_dec 5 n (by omega)
  rw [show 5 + 1 = 6 from rfl] at hl e
  rw [e]
  have hadd := fun W => add_bytes (List.replicate (6 - (Lib.decDigits n).length) 48) (Lib.decDigits n) (by rw [List.length_replicate]; omega) W
  have hx : ∀ k : Nat, k ≤ 6 → (⟨#[48, 48, 48, 48, 48, 48]⟩ : ByteArray).extract k 6 = ⟨(List.replicate (6 - k) (48 : UInt8)).toArray⟩ := fun k hk => by
    match k, hk with
    | 0, _ => rfl
    | 1, _ => rfl
    | 2, _ => rfl
    | 3, _ => rfl
    | 4, _ => rfl
    | 5, _ => rfl
    | 6, _ => rfl
  have hxk := hx _ hl
  clear hx e
  replace C := Lib.hid C
  clear ht
  generalize Lib.decDigits n = D at *
  generalize hq : D.length = q at *
  have hqi : (0 : Int) ≤ (q : Int) ∧ (q : Int) ≤ 6 := by omega
  generalize List.replicate (6 - q) (48 : UInt8) ++ D = Y at *
  generalize List.replicate (6 - q) (48 : UInt8) = Z at *
  go_enter Tryd.func20, Tryd.ntmps20
  go_wp2_with (first | (go_at_call 24; (with_reducible refine C.out.mono ?_); rintro e w1 ⟨rfl, hb1⟩; replace hb1 := Lib.hid hb1) | fail)
  go_ret
  exact ⟨rfl, hb1.out⟩
set_option maxRecDepth 100000 in
set_option maxHeartbeats 4000000 in
theorem p_nseg_any (a b : Int) (w : World) (ht : NTab w) : Calls Tryd.prog 9 #[.int .i64 a, .int .i64 b] w fun e w' => e = .returned (.tuple #[.string ⟨(nsegF a b).1.toArray⟩, .int .i64 (nsegF a b).2]) ∧ Below w.heap.size w w' := by
  by_cases h1 : ¬ (1 ≤ a ∧ a ≤ 999999)
  · rw [show nsegF a b = ([], 2) from if_neg (by omega)]
    have D := Lib.hid (ncnt_no a h1)
    clear h1 ht
    go_enter Tryd.func9, Tryd.ntmps9
    go_wp2_with (first | (go_at_call 19; (with_reducible refine (D.out _).mono ?_); rintro e w1 ⟨rfl, rfl⟩) | fail)
    go_ret2
    exact ⟨rfl, by go_grown⟩
  have h1' := Classical.not_not.1 h1
  have D1 := Lib.hid (ncnt_yes a h1'.1 h1'.2)
  by_cases h2 : ¬ (1 ≤ b ∧ b ≤ 999999)
  · rw [show nsegF a b = ([], 2) from if_neg (by omega)]
    have D := Lib.hid (ncnt_no b h2)
    clear h1 h1' h2 ht
    go_enter Tryd.func9, Tryd.ntmps9
    go_wp2_with (first | (go_at_call 19; (with_reducible refine (D1.out _).mono ?_); rintro e w1 ⟨rfl, rfl⟩; clear D1) | (go_at_call 19; (with_reducible refine (D.out _).mono ?_); rintro e w1 ⟨rfl, rfl⟩) | fail)
    go_ret2
    exact ⟨rfl, by go_grown⟩
  have h2' := Classical.not_not.1 h2
  have D2 := Lib.hid (ncnt_yes b h2'.1 h2'.2)
  obtain ⟨p, rfl⟩ : ∃ p : Nat, a = (p : Int) := ⟨a.toNat, by omega⟩
  obtain ⟨q, rfl⟩ : ∃ q : Nat, b = (q : Int) := ⟨b.toNat, by omega⟩
  rw [show nsegF (p : Int) (q : Int) = (nmB p q, 0) from by unfold nsegF; rw [if_pos (by omega)]; rfl]
  have HT := Lib.hid ht
  have HB := Lib.hid (Below.refl w.heap.size w)
  have s1 := Lib.hid fun W (hW : NTab W) => p_npad_any p (by omega) W hW
  have s2 := Lib.hid fun W (hW : NTab W) => p_npad_any q (by omega) W hW
  have l1 := nsx_len 6 p
  have l2 := nsx_len 6 q
  have e : nmB p q = (((nhead ++ nsx 6 p) ++ [45]) ++ nsx 6 q) ++ ntail := by unfold nmB; simp only [List.append_assoc, List.cons_append, List.nil_append]
  rw [e]
  clear e h1 h1' h2 h2' ht
  dsimp only
  have a1 := fun W => add_bytes [115, 101, 103, 45] (nsx 6 p) (by rw [l1]; decide) W
  have a2 := fun W => add_bytes (nhead ++ nsx 6 p) [45] (by rw [List.length_append, l1]; decide) W
  have a3 := fun W => add_bytes ((nhead ++ nsx 6 p) ++ [45]) (nsx 6 q) (by rw [List.length_append, List.length_append, l1, l2]; decide) W
  have a4 := fun W => add_bytes (((nhead ++ nsx 6 p) ++ [45]) ++ nsx 6 q) [46, 108, 111, 103] (by rw [List.length_append, List.length_append, List.length_append, l1, l2]; decide) W
  rw [show ([115, 101, 103, 45] : List UInt8) ++ nsx 6 p = nhead ++ nsx 6 p from rfl] at a1
  rw [show (((nhead ++ nsx 6 p) ++ [45]) ++ nsx 6 q) ++ ([46, 108, 111, 103] : List UInt8) = (((nhead ++ nsx 6 p) ++ [45]) ++ nsx 6 q) ++ ntail from rfl] at a4
  clear l1 l2
  generalize (((nhead ++ nsx 6 p) ++ [45]) ++ nsx 6 q) ++ ntail = Y4 at *
  generalize ((nhead ++ nsx 6 p) ++ [45]) ++ nsx 6 q = Y3 at *
  generalize (nhead ++ nsx 6 p) ++ [45] = Y2 at *
  generalize nhead ++ nsx 6 p = Y1 at *
  generalize nsx 6 p = S1 at *
  generalize nsx 6 q = S2 at *
  go_enter Tryd.func9, Tryd.ntmps9
  go_wp2_with (first
    | (go_at_call 19; (with_reducible refine (D1.out _).mono ?_); rintro e w1 ⟨rfl, rfl⟩; clear D1)
    | (go_at_call 19; (with_reducible refine (D2.out _).mono ?_); rintro e w1 ⟨rfl, rfl⟩; clear D2)
    | (go_at_call 20; (with_reducible refine (s1.out _ (HT.out.of HB.out)).mono ?_); rintro e w1 ⟨rfl, hb1⟩; replace HB := Lib.hid (HB.out.trans (hb1.mono HB.out.size)); clear hb1 s1)
    | (go_at_call 20; (with_reducible refine (s2.out _ (HT.out.of HB.out)).mono ?_); rintro e w2 ⟨rfl, hb2⟩; replace HB := Lib.hid (HB.out.trans (hb2.mono HB.out.size)); clear hb2 s2)
    | fail)
  go_ret2
  exact ⟨rfl, HB.out⟩
end Go.Proofs.YtmejcckbbcgmnaaDoor
