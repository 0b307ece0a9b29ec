/-
  Layer 2: what Fix of package varint returns, for every argument.
-/
import Derived.Test.YtodllghfcdbbpaaVarP
import Derived.Outline
namespace Go.Proofs.Ytodllghfcdbbpaa
set_option linter.unusedSimpArgs false
set_option linter.unusedVariables false
open Go.ChangeShapes Go.WideShapes Go.ChangeAt Go.RowKit Go.Joins Go.Deep
theorem fix_a (n v : Int) (w : World) (hv : v < 1) :
    Calls Try.prog 27 #[.int .i64 n, .int .i64 v] w fun e w' => e = .returned (strInt [] 2) ∧ Below w.heap.size w w' := by
  go_enter Try.func27, Try.ntmps27
  go_wp2
  go_ret2
  exact ⟨rfl, by go_grown⟩
theorem fix_b (n v : Int) (w : World) (hv : 8 < v) :
    Calls Try.prog 27 #[.int .i64 n, .int .i64 v] w fun e w' => e = .returned (strInt [] 2) ∧ Below w.heap.size w w' := by
  go_enter Try.func27, Try.ntmps27
  go_wp2
  go_ret2
  exact ⟨rfl, by go_grown⟩
theorem fix_c (n v : Int) (w : World) (hv : v ≤ 8) (h1 : 1 ≤ v) (hn : n < 0) :
    Calls Try.prog 27 #[.int .i64 n, .int .i64 v] w fun e w' => e = .returned (strInt [] 2) ∧ Below w.heap.size w w' := by
  go_enter Try.func27, Try.ntmps27
  go_wp2
  go_ret2
  exact ⟨rfl, by go_grown⟩
theorem fix_d (m v : Nat) (w : World) (h1 : 1 ≤ (v : Int)) (h8 : (v : Int) ≤ 8) (hn : 256 ^ v ≤ m) :
    Calls Try.prog 27 #[.int .i64 m, .int .i64 v] w fun e w' => e = .returned (strInt [] 2) ∧ Below w.heap.size w w' := by
  have hsh : ((m : Int) / 2 ^ (8 * v) != 0) = true := by
    have e : ((2 : Int) ^ (8 * v)) = ((256 ^ v : Nat) : Int) := by rw [pow256, Int.natCast_pow]; rfl
    rw [e, bne_iff_ne, ne_eq, ← Int.natCast_ediv]
    have := Nat.div_pos hn (Nat.pow_pos (by omega))
    omega
  clear hn
  go_enter Try.func27, Try.ntmps27
  go_wp2
  go_ret2
  exact ⟨rfl, by go_grown⟩
theorem fx_take (v m k : Nat) (h : k < v) : (fx v m).take (k + 1) = (fx v m).take k ++ [UInt8.ofNat (m / 256 ^ k % 256)] := by
  have hk : k < (fx v m).length := by rw [fx_length]; exact h
  rw [List.take_succ_eq_append_getElem hk]
  congr 2
  have := fx_get v m k h
  rw [List.getElem?_eq_getElem hk] at this
  exact Option.some.inj this
set_option maxRecDepth 100000 in
theorem fix_in (m v : Nat) (w : World) (h1 : 1 ≤ (v : Int)) (h8 : (v : Int) ≤ 8) (hf : m < 256 ^ v) :
    Calls Try.prog 27 #[.int .i64 m, .int .i64 v] w fun e w' => e = .returned (strInt (fx v m) 0) ∧ Below w.heap.size w w' := by
  have hsh : ((m : Int) / 2 ^ (8 * v) != 0) = false := by
    have e : ((2 : Int) ^ (8 * v)) = ((256 ^ v : Nat) : Int) := by rw [pow256, Int.natCast_pow]; rfl
    rw [e, ← Int.natCast_ediv, Nat.div_eq_of_lt hf]
    rfl
  have h0 : (0 : Int) ≤ m := by omega
  clear hf
  go_enter Try.func27, Try.ntmps27
  go_wp2
  clear hsh
  go_loopw [31] (fun i wr => ∃ k : Nat, k ≤ v ∧ i = .int .i64 k ∧ Hid (Blk wr w.heap.size 68 (bc ((fx v m).take k ++ List.replicate (8 - k) 0))) ∧ Hid (Below w.heap.size w wr)) (fun i _ => 20 - (intOf i).toNat)
  case atStart => exact ⟨0, by omega, rfl, by show Blk _ _ _ _; simpa [bc] using Blk.new w 68 (bc (List.replicate 8 0)), by show Below w.heap.size w _; go_grown⟩
  case round =>
    obtain ⟨k, hk, rfl, HBk, Hb⟩ := hrel
    by_cases hlt : k < v
    · have hlen : ((fx v m).take k).length = k := by rw [List.length_take, fx_length]; omega
      have hrep : List.replicate (8 - k) (0 : UInt8) = 0 :: List.replicate (8 - (k + 1)) 0 := by rw [show 8 - k = 8 - (k + 1) + 1 from by omega]; rfl
      have hg : wr.cell? ⟨w.heap.size, k, none⟩ = some (.int .u8 0) := by
        have := blk_byte HBk.out (i := k) (b := 0) (by rw [hrep, List.getElem?_append_right (by omega), hlen]; simp)
        exact this
      have hf : wr.frozen? ⟨w.heap.size, k, none⟩ = false := HBk.out.frozen _
      have hglt := HBk.out.lt
      have Hlen := Lib.hid hlen
      have Hrep := Lib.hid hrep
      clear hlen hrep
      go_wp2
      go_roundw
      case rel =>
        have hb := Hb.out
        have hval : ((UInt8.ofNat (m / 256 ^ k % 256)).toNat : Int) = (m : Int) / 2 ^ (8 * k) % 256 := by
          have e : ((2 : Int) ^ (8 * k)) = ((256 ^ k : Nat) : Int) := by rw [pow256, Int.natCast_pow]; rfl
          rw [u8_ofNat _ (by omega), e, ← Int.natCast_ediv]
          omega
        have hnew := HBk.out.set_ k (.int .u8 ((UInt8.ofNat (m / 256 ^ k % 256)).toNat : Int))
        have hs := bc_set ((fx v m).take k) (List.replicate (8 - (k + 1)) 0) 0 (UInt8.ofNat (m / 256 ^ k % 256))
        rw [Hlen.out] at hs
        rw [Hrep.out, hs, hval] at hnew
        refine ⟨k + 1, by omega, iv (by omega), ?_, by show Below _ _ _; go_grown⟩
        show Blk _ _ _ _
        rw [fx_take v m k hlt, List.append_assoc]
        exact hnew
      case measure => simp [intOf]; omega
    · obtain rfl : k = v := by omega
      have hcv := run_bytes_str Try.underlying43 Try.underlying5 Try.underlying9 wr w.heap.size 0 k (fx k m) k (fx_length k m) (fun j b hj => by
        rw [Nat.zero_add]
        refine blk_byte HBk.out ?_
        rw [List.getElem?_append_left (by
          have hj' := (List.getElem?_eq_some_iff.1 hj).1
          rw [List.length_take, fx_length] at *
          omega), List.take_of_length_le (by rw [fx_length]; omega)]
        exact hj)
      clear HBk
      go_wp2
      go_ret2
      exact ⟨rfl, Hb.out⟩
theorem fix_any (n v : Int) (w : World) : Calls Try.prog 27 #[.int .i64 n, .int .i64 v] w fun e w' => e = .returned (strInt (fixB n v) (fixE n v)) ∧ Below w.heap.size w w' := by
  by_cases h : 1 ≤ v ∧ v ≤ 8 ∧ 0 ≤ n ∧ n < 256 ^ v.toNat
  · have e1 : fixB n v = fx v.toNat n.toNat := by unfold fixB; rw [if_pos h]
    have e2 : fixE n v = 0 := by unfold fixE; rw [if_pos h]
    rw [e1, e2]
    obtain ⟨m, rfl⟩ := Int.eq_ofNat_of_zero_le h.2.2.1
    obtain ⟨u, rfl⟩ := Int.eq_ofNat_of_zero_le (by omega : 0 ≤ v)
    have h4 := h.2.2.2
    rw [Int.toNat_natCast] at h4 ⊢
    refine fix_in m u w h.1 h.2.1 ?_
    have e : ((256 : Int) ^ u) = ((256 ^ u : Nat) : Int) := by rw [Int.natCast_pow]; rfl
    rw [e] at h4
    exact Int.ofNat_lt.1 h4
  · have e1 : fixB n v = [] := by unfold fixB; rw [if_neg h]
    have e2 : fixE n v = 2 := by unfold fixE; rw [if_neg h]
    rw [e1, e2]
    by_cases h1 : 1 ≤ v
    · by_cases h8 : v ≤ 8
      · by_cases h0 : 0 ≤ n
        · obtain ⟨m, rfl⟩ := Int.eq_ofNat_of_zero_le h0
          obtain ⟨u, rfl⟩ := Int.eq_ofNat_of_zero_le (by omega : 0 ≤ v)
          refine fix_d m u w h1 h8 ?_
          have e : ((256 : Int) ^ u) = ((256 ^ u : Nat) : Int) := by rw [Int.natCast_pow]; rfl
          rw [Int.toNat_natCast, e] at h
          rcases Nat.lt_or_ge m (256 ^ u) with hx | hx
          · exact absurd ⟨h1, h8, h0, Int.ofNat_lt.2 hx⟩ h
          · exact hx
        · exact fix_c n v w h8 h1 (by omega)
      · exact fix_b n v w (by omega)
    · exact fix_a n v w (by omega)
end Go.Proofs.Ytodllghfcdbbpaa
