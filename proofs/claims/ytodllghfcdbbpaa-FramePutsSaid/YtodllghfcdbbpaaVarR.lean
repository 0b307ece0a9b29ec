/-
  Layer 2: what the document's own Size, Put and Fix return, for every argument.
-/
import Derived.Test.YtodllghfcdbbpaaVarP
import Derived.Test.YtodllghfcdbbpaaVarF
namespace Go.Proofs.Ytodllghfcdbbpaa
set_option linter.unusedSimpArgs false
set_option linter.unusedVariables false
open Go.ChangeShapes Go.WideShapes Go.ChangeAt Go.RowKit Go.Joins Go.Deep
theorem one_byte (x : Int) (b : UInt8) (h : (b.toNat : Int) = x) (W : World) :
    (convert 43 9 (.slice (some ⟨W.heap.size, 0, none⟩) 1 1)).run Try.prog (W.alloc (.cells #[.int .u8 x] 5)) = .ok (.string ⟨#[b]⟩) (W.alloc (.cells #[.int .u8 x] 5)) := by
  subst h
  exact run_str (W.alloc (.cells #[.int .u8 (b.toNat : Int)] 5)) W.heap.size 1 1 5 [b] rfl (Blk.new W 5 (bc [b]))
theorem add_bytes (a b : List UInt8) (h : a.length + b.length ≤ 9223372036854775807) (w : World) : (Op.stringOp .add ⟨a.toArray⟩ ⟨b.toArray⟩).run Try.prog w = .ok (.string ⟨(a ++ b).toArray⟩) w := by
  rw [run_string_add_sum w _ _ (by rw [ByteArray.size_mk', ByteArray.size_mk', List.size_toArray, List.size_toArray]; exact h), ByteArray.mk_append_mk]
theorem refFix_bad (n v : Int) (w : World) (h : v < 1 ∨ 8 < v ∨ n < 0) : Calls Try.prog 21 #[.int .i64 n, .int .i64 v] w fun e w' => e = .returned (strInt [] 2) ∧ Below w.heap.size w w' := by
  by_cases h1 : v < 1
  · clear h
    go_enter Try.func21, Try.ntmps21
    go_wp2
    go_ret2
    exact ⟨rfl, by go_grown⟩
  · by_cases h8 : 8 < v
    · clear h h1
      go_enter Try.func21, Try.ntmps21
      go_wp2
      go_ret2
      exact ⟨rfl, by go_grown⟩
    · have h0 : n < 0 := by omega
      have h1' : 1 ≤ v := by omega
      have h8' : v ≤ 8 := by omega
      clear h h1 h8
      go_enter Try.func21, Try.ntmps21
      go_wp2
      go_ret2
      exact ⟨rfl, by go_grown⟩
theorem div_pow256 (m k : Nat) : m / 256 ^ k / 256 = m / 256 ^ (k + 1) := by rw [Nat.div_div_eq_div_mul, Nat.pow_succ]
set_option maxRecDepth 100000 in
theorem refFix_in (m v : Nat) (w : World) (h1 : 1 ≤ (v : Int)) (h8 : (v : Int) ≤ 8) (hm : m < 9223372036854775808) (res : List UInt8 × Int) (hres : (if m < 256 ^ v then (fx v m, (0 : Int)) else ([], 2)) = res) :
    Calls Try.prog 21 #[.int .i64 m, .int .i64 v] w fun e w' => e = .returned (strInt res.1 res.2) ∧ Below w.heap.size w w' := by
  have h0 : (0 : Int) ≤ m := by omega
  have HM := Lib.hid hm
  have Hres := Lib.hid hres
  clear hm hres
  go_enter Try.func21, Try.ntmps21
  go_wp2
  go_loopw [0, 6, 7] (fun x s i wr => ∃ k q : Nat, k ≤ v ∧ i = .int .i64 k ∧ x = .int .i64 q ∧ s = .string ⟨((fx v m).take k).toArray⟩ ∧ Hid (q = m / 256 ^ k) ∧ Hid (Below w.heap.size w wr)) (fun _ _ i _ => 20 - (intOf i).toNat)
  case atStart => exact ⟨0, m, by omega, rfl, rfl, rfl, by show m = m / 1; omega, Below.refl _ _⟩
  case round =>
    obtain ⟨k, q, hk, rfl, rfl, rfl, Hq, Hb⟩ := hrel
    by_cases hlt : k < v
    · have hq0 : (0 : Int) ≤ q := by omega
      have hlen : ((fx v m).take k).length = k := by rw [List.length_take, fx_length]; omega
      have hcv := one_byte ((q : Int) % 256) (UInt8.ofNat (q % 256)) (by rw [u8_ofNat _ (by omega)]; omega)
      have had := add_bytes ((fx v m).take k) [UInt8.ofNat (q % 256)] (by rw [hlen]; simp; omega)
      have ht : (fx v m).take k ++ [UInt8.ofNat (q % 256)] = (fx v m).take (k + 1) := by rw [fx_take v m k hlt, ← Hq.out]
      rw [ht] at had
      have e1 : (ByteArray.mk [UInt8.ofNat (q % 256)].toArray) = ⟨#[UInt8.ofNat (q % 256)]⟩ := rfl
      rw [e1] at had
      clear hlen ht e1
      generalize UInt8.ofNat (q % 256) = b at *
      go_wp2
      go_roundw
      case rel =>
        have hb := Hb.out
        have hsz := hb.size
        have hqm : q < 9223372036854775808 := by
          rw [Hq.out]
          exact Nat.lt_of_le_of_lt (Nat.div_le_self _ _) HM.out
        refine ⟨k + 1, q / 256, by omega, iv (by omega), iv (by unfold wrap64; omega), rfl, ?_, by show Below _ _ _; go_grown⟩
        show q / 256 = m / 256 ^ (k + 1)
        rw [Hq.out, div_pow256]
      case measure => simp [intOf]; omega
    · obtain rfl : k = v := by omega
      have htk : (fx k m).take k = fx k m := List.take_of_length_le (by rw [fx_length]; omega)
      have Htk := Lib.hid htk
      clear htk
      by_cases hq : 0 < q
      · have hbig : ¬ m < 256 ^ k := by
          intro h
          have := Hq.out
          rw [Nat.div_eq_of_lt h] at this
          omega
        have Hbig := Lib.hid hbig
        clear hbig
        have hq' : 0 < (q : Int) := by omega
        go_wp2
        go_ret2
        have e := Hres.out
        rw [if_neg Hbig.out] at e
        exact ⟨by rw [← e]; rfl, Hb.out⟩
      · have hsm : m < 256 ^ k := by
          rcases Nat.lt_or_ge m (256 ^ k) with h | h
          · exact h
          · have h2 := Nat.div_pos h (Nat.pow_pos (by omega))
            rw [← Hq.out] at h2
            omega
        have Hsm := Lib.hid hsm
        clear hsm
        have hq' : ¬ 0 < (q : Int) := by omega
        go_wp2
        go_ret2
        have e := Hres.out
        rw [if_pos Hsm.out] at e
        exact ⟨by rw [← e, Htk.out]; rfl, Hb.out⟩
theorem refFix_any (n v : Int) (w : World) (hn : n < 9223372036854775808) : Calls Try.prog 21 #[.int .i64 n, .int .i64 v] w fun e w' => e = .returned (strInt (fixB n v) (fixE n v)) ∧ Below w.heap.size w w' := by
  by_cases h : 1 ≤ v ∧ v ≤ 8 ∧ 0 ≤ n
  · obtain ⟨m, rfl⟩ := Int.eq_ofNat_of_zero_le h.2.2
    obtain ⟨u, rfl⟩ := Int.eq_ofNat_of_zero_le (by omega : 0 ≤ v)
    have := refFix_in m u w h.1 h.2.1 (by omega) _ rfl
    have e : ((256 : Int) ^ u) = ((256 ^ u : Nat) : Int) := by rw [Int.natCast_pow]; rfl
    unfold fixB fixE
    rw [Int.toNat_natCast, Int.toNat_natCast, e]
    by_cases hs : m < 256 ^ u
    · rw [if_pos hs] at this
      have hs' : 1 ≤ (u : Int) ∧ (u : Int) ≤ 8 ∧ 0 ≤ (m : Int) ∧ (m : Int) < ((256 ^ u : Nat) : Int) := ⟨h.1, h.2.1, h.2.2, Int.ofNat_lt.2 hs⟩
      rw [if_pos hs', if_pos hs']
      exact this
    · rw [if_neg hs] at this
      have hs' : ¬ (1 ≤ (u : Int) ∧ (u : Int) ≤ 8 ∧ 0 ≤ (m : Int) ∧ (m : Int) < ((256 ^ u : Nat) : Int)) := fun hx => hs (Int.ofNat_lt.1 hx.2.2.2)
      rw [if_neg hs', if_neg hs']
      exact this
  · have hs' : ¬ (1 ≤ v ∧ v ≤ 8 ∧ 0 ≤ n ∧ n < 256 ^ v.toNat) := fun hx => h ⟨hx.1, hx.2.1, hx.2.2.1⟩
    unfold fixB fixE
    rw [if_neg hs', if_neg hs']
    exact refFix_bad n v w (by omega)
end Go.Proofs.Ytodllghfcdbbpaa
