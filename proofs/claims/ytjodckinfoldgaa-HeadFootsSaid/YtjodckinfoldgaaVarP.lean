/-
  Layer 2: what lay and Put of package varint do, for every argument: the number's bytes lie at the place, and nothing else has turned.
-/
import Derived.Test.YtjodckinfoldgaaVarG
import Derived.Deep.OwnRows
namespace Go.Proofs.Ytjodckinfoldgaa
set_option linter.unusedSimpArgs false
set_option linter.unusedVariables false
open Go.ChangeShapes Go.WideShapes Go.ChangeAt Go.RowKit Go.Joins Go.Deep
def hd : Nat → Nat → List UInt8
  | 0, _ => []
  | f + 1, n => UInt8.ofNat (128 + n % 128) :: hd f (n / 128)
theorem hd_length : ∀ f n, (hd f n).length = f
  | 0, _ => rfl
  | f + 1, n => by simp [hd, hd_length f]
theorem hd_snoc : ∀ f n, hd (f + 1) n = hd f n ++ [UInt8.ofNat (128 + n / 128 ^ f % 128)]
  | 0, n => by simp [hd]
  | f + 1, n => by
    have := hd_snoc f (n / 128)
    rw [hd, this, hd, Nat.div_div_eq_div_mul, Nat.pow_succ, Nat.mul_comm 128]
    rfl
theorem dg_hd : ∀ f n, n < 128 ^ (f + 1) → ∃ j, j ≤ f ∧ dg (f + 1) n = hd j n ++ [UInt8.ofNat (n / 128 ^ j)] ∧ n / 128 ^ j < 128
  | f, n, h => by
    by_cases h1 : n < 128
    · exact ⟨0, by omega, by simp [dg, h1, hd], by simpa using h1⟩
    · cases f with
      | zero => simp at h; omega
      | succ f =>
        have hdiv : n / 128 < 128 ^ (f + 1) := by rw [Nat.div_lt_iff_lt_mul (by omega)]; rw [Nat.pow_succ] at h; exact h
        obtain ⟨j, hj, e, hq⟩ := dg_hd f (n / 128) hdiv
        have e2 : n / 128 / 128 ^ j = n / 128 ^ (j + 1) := by rw [Nat.div_div_eq_div_mul, Nat.pow_succ, Nat.mul_comm 128]
        rw [e2] at e hq
        refine ⟨j + 1, by omega, ?_, hq⟩
        rw [dg, if_neg h1, e]
        rfl
theorem byte_info : (Try.prog.info? 5).map (fun i => (i.zero, i.size, i.bytes)) = some (some (.int .u8 0), 1, 1) := by kernel_rfl
set_option maxRecDepth 100000 in
set_option maxHeartbeats 1000000 in
theorem lay_any (n N : Nat) (pre mid post : List UInt8) (g : Nat) (w : World) (hn : n < 9223372036854775808) (hm : mid.length = (dg 9 n).length) (hN : pre.length + mid.length + post.length = N) (hB : Blk w g 5 (bc (pre ++ (mid ++ post)))) (hmax : N ≤ 4611686018427387904) :
    Calls Try.prog 46 #[.slice (some ⟨g, 0, none⟩) N N, .int .i64 pre.length, .int .i64 n] w fun e w' => e = .returned (.int .i64 ((pre.length + (dg 9 n).length : Nat) : Int)) ∧ Blk w' g 5 (bc (pre ++ (dg 9 n ++ post))) ∧ Below g w w' := by
  obtain ⟨i0, hi, hz0, hz1, hz2⟩ := info_parts byte_info
  obtain ⟨j, hj, hdg, hq⟩ := dg_hd 8 n (by rw [← pow9] at hn; exact hn)
  have hL : (dg 9 n).length = j + 1 := by rw [hdg]; simp [hd_length]
  have hsz : sizeF (n : Int) = (j : Int) + 1 := by unfold sizeF; rw [putB_of (by omega), Int.toNat_natCast, hL]; rfl
  have hsl : ∀ W : World, (Instr.slice 74 (.slice (some ⟨g, 0, none⟩) N N) (some (.int .i64 (pre.length : Int))) (some (.int .i64 ((pre.length : Int) + ((j : Int) + 1)))) (some (.int .i64 ((pre.length : Int) + ((j : Int) + 1))))).run Try.prog W = .ok (.slice (some ⟨g, pre.length, none⟩) (j + 1) (j + 1)) W := fun W => by
    have := run_slice_three (P := Try.prog) Try.underlying74 hi hz1 g 0 N N pre.length (pre.length + (j + 1)) (by omega) (by omega) W
    rw [Int.natCast_add, Int.natCast_add, show pre.length + (j + 1) - pre.length = j + 1 from by omega, Nat.zero_add] at this
    exact this
  have e9 : (dg 9 n) = hd j n ++ [UInt8.ofNat (n / 128 ^ j)] := hdg
  rw [hL] at hm ⊢
  rw [e9]
  have hn' : (n : Int) < 9223372036854775808 := by omega
  have hmaxp : pre.length + (j + 1) ≤ 4611686018427387904 := by omega
  have Hq := Lib.hid hq
  have Hm := Lib.hid hm
  have HB := Lib.hid hB
  clear hdg hq hL e9 hn hm hB hz0 hz1 hz2 hi
  generalize hP : pre.length = P0 at *
  have HP := Lib.hid hP
  clear hP
  go_enter Try.func46, Try.ntmps46
  go_wp2_with (refine (size_any (n : Int) _ hn').mono ?_; rintro e w1 ⟨rfl, rfl⟩; rw [hsz])
  go_loopw [2, 21] (fun s i wr => ∃ k x : Nat, k ≤ j + 1 ∧ i = .int .i64 k ∧ s = .int .i64 x ∧ (x : Int) < 9223372036854775808 ∧ Hid (x = n / 128 ^ k) ∧ Hid (Blk wr g 5 (bc (pre ++ (hd k n ++ (mid.drop k ++ post))))) ∧ Hid (Below g w wr)) (fun _ i _ => 20 - (intOf i).toNat)
  case atStart => exact ⟨0, n, by omega, rfl, rfl, hn', by show n = n / 1; omega, HB.out, Below.refl _ _⟩
  case round =>
    obtain ⟨k, x, hk, rfl, rfl, hx, Hx, HBk, Hb⟩ := hrel
    by_cases hlt : k < j + 1
    · obtain ⟨b, hb⟩ : ∃ b, mid.drop k = b :: mid.drop (k + 1) := ⟨mid[k]'(by have := Hm.out; omega), List.drop_eq_getElem_cons (by have := Hm.out; omega)⟩
      have hlen : (pre ++ hd k n).length = P0 + k := by rw [List.length_append, HP.out, hd_length]
      have hg : wr.cell? ⟨g, P0 + k, none⟩ = some (.int .u8 (b.toNat : Int)) := blk_byte HBk.out (by
        rw [← List.append_assoc, List.getElem?_append_right (by omega), hlen, hb]
        simp)
      have hf : wr.frozen? ⟨g, P0 + k, none⟩ = false := HBk.out.frozen _
      have hglt := HBk.out.lt
      have Hlen := Lib.hid hlen
      have Hbb := Lib.hid hb
      clear hlen hb hsl hsz
      generalize hbv : (b.toNat : Int) = bv at hg
      clear hbv
      have hx0 : (0 : Int) ≤ x := by omega
      have hkk : (k : Int) < (j : Int) + 1 := by omega
      go_wp2
      go_roundw
      case rel =>
        have hx' : x = n / 128 ^ k := Hx.out
        have hb := Hb.out
        have hval : ((UInt8.ofNat (128 + x % 128)).toNat : Int) = (x : Int) % 128 + 128 := by rw [u8_ofNat _ (by omega)]; omega
        have hnew := HBk.out.set_ (P0 + k) (.int .u8 ((UInt8.ofNat (128 + x % 128)).toNat : Int))
        rw [Hbb.out, ← List.append_assoc, List.cons_append, ← Hlen.out, bc_set, hval, Hlen.out] at hnew
        refine ⟨k + 1, x / 128, by omega, iv (by omega), iv (by omega), by omega, ?_, ?_, by show Below g w _; go_grown⟩
        · show x / 128 = n / 128 ^ (k + 1)
          rw [hx', Nat.div_div_eq_div_mul, Nat.pow_succ]
        · show Blk _ g _ _
          rw [hd_snoc, ← hx']
          simpa using hnew
      case measure => simp [intOf]; omega
    · obtain rfl : k = j + 1 := by omega
      have hdrop : mid.drop (j + 1) = [] := List.drop_eq_nil_of_le (by have := Hm.out; omega)
      have hblk : Blk wr g 5 (bc ((pre ++ hd j n) ++ UInt8.ofNat (128 + n / 128 ^ j % 128) :: post)) := by
        have := HBk.out
        rw [hdrop, hd_snoc] at this
        simpa using this
      have hlen : (pre ++ hd j n).length = P0 + j := by rw [List.length_append, HP.out, hd_length]
      have hq := Hq.out
      generalize hqq : n / 128 ^ j = q at *
      have hg : wr.cell? ⟨g, P0 + j, none⟩ = some (.int .u8 ((q : Int) + 128)) := by
        rw [blk_byte hblk (b := UInt8.ofNat (128 + q % 128)) (by rw [List.getElem?_append_right (by omega), hlen]; simp), u8_ofNat _ (by omega)]
        congr 2
        omega
      have hf : wr.frozen? ⟨g, P0 + j, none⟩ = false := hblk.frozen _
      have hglt := hblk.lt
      have hnew := hblk.set_ (P0 + j) (.int .u8 ((UInt8.ofNat q).toNat : Int))
      rw [← hlen, bc_set, u8_ofNat _ (by omega), hlen] at hnew
      have Hnew := Lib.hid hnew
      clear hnew hblk hdrop hlen hsl hsz Hx HBk HB
      have hj0 : (0 : Int) ≤ j := by omega
      have hq0 : (0 : Int) ≤ q := by omega
      have hq128 : (q : Int) < 128 := by omega
      have Hqq := Lib.hid hqq
      have Hq2 := Hq.out
      clear hq hqq Hq2
      go_wp2
      go_ret
      have hb := Hb.out
      refine ⟨congrArg Ending.returned (iv (by omega)), ?_, by go_grown⟩
      rw [Hqq.out]
      simpa using Hnew.out
theorem run_make_bytes (n : Nat) (h : n ≤ 281474976710656) (w : World) :
    (Instr.makeSlice 74 (.int .i64 (n : Int)) (.int .i64 (n : Int))).run Try.prog w = .ok (.slice (some ⟨w.heap.size, 0, none⟩) n n) (w.alloc (.cells (bc (List.replicate n 0)) 5)) := by
  rw [← bc_zero]
  exact run_make_row' (P := Try.prog) 74 5 (.int .u8 0) 1 Try.underlying74 byte_info rfl .i64 .i64 n (by omega) (by omega) w
theorem run_str (w : World) (g n c : Nat) (t : TypeId) (l : List UInt8) (hn : l.length = n) (h : Blk w g t (bc l)) :
    (convert 74 9 (.slice (some ⟨g, 0, none⟩) n c)).run Try.prog w = .ok (.string ⟨l.toArray⟩) w :=
  run_bytes_str Try.underlying74 Try.underlying5 Try.underlying9 w g 0 c l n hn fun j b hj => by rw [Nat.zero_add]; exact blk_byte h hj
def strInt (l : List UInt8) (e : Int) : Value := .tuple #[.string ⟨l.toArray⟩, .int .i64 e]
set_option maxRecDepth 100000 in
theorem put_any (n : Int) (w : World) (h : n < 9223372036854775808) : Calls Try.prog 39 #[.int .i64 n] w fun e w' => e = .returned (strInt (putB n) (putE n)) ∧ Below w.heap.size w w' := by
  by_cases h0 : n < 0
  · have e1 : putB n = [] := by simp [putB, h0]
    have e2 : putE n = 2 := by simp [putE, h0]
    rw [e1, e2]
    clear e1 e2
    go_enter Try.func39, Try.ntmps39
    go_wp2
    go_ret2
    exact ⟨rfl, by go_grown⟩
  · obtain ⟨m, rfl⟩ := Int.eq_ofNat_of_zero_le (by omega : 0 ≤ n)
    have e1 : putB (m : Int) = dg 9 m := by rw [putB_of (by omega), Int.toNat_natCast]
    have e2 : putE (m : Int) = 0 := by unfold putE; rw [if_neg h0]
    have hsz : sizeF (m : Int) = ((dg 9 m).length : Int) := by unfold sizeF; rw [e1]
    have hle := dg_le 9 m
    rw [e1, e2]
    clear e1 e2
    have hmk := fun W : World => run_make_bytes (dg 9 m).length (by omega) W
    have hlay := fun W : World => fun hB => lay_any m (dg 9 m).length [] (List.replicate (dg 9 m).length 0) [] w.heap.size W (by omega) (by simp) (by simp) hB (by omega)
    have hstr := fun (W : World) => run_str W w.heap.size (dg 9 m).length (dg 9 m).length 5 (dg 9 m) rfl
    simp only [List.nil_append, List.append_nil, List.length_nil, Nat.zero_add] at hlay
    generalize dg 9 m = D at *
    generalize hDL : D.length = L at *
    have Hlay := Lib.hid hlay
    have Hstr := Lib.hid hstr
    clear hlay hstr
    go_enter Try.func39, Try.ntmps39
    go_wp2_with (first
      | (go_at_call 45; refine (size_any (m : Int) _ h).mono ?_; rintro e w1 ⟨rfl, rfl⟩; rw [hsz])
      | (go_at_call 46; refine (Hlay.out _ (Blk.new _ _ _)).mono ?_; rintro e w2 ⟨rfl, hB2, hb2⟩; have hcv := Hstr.out w2 hB2))
    go_ret2
    exact ⟨rfl, Below.trans (by go_grown) hb2⟩
end Go.Proofs.Ytjodckinfoldgaa
