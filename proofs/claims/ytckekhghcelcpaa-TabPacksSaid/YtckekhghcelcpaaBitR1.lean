/-
  Layer 4: what the document's own Digits return, for every argument.
-/
import Derived.Test.YtckekhghcelcpaaBitM
import Derived.Test.YtckekhghcelcpaaRows
import Derived.Deep.OwnRows
namespace Go.Proofs.Ytckekhghcelcpaa
set_option linter.unusedSimpArgs false
set_option linter.unusedVariables false
open Go.ChangeShapes Go.WideShapes Go.ChangeAt Go.RowKit Go.Joins Go.Deep

theorem bint_info : (Try.prog.info? 3).map (fun i => (i.zero, i.size, i.bytes)) = some (some (.int .i64 0), 1, 8) := by kernel_rfl

/-- The cells of a row of bits. -/
def bcs (l : List Nat) : List Value := l.map fun d : Nat => Value.int .i64 (d : Int)
theorem bcs_length (l : List Nat) : (bcs l).length = l.length := by simp [bcs]
theorem bcs_get (l : List Nat) (i : Nat) (h : i < l.length) : (bcs l)[i]? = some (.int .i64 (l[i] : Int)) := by simp [bcs, h]
theorem bcs_append (a b : List Nat) : bcs (a ++ b) = bcs a ++ bcs b := by simp [bcs]
theorem bcs_set (A C : List Nat) (b c : Nat) : (bcs (A ++ b :: C)).toArray.setIfInBounds A.length (.int .i64 (c : Int)) = (bcs (A ++ c :: C)).toArray := by
  rw [List.setIfInBounds_toArray]
  congr 1
  simp [bcs]
theorem bcs_one (l : List Nat) : ∀ u ∈ bcs l, u.oneCell' = true := by
  intro u hu
  obtain ⟨d, _, rfl⟩ := List.mem_map.1 hu
  rfl
theorem run_make_ints (n : Nat) (h : n ≤ 17592186044416) (w : World) :
    (Instr.makeSlice 22 (.int .i64 (n : Int)) (.int .i64 (n : Int))).run Try.prog w = .ok (.slice (some ⟨w.heap.size, 0, none⟩) n n) (w.alloc (.cells (bcs (List.replicate n 0)).toArray 3)) := by
  have e : madeCells #[.int .i64 0] n = (bcs (List.replicate n 0)).toArray := by
    apply Array.ext'
    simp [madeCells, Nat.mod_one, bcs]
    rw [List.map_const', List.length_range]
  rw [← e]
  exact run_make_row' (P := Try.prog) 22 3 (.int .i64 0) 8 Try.underlying22 bint_info rfl .i64 .i64 n (by omega) (by omega) w

theorem dig_low (k N : Nat) : dig (k + 1) N = N / 2 ^ k % 2 :: dig k N := by
  rw [Nat.add_comm, dig_add 1 k]
  rfl

set_option maxRecDepth 100000 in
set_option maxHeartbeats 1000000 in
theorem refDig_in (N W : Nat) (w : World) (hW : W ≤ 32) (hN : N < 9223372036854775808) : Calls Try.prog 33 #[.int .i64 N, .int .i64 W] w fun e w' =>
    ∃ h, e = .returned (.tuple #[.slice (some ⟨h, 0, none⟩) W W, .bool ((N : Int) / 2 ^ W == 0)]) ∧ Blk w' h 3 (bcs (dig W N)).toArray ∧ w.heap.size ≤ h ∧ Below w.heap.size w w' := by
  have hmk := run_make_ints W (by omega) w
  have hWi : (W : Int) ≤ 32 := by omega
  have hN0 : (0 : Int) ≤ N := by omega
  have HN := Lib.hid hN
  clear hN
  go_enter Try.func33, Try.ntmps33
  go_wp2
  clear hmk
  go_loopw [0, 7] (fun n i wr => ∃ j x : Nat, j ≤ W ∧ i = .int .i64 ((j : Int) - 1) ∧ n = .int .i64 x ∧ Hid (x = N / 2 ^ (W - j)) ∧ Hid (Blk wr w.heap.size 3 (bcs (List.replicate j 0 ++ dig (W - j) N)).toArray) ∧ Hid (Below w.heap.size w wr)) (fun _ i _ => (intOf i + 1).toNat)
  case atStart => exact ⟨W, N, Nat.le_refl _, rfl, rfl, by show N = _; simp, by show Blk _ _ _ _; simpa [dig] using Blk.new w 3 _, by show Below _ _ _; go_grown⟩
  case round =>
    obtain ⟨j, x, hj, rfl, rfl, Hx, HB, Hb⟩ := hrel
    by_cases hlt : 0 < j
    · obtain ⟨j, rfl⟩ : ∃ i, j = i + 1 := ⟨j - 1, by omega⟩
      have e1 : ((j + 1 : Nat) : Int) - 1 = (j : Int) := by omega
      rw [e1]
      have hb0 := HB.out
      rw [List.replicate_succ', List.append_assoc] at hb0
      have hf : wr.frozen? ⟨w.heap.size, j, none⟩ = false := hb0.frozen _
      have hc : wr.cell? ⟨w.heap.size, j, none⟩ = some (.int .i64 0) := by
        rw [hb0.cell]
        simp [bcs]
      have hnew := hb0.set_ j (.int .i64 ((x % 2 : Nat) : Int))
      rw [show ([0] ++ dig (W - (j + 1)) N : List Nat) = 0 :: dig (W - (j + 1)) N from rfl] at hnew
      have hset := bcs_set (List.replicate j 0) (dig (W - (j + 1)) N) 0 (x % 2)
      rw [List.length_replicate] at hset
      rw [hset] at hnew
      have hglt := hb0.lt
      have hjW : (j : Int) < W := by omega
      have Hnew := Lib.hid hnew
      clear hnew hset hb0 e1
      go_wp2
      go_roundw
      case rel =>
        refine ⟨j, x / 2, by omega, rfl, iv (by have := HN.out; have : N / 2 ^ (W - (j + 1)) ≤ N := Nat.div_le_self _ _; have := Hx.out; unfold wrap64; omega), ?_, ?_, ?_⟩
        · show x / 2 = N / 2 ^ (W - j)
          rw [Hx.out, show W - j = W - (j + 1) + 1 from by omega, Nat.pow_succ, Nat.div_div_eq_div_mul]
        · show Blk _ _ _ _
          have h1 := Hnew.out
          rw [Hx.out, ← dig_low, show W - (j + 1) + 1 = W - j from by omega] at h1
          simpa [Hx.out] using h1
        · show Below _ _ _
          have := Hb.out
          go_grown
      case measure => simp [intOf]
    · obtain rfl : j = 0 := by omega
      have hx := Hx.out
      have hfin : ((x : Int) == 0) = ((N : Int) / 2 ^ W == 0) := by
        rw [hx, Nat.sub_zero]
        norm_cast
      have Hfin := Lib.hid hfin
      clear hfin hx
      go_wp2
      go_ret2
      refine ⟨w.heap.size, by rw [← Hfin.out]; rfl, ?_, Nat.le_refl _, Hb.out⟩
      have := HB.out
      simpa using this

theorem refDig_yes (n width : Int) (w : World) (h : fits n width) : Calls Try.prog 33 #[.int .i64 n, .int .i64 width] w fun e w' =>
    ∃ g, e = .returned (.tuple #[.slice (some ⟨g, 0, none⟩) width.toNat width.toNat, .bool true]) ∧ Blk w' g 3 (bcs (digI n width)).toArray ∧ w.heap.size ≤ g ∧ Below w.heap.size w w' := by
  obtain ⟨h1, h2, h3, h4⟩ := h
  obtain ⟨W, rfl⟩ := Int.eq_ofNat_of_zero_le h1
  obtain ⟨N, rfl⟩ := Int.eq_ofNat_of_zero_le h3
  refine (refDig_in N W w (by omega) (by have h5 : 2 ^ W ≤ 2 ^ 32 := Nat.pow_le_pow_right (by omega) (by omega); rw [show (2 : Nat) ^ 32 = 4294967296 from by decide] at h5; simp only [Int.toNat_natCast] at h4; have h6 : N < 2 ^ W := (by exact_mod_cast h4); omega)).mono ?_
  rintro e w' ⟨g, rfl, hB, hg, hb⟩
  refine ⟨g, ?_, hB, hg, hb⟩
  have hd : (N : Int) / 2 ^ W = 0 := Int.ediv_eq_zero_of_lt h3 (by simpa using h4)
  rw [hd]
  rfl
theorem refDig_no (n width : Int) (w : World) (h : ¬ fits n width) (hn : n < 9223372036854775808) : Calls Try.prog 33 #[.int .i64 n, .int .i64 width] w fun e w' =>
    ∃ A k c, e = .returned (.tuple #[.slice A k c, .bool false]) ∧ Below w.heap.size w w' := by
  by_cases h1 : width < 0
  · clear h hn
    go_enter Try.func33, Try.ntmps33
    go_wp2
    go_ret2
    first | exact ⟨_, _, _, rfl, by go_grown⟩ | exact ⟨⟨_, _, _, rfl⟩, by go_grown⟩
  · by_cases h2 : 32 < width
    · clear h hn
      go_enter Try.func33, Try.ntmps33
      go_wp2
      go_ret2
      first | exact ⟨_, _, _, rfl, by go_grown⟩ | exact ⟨⟨_, _, _, rfl⟩, by go_grown⟩
    · by_cases h3 : n < 0
      · clear h hn
        go_enter Try.func33, Try.ntmps33
        go_wp2
        go_ret2
        first | exact ⟨_, _, _, rfl, by go_grown⟩ | exact ⟨⟨_, _, _, rfl⟩, by go_grown⟩
      · obtain ⟨W, rfl⟩ := Int.eq_ofNat_of_zero_le (by omega : 0 ≤ width)
        obtain ⟨N, rfl⟩ := Int.eq_ofNat_of_zero_le (by omega : 0 ≤ n)
        refine (refDig_in N W w (by omega) (by omega)).mono ?_
        rintro e w' ⟨g, rfl, _, _, hb⟩
        refine ⟨some ⟨g, 0, none⟩, W, W, ?_, hb⟩
        have hd : ¬ (N : Int) / 2 ^ W = 0 := fun e => h ⟨by omega, by omega, by omega, by
          have := Int.lt_mul_of_ediv_lt (Int.pow_pos (by decide : (0 : Int) < 2) : (0 : Int) < 2 ^ W) (by omega : (N : Int) / 2 ^ W < 1)
          simpa using this⟩
        rw [beq_eq_false_iff_ne.2 hd]

theorem blk_reads {w : World} {h : Nat} {t : TypeId} (l : List Value) (hB : Blk w h t l.toArray) (n : Nat) (hn : l.length = n) : Reads w w.heap.size 1 (some ⟨h, 0, none⟩) n l :=
  ⟨by omega, fun _ => ⟨h, 0, rfl, hB.lt, fun j u hu => by rw [Nat.zero_add, hB.cell]; simpa using hu⟩⟩

theorem reads_at {w : World} {B n : Nat} {A : Option Addr} {l : List Nat} (hr : Reads w B 1 A n (bcs l)) (hn : 0 < n) : ∃ b off, A = some ⟨b, off, none⟩ ∧ b < B ∧ ∀ k, (hk : k < l.length) → w.cell? ⟨b, off + k, none⟩ = some (.int .i64 (l[k] : Int)) := by
  obtain ⟨b, off, e, hb, hc⟩ := hr.2 hn
  exact ⟨b, off, e, hb, fun k hk => hc k _ (bcs_get l k hk)⟩
end Go.Proofs.Ytckekhghcelcpaa
