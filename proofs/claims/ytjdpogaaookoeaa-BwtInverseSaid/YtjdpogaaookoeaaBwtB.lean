/-
  Layer 13: below.
-/
import Derived.Test.YtjdpogaaookoeaaBwtV0
import Derived.Test.YtjdpogaaookoeaaBwtP
namespace Go.Proofs.Ytjdpogaaookoeaa
set_option linter.unusedSimpArgs false
set_option linter.unusedVariables false
open Go.ChangeShapes Go.WideShapes Go.ChangeAt Go.RowKit Go.Joins Go.Deep

/-- The counts of bytes, as far as they have become numbers of lesser ones. -/
def bbw (l : List UInt8) (k : Nat) : List Int := (List.range 256).map fun b => if b < k then ((bbelow l b : Nat) : Int) else ((bsame l b l.length : Nat) : Int)
theorem bbw_len (l : List UInt8) (k : Nat) : (bbw l k).length = 256 := by simp [bbw]
theorem bbw_zero (l : List UInt8) : bcv l l.length = bbw l 0 := rfl
theorem bbw_set (l : List UInt8) (k : Nat) : (bbw l k).set k ((bbelow l k : Nat) : Int) = bbw l (k + 1) := by
  apply List.ext_getElem
  · rw [List.length_set, bbw_len, bbw_len]
  · intro i h1 h2
    simp only [bbw, List.getElem_set, List.getElem_map, List.getElem_range]
    by_cases e : k = i
    · subst e
      rw [if_pos rfl, if_pos (by omega)]
    · rw [if_neg e]
      by_cases h : i < k
      · rw [if_pos h, if_pos (by omega)]
      · rw [if_neg h, if_neg (by omega)]
theorem bcv_at (l : List UInt8) (k : Nat) (h : k < 256) : (ints (bcv l l.length))[k]? = some (.int .i64 ((bsame l k l.length : Nat) : Int)) := by
  rw [ints_get _ k (by rw [bcv_len]; exact h), bcv_get]
  rfl
theorem bbw_at (l : List UInt8) (k : Nat) (h : k < 256) : (ints (bbw l k))[k]? = some (.int .i64 ((bsame l k l.length : Nat) : Int)) := by
  rw [ints_get _ k (by rw [bbw_len]; exact h)]
  simp [bbw]
theorem bbelow_zero (l : List UInt8) : bbelow l 0 = 0 := by
  unfold bbelow
  rw [List.countP_eq_zero]
  intro x _
  simp
theorem bbelow_succ (l : List UInt8) (k : Nat) : bbelow l (k + 1) = bbelow l k + bsame l k l.length := by
  unfold bbelow bsame
  rw [List.take_length]
  induction l with
  | nil => rfl
  | cons a l ih =>
    rw [List.countP_cons, List.countP_cons, List.countP_cons, ih]
    simp only [decide_eq_true_iff]
    split <;> split <;> split <;> omega
theorem bbelow_le (l : List UInt8) (k : Nat) : bbelow l k ≤ l.length := List.countP_le_length
theorem bsame_le (l : List UInt8) (b k : Nat) : bsame l b k ≤ l.length := bcv_le l k b

set_option maxRecDepth 100000 in
set_option maxHeartbeats 2000000 in
theorem p_below_any (l : List UInt8) (w : World) (hs : l.length ≤ 1000000) : Calls Try.prog 26 #[.string ⟨l.toArray⟩] w fun e w' => e = .returned (.agg (ints (bbw l 256)).toArray) ∧ Below w.heap.size w w' := by
  have hz := zero_ints256.1
  rw [← bcv_zero l] at hz
  have Hset : Hid (∀ k (hk : k < l.length), ∃ (x : Nat) (b : UInt8) (c : Nat), l[k] = b ∧ b.toNat = x ∧ x < 256 ∧ c ≤ 1000000 ∧ (ints (bcv l k))[x]? = some (.int .i64 (c : Int)) ∧ (ints (bcv l k)).set x (.int .i64 ((c : Int) + 1)) = ints (bcv l (k + 1))) := Lib.hid fun k hk => by
    have hlt := l[k].toNat_lt
    have hbl : l[k].toNat < (bcv l k).length := by rw [bcv_len]; exact hlt
    refine ⟨l[k].toNat, l[k], _, rfl, rfl, hlt, Nat.le_trans (bcv_le l k l[k].toNat) hs, ?_, ?_⟩
    · rw [ints_get _ _ hbl, bcv_get]
    · rw [← bcv_set l k hk]
      simp [ints, List.map_set]
  have Hset2 : Hid (∀ k, k < 256 → ∃ (x c y : Nat), bbelow l k = x ∧ bbelow l (k + 1) = y ∧ y = x + c ∧ x ≤ 1000000 ∧ c ≤ 1000000 ∧ (ints (bcv l l.length))[k]? = some (.int .i64 (c : Int)) ∧ (ints (bbw l k))[k]? = some (.int .i64 (c : Int)) ∧ (ints (bbw l k)).set k (.int .i64 (x : Int)) = ints (bbw l (k + 1))) := Lib.hid fun k hk =>
    ⟨_, _, _, rfl, rfl, bbelow_succ l k, Nat.le_trans (bbelow_le l k) hs, Nat.le_trans (bsame_le l k _) hs, bcv_at l k hk, bbw_at l k hk, by rw [← bbw_set l k]; simp [ints, List.map_set]⟩
  have Hlen : Hid (∀ k, (ints (bcv l k)).length = 256) := Lib.hid fun k => by rw [ints_length, bcv_len]
  have Hlen2 : Hid (∀ k, (ints (bbw l k)).length = 256) := Lib.hid fun k => by rw [ints_length, bbw_len]
  have Hone : Hid ((ints (bbw l 256)).toArray.all (·.oneCell') = true) := Lib.hid (ints_one13 _)
  have Hinfo := Lib.hid zero_ints256.2
  have Hb0 := Lib.hid (bbelow_zero l)
  rw [bbw_zero l] at Hset2
  generalize hf : (fun k => ints (bcv l k)) = f at *
  have hf' : ∀ k, ints (bcv l k) = f k := fun k => by rw [← hf]
  generalize hf2 : (fun k => ints (bbw l k)) = f2 at *
  have hf2' : ∀ k, ints (bbw l k) = f2 k := fun k => by rw [← hf2]
  have HM : Hid (f l.length = f2 0) := Lib.hid (by rw [← hf2', ← bbw_zero l, ← hf'])
  simp only [hf', hf2'] at *
  clear hf' hf hf2' hf2
  generalize hZ : f 0 = Z at *
  have HZ := Lib.hid hZ
  clear hZ
  generalize hD : f2 256 = D at *
  have HD := Lib.hid hD
  clear hD
  generalize hE : f2 0 = E at *
  have HE := Lib.hid hE
  clear hE
  have hli : (l.length : Int) ≤ 1000000 := by omega
  go_enter Try.func26, Try.ntmps26
  go_wp2
  go_loopw [10] (fun i wr => ∃ k : Nat, k ≤ l.length ∧ i = .int .i64 k ∧ Hid (wr = (w.alloc (.cells Z.toArray 40)).alloc (.cells (f k).toArray 40))) (fun i _ => l.length - (intOf i).toNat)
  case atStart => exact ⟨0, by omega, rfl, Lib.hid (by rw [HZ.out])⟩
  case round =>
    obtain ⟨k, hk, rfl, Hw⟩ := hrel
    obtain rfl := Hw.out
    by_cases hlt : k < l.length
    · have hki : (0 : Int) ≤ (k : Int) ∧ (k : Int) < (l.length : Int) := by omega
      obtain ⟨x, b, c, e1, e2, hx, hc, hv, hs2⟩ := Hset.out k hlt
      have b1 : ∀ h, ((⟨l.toArray⟩ : ByteArray)[k]'h) = b := fun _ => e1
      have b2 : (b.toNat : Int) = (x : Int) := by omega
      have Hs := Lib.hid hs2
      have hci : (0 : Int) ≤ (c : Int) ∧ (c : Int) ≤ 1000000 ∧ (0 : Int) ≤ (x : Int) ∧ (x : Int) < 256 := by omega
      clear e1 e2 hs2 hlt Hw hx hc
      go_wp2
      go_roundw
      case rel => exact ⟨k + 1, by omega, iv (by omega), Lib.hid (by rw [← Hs.out])⟩
      case measure => simp only [intOf]; omega
    · obtain rfl : k = l.length := by omega
      have hl0 := Hlen2.out 0
      rw [HE.out] at hl0
      have hi : (Try.prog.info? 40).map (·.size) = some E.length := by rw [hl0]; exact Hinfo.out
      have Hhi := Lib.hid hi
      have Hl0 := Lib.hid hl0
      have hli2 : ¬ ((l.length : Nat) : Int) < (l.length : Int) := by omega
      rw [HM.out]
      clear Hw hlt hi hl0 Hset HM
      go_wp2_with (first
        | (refine wpList_load_mid rfl 40 _ rfl _ 0 rfl E _ (range_two13 _ _ _ _) Try.underlying40 rfl Hhi.out ?_))
      go_loopw [5, 22] (fun t i wr => ∃ (k x : Nat), k ≤ 256 ∧ i = .int .i64 k ∧ t = .int .i64 (x : Int) ∧ Hid (bbelow l k = x) ∧ Hid (wr = (w.alloc (.cells Z.toArray 40)).alloc (.cells (f2 k).toArray 40))) (fun _ i _ => 256 - (intOf i).toNat)
      case atStart => exact ⟨0, 0, by omega, rfl, rfl, Hb0, Lib.hid (by rw [HE.out])⟩
      case round =>
        obtain ⟨k, x, hk, rfl, rfl, Hx, Hw⟩ := hrel
        obtain rfl := Hw.out
        by_cases hlt : k < 256
        · have hki : (0 : Int) ≤ (k : Int) ∧ (k : Int) < 256 := by omega
          obtain ⟨x2, c, y, e1, e2, e3, hx, hc, hv, hv2, hs2⟩ := Hset2.out k hlt
          obtain rfl : x = x2 := by rw [← e1]; exact Hx.out.symm
          have hxi : (0 : Int) ≤ (x : Int) ∧ (x : Int) ≤ 1000000 ∧ (0 : Int) ≤ (c : Int) ∧ (c : Int) ≤ 1000000 := by omega
          have Hs := Lib.hid hs2
          have Hy : Hid (bbelow l (k + 1) = y ∧ y = x + c) := Lib.hid ⟨e2, e3⟩
          have hix := fun W => run_index_ints13 (P := Try.prog) W 40 3 256 Try.underlying40 Try.underlying3 Try.sizeOf3 E k hlt (c : Int) hv
          clear e1 e2 e3 hs2 hlt Hw hx hc Hx hk
          go_wp2
          go_roundw
          case rel => exact ⟨k + 1, y, by omega, iv (by omega), iv (by have := Hy.out.2; omega), Lib.hid Hy.out.1, Lib.hid (by rw [← Hs.out])⟩
          case measure => simp only [intOf]; omega
        · obtain rfl : k = 256 := by omega
          have h1 := Hlen2.out 256
          have hz0 := Hlen.out 0
          have ho := Hone.out
          rw [HZ.out] at hz0
          rw [HD.out] at h1 ⊢
          have hi : (Try.prog.info? 40).map (·.size) = some D.length := by rw [h1]; exact Hinfo.out
          clear Hw hlt Hhi
          have Hhi := Lib.hid hi
          have Hz0 := Lib.hid hz0
          have Hl1 := Lib.hid h1
          have Hho := Lib.hid ho
          clear hi hz0 h1 ho
          have hsz : Z.toArray.size = D.toArray.size := by simp [Hz0.out, Hl1.out]
          have Hsz := Lib.hid hsz
          have hi2 : Hid ((Try.prog.info? 40).map (·.size) = some D.toArray.size) := Lib.hid (by rw [Hhi.out]; simp)
          clear hsz
          go_wp2_with (first
            | (refine wpList_load_mid rfl 40 _ rfl _ 0 rfl D _ (range_two13 _ _ _ _) Try.underlying40 rfl Hhi.out ?_)
            | (refine wpList_store_row13 rfl 40 _ _ rfl _ _ Z.toArray D.toArray rfl rfl (heap_alloc2_old _ _ _) hi2.out Hsz.out Hho.out ?_))
          refine bodyPost_ret (v := .agg D.toArray) (results_cell_row rfl _ _ _ 40 _ _ _ rfl (setRow_heap _ _ _ _ _ _ (heap_alloc2_old _ _ _)) Try.underlying40 rfl hi2.out) rfl ⟨rfl, below_setRow (by go_grown) (Nat.le_refl _) _⟩
end Go.Proofs.Ytjdpogaaookoeaa
