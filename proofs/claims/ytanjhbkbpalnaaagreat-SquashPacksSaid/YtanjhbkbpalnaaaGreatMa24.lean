/-
 What the law of the last of these texts stands on, part 24.
-/
import Derived.Test.YtanjhbkbpalnaaaGreatMa16
import Derived.Test.YtanjhbkbpalnaaaGreatMa18
set_option maxRecDepth 100000
set_option maxHeartbeats 8000000
open Go.Proofs.Tryz
namespace Go.Proofs.YtanjhbkbpalnaaaGreat
set_option linter.unusedSimpArgs false
set_option linter.unusedVariables false
open Go.ChangeShapes Go.WideShapes Go.ChangeAt Go.RowKit Go.Joins Go.Deep
def bbw (l : List UInt8) (k : Nat) : List Int := (List.range 256).map fun b => if b < k then ((yaS l b : Nat) : Int) else ((ycb l b l.length : Nat) : Int)
theorem bbw_len (l : List UInt8) (k : Nat) : (bbw l k).length = 256 := by simp [bbw]
theorem bbw_zero (l : List UInt8) : bcv l l.length = bbw l 0 := rfl
theorem bbw_set (l : List UInt8) (k : Nat) : (bbw l k).set k ((yaS l k : Nat) : Int) = bbw l (k + 1) := by
 apply qaY
 ·rw [qbJ, bbw_len, bbw_len]
 ·intro i h1 h2
  simp only [bbw, qcx, qaQ, qbd]
  by_cases e : k = i
  ·subst e
   rw [qag rfl, qag (by omega)]
  ·rw [qae e]
   by_cases h : i < k
   ·rw [qag h, qag (by omega)]
   ·rw [qae h, qae (by omega)]
theorem bcv_at (l : List UInt8) (k : Nat) (h : k < 256) : (ints (bcv l l.length))[k]? = some (.int .i64 ((ycb l k l.length : Nat) : Int)) := by
 rw [yai _ k (by rw [yhf]; exact h), bcv_get]
 rfl
theorem bbw_at (l : List UInt8) (k : Nat) (h : k < 256) : (ints (bbw l k))[k]? = some (.int .i64 ((ycb l k l.length : Nat) : Int)) := by
 rw [yai _ k (by rw [bbw_len]; exact h)]
 simp [bbw]
theorem bbelow_zero (l : List UInt8) : yaS l 0 = 0 := by
 unfold yaS
 rw [qcF]
 intro x _
 simp
theorem bbelow_succ (l : List UInt8) (k : Nat) : yaS l (k + 1) = yaS l k + ycb l k l.length := by
 unfold yaS ycb
 rw [qbT]
 induction l with
 | nil => rfl
 | cons a l ih =>
  rw [qbI, qbI, qbI, ih]
  simp only [qba]
  split <;> split <;> split <;> omega
theorem ygt (l : List UInt8) (k : Nat) : yaS l k ≤ l.length := List.countP_le_length
theorem bsame_le (l : List UInt8) (b k : Nat) : ycb l b k ≤ l.length := bcv_le l k b
theorem p_below_any (l : List UInt8) (w : World) (hs : l.length ≤ 1000000) : Calls prog 197 #[.string ⟨l.toArray⟩] w fun e w' => e = .returned (.agg (ints (bbw l 256)).toArray) ∧ Below w.heap.size w w' := by
 have hz := zero_ints256.1
 rw [← bcv_zero l] at hz
 have Hset : Hid (∀ k (hk : k < l.length), ∃ (x : Nat) (b : UInt8) (c : Nat), l[k] = b ∧ b.toNat = x ∧ x < 256 ∧ c ≤ 1000000 ∧ (ints (bcv l k))[x]? = some (.int .i64 (c : Int)) ∧ (ints (bcv l k)).set x (.int .i64 ((c : Int) + 1)) = ints (bcv l (k + 1))) := qaa fun k hk => by
  have hlt := l[k].toNat_lt
  have hbl : l[k].toNat < (bcv l k).length := by rw [yhf]; exact hlt
  refine ⟨l[k].toNat, l[k], _, rfl, rfl, hlt, qaA (bcv_le l k l[k].toNat) hs, ?_, ?_⟩
  ·rw [yai _ _ hbl, bcv_get]
  ·rw [← bcv_set l k hk]
   simp [ints, qcu]
 have Hset2 : Hid (∀ k, k < 256 → ∃ (x c y : Nat), yaS l k = x ∧ yaS l (k + 1) = y ∧ y = x + c ∧ x ≤ 1000000 ∧ c ≤ 1000000 ∧ (ints (bcv l l.length))[k]? = some (.int .i64 (c : Int)) ∧ (ints (bbw l k))[k]? = some (.int .i64 (c : Int)) ∧ (ints (bbw l k)).set k (.int .i64 (x : Int)) = ints (bbw l (k + 1))) := qaa fun k hk =>
  ⟨_, _, _, rfl, rfl, bbelow_succ l k, qaA (ygt l k) hs, qaA (bsame_le l k _) hs, bcv_at l k hk, bbw_at l k hk, by rw [← bbw_set l k]; simp [ints, qcu]⟩
 have Hlen : Hid (∀ k, (ints (bcv l k)).length = 256) := qaa fun k => by rw [yab, yhf]
 have Hlen2 : Hid (∀ k, (ints (bbw l k)).length = 256) := qaa fun k => by rw [yab, bbw_len]
 have Hone : Hid ((ints (bbw l 256)).toArray.all (·.oneCell') = true) := qaa (ints_one13 _)
 have Hinfo := qaa zero_ints256.2
 have Hb0 := qaa (bbelow_zero l)
 rw [bbw_zero l] at Hset2
 generalize hf : (fun k => ints (bcv l k)) = f at *
 have hf' : ∀ k, ints (bcv l k) = f k := fun k => by rw [← hf]
 generalize hf2 : (fun k => ints (bbw l k)) = f2 at *
 have hf2' : ∀ k, ints (bbw l k) = f2 k := fun k => by rw [← hf2]
 have HM : Hid (f l.length = f2 0) := qaa (by rw [← hf2', ← bbw_zero l, ← hf'])
 simp only [hf', hf2'] at *
 clear hf' hf hf2' hf2
 generalize hZ : f 0 = Z at *
 have HZ := qaa hZ
 clear hZ
 generalize hD : f2 256 = D at *
 have HD := qaa hD
 clear hD
 generalize hE : f2 0 = E at *
 have HE := qaa hE
 clear hE
 have hli : (l.length : Int) ≤ 1000000 := by omega
 go_enter func197, ntmps197
 go_wp2
 go_loopw [10] (fun i wr => ∃ k : Nat, k ≤ l.length ∧ i = .int .i64 k ∧ Hid (wr = (w.alloc (.cells Z.toArray 235)).alloc (.cells (f k).toArray 235))) (fun i _ => l.length - (intOf i).toNat)
 case atStart => exact ⟨0, by omega, rfl, qaa (by rw [HZ.out])⟩
 case round =>
  obtain ⟨k, hk, rfl, Hw⟩ := hrel
  obtain rfl := Hw.out
  by_cases hlt : k < l.length
  ·have hki : (0 : Int) ≤ (k : Int) ∧ (k : Int) < (l.length : Int) := by omega
   obtain ⟨x, b, c, e1, e2, hx, hc, hv, hs2⟩ := Hset.out k hlt
   have b1 : ∀ h, ((⟨l.toArray⟩ : ByteArray)[k]'h) = b := fun _ => e1
   have b2 : (b.toNat : Int) = (x : Int) := by omega
   have Hs := qaa hs2
   have hci : (0 : Int) ≤ (c : Int) ∧ (c : Int) ≤ 1000000 ∧ (0 : Int) ≤ (x : Int) ∧ (x : Int) < 256 := by omega
   clear e1 e2 hs2 hlt Hw hx hc
   go_wp2
   go_roundw
   case rel => exact ⟨k + 1, by omega, iv (by omega), qaa (by rw [← Hs.out])⟩
   case measure => simp only [intOf]; omega
  ·obtain rfl : k = l.length := by omega
   have hl0 := Hlen2.out 0
   rw [HE.out] at hl0
   have hi : (prog.info? 235).map (·.size) = some E.length := by rw [hl0]; exact Hinfo.out
   have Hhi := qaa hi
   have Hl0 := qaa hl0
   have hli2 : ¬ ((l.length : Nat) : Int) < (l.length : Int) := by omega
   rw [HM.out]
   clear Hw hlt hi hl0 Hset HM
   go_wp2_with (first
    | (refine wpList_load_mid rfl 235 _ rfl _ 0 rfl E _ (ygr _ _ _ _) underlying235 rfl Hhi.out ?_))
   go_loopw [5, 22] (fun t i wr => ∃ (k x : Nat), k ≤ 256 ∧ i = .int .i64 k ∧ t = .int .i64 (x : Int) ∧ Hid (yaS l k = x) ∧ Hid (wr = (w.alloc (.cells Z.toArray 235)).alloc (.cells (f2 k).toArray 235))) (fun _ i _ => 256 - (intOf i).toNat)
   case atStart => exact ⟨0, 0, by omega, rfl, rfl, Hb0, qaa (by rw [HE.out])⟩
   case round =>
    obtain ⟨k, x, hk, rfl, rfl, Hx, Hw⟩ := hrel
    obtain rfl := Hw.out
    by_cases hlt : k < 256
    ·have hki : (0 : Int) ≤ (k : Int) ∧ (k : Int) < 256 := by omega
     obtain ⟨x2, c, y, e1, e2, e3, hx, hc, hv, hv2, hs2⟩ := Hset2.out k hlt
     obtain rfl : x = x2 := by rw [← e1]; exact Hx.out.symm
     have hxi : (0 : Int) ≤ (x : Int) ∧ (x : Int) ≤ 1000000 ∧ (0 : Int) ≤ (c : Int) ∧ (c : Int) ≤ 1000000 := by omega
     have Hs := qaa hs2
     have Hy : Hid (yaS l (k + 1) = y ∧ y = x + c) := qaa ⟨e2, e3⟩
     have hix := fun W => yfO (P := prog) W 235 3 256 underlying235 underlying3 sizeOf3 E k hlt (c : Int) hv
     clear e1 e2 e3 hs2 hlt Hw hx hc Hx hk
     go_wp2
     go_roundw
     case rel => exact ⟨k + 1, y, by omega, iv (by omega), iv (by have := Hy.out.2; omega), qaa Hy.out.1, qaa (by rw [← Hs.out])⟩
     case measure => simp only [intOf]; omega
    ·obtain rfl : k = 256 := by omega
     have h1 := Hlen2.out 256
     have hz0 := Hlen.out 0
     have ho := Hone.out
     rw [HZ.out] at hz0
     rw [HD.out] at h1 ⊢
     have hi : (prog.info? 235).map (·.size) = some D.length := by rw [h1]; exact Hinfo.out
     clear Hw hlt Hhi
     have Hhi := qaa hi
     have Hz0 := qaa hz0
     have Hl1 := qaa h1
     have Hho := qaa ho
     clear hi hz0 h1 ho
     have hsz : Z.toArray.size = D.toArray.size := by simp [Hz0.out, Hl1.out]
     have Hsz := qaa hsz
     have hi2 : Hid ((prog.info? 235).map (·.size) = some D.toArray.size) := qaa (by rw [Hhi.out]; simp)
     clear hsz
     go_wp2_with (first
      | (refine wpList_load_mid rfl 235 _ rfl _ 0 rfl D _ (ygr _ _ _ _) underlying235 rfl Hhi.out ?_)
      | (refine ycf rfl 235 _ _ rfl _ _ Z.toArray D.toArray rfl rfl (heap_alloc2_old _ _ _) hi2.out Hsz.out Hho.out ?_))
     refine qbw (v := .agg D.toArray) (results_cell_row rfl _ _ _ 235 _ _ _ rfl (setRow_heap _ _ _ _ _ _ (heap_alloc2_old _ _ _)) underlying235 rfl hi2.out) rfl ⟨rfl, below_setRow (by go_grown) (qad _) _⟩
end Go.Proofs.YtanjhbkbpalnaaaGreat
