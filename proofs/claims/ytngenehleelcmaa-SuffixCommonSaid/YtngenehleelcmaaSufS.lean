/-
  Layer 12: the document's own Ranks, for every row (ahead of the code's landing).
-/
import Derived.Test.YtngenehleelcmaaSufN
import Derived.Test.YtngenehleelcmaaInts
namespace Go.Proofs.Ytngenehleelcmaa
set_option linter.unusedSimpArgs false
set_option linter.unusedVariables false
open Go.ChangeShapes Go.WideShapes Go.ChangeAt Go.RowKit Go.Joins Go.Deep

def sneg (n k : Nat) : List Int := List.replicate k (-1) ++ List.replicate (n - k) 0
theorem sneg_zero (n : Nat) : sneg n 0 = List.replicate n 0 := by simp [sneg]
theorem sneg_all (n : Nat) : sneg n n = List.replicate n (-1) := by simp [sneg]
theorem sneg_len (n k : Nat) (h : k ≤ n) : (sneg n k).length = n := by simp [sneg]; omega
theorem sneg_set (n k : Nat) (h : k < n) : (sneg n k).set k (-1) = sneg n (k + 1) := by
  unfold sneg
  rw [List.set_append_right _ _ (by simp), List.length_replicate, Nat.sub_self, show n - k = n - (k + 1) + 1 from by omega, List.replicate_succ, List.set_cons_zero, List.replicate_succ', List.append_assoc]
  rfl
theorem sk_no {a : List Int} (k : Nat) (hk : k < a.length) (h : ¬ sok a k) : skF a = ([], 2) := if_neg (sord_no k hk h)
theorem sgetD {a : List Int} (k : Nat) (hk : k < a.length) : a.getD k 0 = a[k] := by rw [List.getD_eq_getElem?_getD, List.getElem?_eq_getElem hk]; rfl

set_option maxRecDepth 100000 in
set_option maxHeartbeats 4000000 in
theorem sref_ranks_any (a : List Int) (A : Option Addr) (n c : Nat) (w : World) (hm : n ≤ 1000000) (hr : Reads w w.heap.size 1 A n (ints a)) :
    Calls Try.prog 15 #[.slice A n c] w fun e w' => LPost w w' e (skF a) := by
  have en : a.length = n := by have := hr.1; rw [ints_length] at this; omega
  have hni : (n : Int) ≤ 1000000 := by omega
  have hmk := fun w => gmk_ints (n : Int) n rfl (by omega) w
  rw [← sneg_zero] at hmk
  have Hcell := Lib.hid (gcells hr)
  have En := Lib.hid en
  have HB0 := Lib.hid (Blk.new w 3 (ints (sneg n 0)).toArray)
  have HO0 := Lib.hid ((Below.refl w.heap.size w).alloc (Nat.le_refl _) (.cells (ints (sneg n 0)).toArray 3))
  have Hset : Hid (∀ k, k < n → (ints (sneg n k)).toArray.setIfInBounds k (.int .i64 (-1)) = (ints (sneg n (k + 1))).toArray) := Lib.hid fun k hk => by rw [gints_set, sneg_set n k hk]
  have Hslen : Hid (∀ k, k ≤ n → (sneg n k).length = n) := Lib.hid (sneg_len n)
  have Hmid : Hid (sneg n n = srk a 0) := Lib.hid (by rw [sneg_all, srk_zero, en])
  clear hr en
  generalize hg : w.heap.size = g at *
  go_enter Try.func15, Try.ntmps15
  go_wp2
  go_loopw [5] (fun i wr => ∃ k : Nat, k ≤ n ∧ i = .int .i64 k ∧ Hid (Blk wr g 3 (ints (sneg n k)).toArray) ∧ Hid (Below g w wr)) (fun i _ => n - (intOf i).toNat)
  case atStart => exact ⟨0, by omega, rfl, HB0, HO0⟩
  case round =>
    obtain ⟨k, hk, rfl, HB, HO⟩ := hrel
    clear HB0 HO0 hmk
    by_cases hlt : k < n
    · have hki : (k : Int) < (n : Int) := by omega
      have x1 := gblk_cell HB.out k (by rw [Hslen.out k hk]; exact hlt)
      have x2 := HB.out.frozen k
      have hgl := HB.out.lt
      have Hs := Lib.hid (Hset.out k hlt)
      go_wp2
      go_roundw
      case rel => exact ⟨k + 1, by omega, iv (by omega), Lib.hid (by rw [← Hs.out]; exact HB.out.set_ k _), Lib.hid (HO.out.setCell (p := ⟨g, k, none⟩) (Nat.le_refl _) _)⟩
      case measure => simp only [intOf]; omega
    · obtain rfl : k = n := by omega
      have hii : ¬ (k : Int) < (k : Int) := by omega
      have HB1 : Hid (Blk wr g 3 (ints (srk a 0)).toArray) := Lib.hid (by rw [← Hmid.out]; exact HB.out)
      have HO1 := Lib.hid HO.out
      clear HB HO Hset Hslen Hmid
      go_wp2
      go_loopw [6, 7] (fun i pv W => ∃ k2 : Nat, k2 ≤ k ∧ i = .int .i64 k2 ∧ Hid (∀ j, j < k2 → sok a j) ∧ Hid (Blk W g 3 (ints (srk a k2)).toArray) ∧ Hid (Below g w W)) (fun i _ _ => k - (intOf i).toNat)
      case atStart => exact ⟨0, by omega, rfl, Lib.hid fun j hj => by omega, HB1, HO1⟩
      case round =>
        obtain ⟨q, hq, rfl, HK, HB, HO⟩ := hrel
        clear HB1 HO1
        by_cases hlt : q < k
        · have hqi : (q : Int) < (k : Int) := by omega
          have hql : q < a.length := by rw [En.out]; exact hlt
          obtain ⟨b, off, rfl, hbl, x1⟩ := Hcell.out _ HO.out q hql
          have hgd := sgetD q hql
          have hgl := HB.out.lt
          obtain ⟨x, hx⟩ : ∃ x, a[q] = x := ⟨_, rfl⟩
          rw [hx] at x1 hgd
          by_cases h0 : 0 ≤ x
          · obtain ⟨p, rfl⟩ := Int.eq_ofNat_of_zero_le h0
            by_cases h1 : p < k
            · have hpi : (0 : Int) ≤ (p : Int) ∧ (p : Int) < (k : Int) := by omega
              have hpl : p < (srk a q).length := by rw [srk_len, En.out]; exact h1
              have x2 := gblk_cell HB.out p hpl
              have x3 := HB.out.frozen p
              rw [srk_get] at x2
              by_cases h2 : (p : Int) ∈ a.take q
              · rw [if_pos h2] at x2
                have Hf := Lib.hid (sk_no q hql fun h => by
                  obtain ⟨_, _, h3⟩ := h
                  rw [hgd] at h3
                  exact h3 h2)
                generalize (a.take q).idxOf (p : Int) = z at *
                have hz : (0 : Int) ≤ (z : Int) := by omega
                clear hgd hx h2 hql hpl
                go_wp2
                go_ret2
                rw [Hf.out]
                subst hg
                exact lpost_none HO.out
              · rw [if_neg h2] at x2
                have Hst := Lib.hid (srk_step a q p hql hx h2)
                have HK2 : Hid (∀ j, j < q + 1 → sok a j) := Lib.hid fun j hj => by
                  by_cases e : j = q
                  · subst e
                    refine ⟨by omega, by rw [En.out]; omega, ?_⟩
                    rw [hgd]
                    exact h2
                  · exact HK.out j (by omega)
                clear hgd hx h2 hql hpl
                go_wp2
                go_roundw
                case rel => exact ⟨q + 1, by omega, iv (by omega), HK2, Lib.hid (by rw [← Hst.out, ← gints_set]; exact HB.out.set_ p _), Lib.hid (HO.out.setCell (p := ⟨g, p, none⟩) (Nat.le_refl _) _)⟩
                case measure => simp only [intOf]; omega
            · have h1i : ¬ (p : Int) < (k : Int) := by omega
              have h1j : (k : Int) ≤ (p : Int) := by omega
              have Hf := Lib.hid (sk_no q hql fun h => by
                obtain ⟨_, h3, _⟩ := h
                rw [hgd, En.out] at h3
                omega)
              clear hgd hx hql
              go_wp2
              go_ret2
              rw [Hf.out]
              subst hg
              exact lpost_none HO.out
          · have Hf := Lib.hid (sk_no q hql fun h => by
              obtain ⟨h3, _⟩ := h
              rw [hgd] at h3
              omega)
            clear hgd hx hql
            go_wp2
            go_ret2
            rw [Hf.out]
            subst hg
            exact lpost_none HO.out
        · obtain rfl : q = k := by omega
          have hii2 : ¬ (q : Int) < (q : Int) := by omega
          have Hf : Hid (skF a = (srk a q, 0)) := Lib.hid (by
            unfold skF
            rw [if_pos (sord_of fun i hi => HK.out i (by rw [← En.out]; exact hi)), En.out])
          go_wp2
          go_ret2
          rw [Hf.out]
          subst hg
          exact lpost_blk (by rw [srk_len, En.out]) HB.out HO.out
end Go.Proofs.Ytngenehleelcmaa
