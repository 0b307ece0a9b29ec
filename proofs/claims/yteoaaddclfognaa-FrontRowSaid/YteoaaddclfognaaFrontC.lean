/-
  Layer 6: what the law's own 'between' returns.
-/
import Derived.Test.YteoaaddclfognaaFrontN
import Derived.Test.YteoaaddclfognaaFrontAw
namespace Go.Proofs.Yteoaaddclfognaa
set_option linter.unusedSimpArgs false
set_option linter.unusedVariables false
open Go.ChangeShapes Go.WideShapes Go.ChangeAt Go.RowKit Go.Joins Go.Deep

theorem zero_seen : (∀ w, (zeroValue 35).run Try.prog w = .ok (.agg (seenC []).toArray) w) ∧ (Try.prog.info? 35).map (·.size) = some 256 := zero_of_info (by kernel_rfl)

/-- Of a place p ahead of i: what stands there, and how the bytes from i backwards go on. -/
theorem rev_at (s : List UInt8) (i p : Nat) (hi : i ≤ s.length) (hp : p < i) :
    (s.take i).reverse.take (i - p) = (s.take i).reverse.take (i - (p + 1)) ++ [s[p]'(by omega)] ∧ (s.take i).reverse = (s.take i).reverse.take (i - (p + 1)) ++ (s[p]'(by omega)) :: (s.take i).reverse.drop (i - p) := by
  have h1 := rev_snoc s i (i - (p + 1)) hi (by omega)
  have h2 := rev_split s i (i - (p + 1)) hi (by omega)
  have e1 : i - 1 - (i - (p + 1)) = p := by omega
  have e2 : i - (p + 1) + 1 = i - p := by omega
  simp only [e1, e2] at h1 h2
  exact ⟨h1, h2⟩

set_option maxRecDepth 100000 in
set_option maxHeartbeats 2000000 in
theorem fr_between_any (s : List UInt8) (i : Nat) (hi : i < s.length) (hl : s.length ≤ 1000000) (w : World) :
    Calls Try.prog 15 #[.string ⟨s.toArray⟩, .int .i64 (i : Int)] w fun e w' => e = .returned (.int .i64 (btw (s.take i).reverse s[i])) ∧ Below w.heap.size w w' := by
  have hz := zero_seen.1
  have hii : (0 : Int) ≤ (i : Int) ∧ (i : Int) < s.length ∧ (s.length : Int) ≤ 1000000 := by omega
  have hks : i < (ByteArray.mk s.toArray).size := by rw [ByteArray.size_mk']; simpa using hi
  have Hat : Hid (∀ p (hp : p < i), (s.take i).reverse.take (i - p) = (s.take i).reverse.take (i - (p + 1)) ++ [s[p]'(by omega)] ∧ (s.take i).reverse = (s.take i).reverse.take (i - (p + 1)) ++ (s[p]'(by omega)) :: (s.take i).reverse.drop (i - p)) := Lib.hid fun p hp => rev_at s i p (by omega) hp
  have Hall : Hid ((s.take i).reverse.take i = (s.take i).reverse) := Lib.hid (by rw [List.take_of_length_le]; rw [List.length_reverse, List.length_take]; omega)
  have Hy : Hid (((ByteArray.mk s.toArray)[i]'hks).toNat = s[i].toNat) := Lib.hid rfl
  obtain ⟨b, hb⟩ : ∃ b, s[i] = b := ⟨_, rfl⟩
  rw [hb] at Hy ⊢
  obtain ⟨y, hy⟩ : ∃ y : Nat, b.toNat = y := ⟨_, rfl⟩
  have hy8 : (y : Int) < 256 := by have := u8_lt b; omega
  have hy2 := Hy.out
  rw [hy] at hy2
  generalize (s.take i).reverse = L at *
  generalize hres : btw L b = res
  have Hres := Lib.hid hres
  have HY := Lib.hid hy
  have Hl := Lib.hid hl
  clear hres Hy hb hy hl
  go_enter Try.func15, Try.ntmps15
  go_wp2
  go_loopw [6, 7] (fun n k wr => ∃ q : Nat, q ≤ i ∧ k = .int .i64 ((q : Int) - 1) ∧ n = .int .i64 ((dd (L.take (i - q))).length : Int) ∧ Hid (b ∉ L.take (i - q)) ∧ Hid ((dd (L.take (i - q))).length ≤ i - q) ∧ Hid (Blk wr w.heap.size 35 (seenC (L.take (i - q))).toArray) ∧ Hid (Below w.heap.size w wr)) (fun _ k _ => (intOf k + 1).toNat)
  case atStart => exact ⟨i, by omega, rfl, by rw [Nat.sub_self]; rfl, Lib.hid (by rw [Nat.sub_self]; simp), Lib.hid (by rw [Nat.sub_self]; simp [dd]), Lib.hid (by rw [Nat.sub_self]; exact Blk.new w _ _), Lib.hid ((Below.refl _ _).alloc (Nat.le_refl _) _)⟩
  case round =>
    obtain ⟨q, hq, rfl, rfl, Hn, Hle, HB, Hb⟩ := hrel
    cases q with
    | zero =>
      have hfin : res = -1 := by
        have h := Hn.out
        rw [Nat.sub_zero, Hall.out] at h
        rw [← Hres.out, btw_none _ _ h]
      have Hfin := Lib.hid hfin
      clear hfin
      go_wp2
      go_ret
      rw [Hfin.out]
      exact ⟨rfl, Hb.out⟩
    | succ p =>
      rw [show (((p + 1 : Nat) : Int) - 1) = (p : Int) from by omega]
      have hp : p < i := by omega
      have hpi : (0 : Int) ≤ (p : Int) ∧ (p : Int) < s.length := by omega
      have hkp : p < (ByteArray.mk s.toArray).size := Nat.lt_trans hp hks
      obtain ⟨h1, h2⟩ := Hat.out p hp
      have hle1 : (dd (L.take (i - (p + 1)))).length ≤ 1000000 := by have := Hle.out; have := Hl.out; omega
      have Hx : Hid (((ByteArray.mk s.toArray)[p]'hkp).toNat = (s[p]'(by omega)).toNat) := Lib.hid rfl
      generalize (s[p]'(by omega)) = c at *
      obtain ⟨x, hx⟩ : ∃ x : Nat, c.toNat = x := ⟨_, rfl⟩
      have hx8 : (x : Int) < 256 := by have := u8_lt c; omega
      have hx2 := Hx.out
      rw [hx] at hx2
      have hsn := dd_snoc (L.take (i - (p + 1))) c
      rw [← h1] at hsn
      have hcell : wr.cell? ⟨w.heap.size, x, none⟩ = some (.bool (decide (c ∈ L.take (i - (p + 1))))) := by
        rw [HB.out.cell, ← hx]
        simpa using seenC_get (L.take (i - (p + 1))) c
      have hfr := HB.out.frozen x
      have HBn : Hid (∀ n, Blk ((wr.drewN n).setCell ⟨w.heap.size, x, none⟩ (.bool true)) w.heap.size 35 (seenC (L.take (i - p))).toArray) := Lib.hid fun n => by
        have := (HB.out.drewN n).set_ x (.bool true)
        rw [List.setIfInBounds_toArray, ← hx, seenC_set, ← h1] at this
        rwa [hx] at this
      have hnx : b ∉ L.take (i - (p + 1)) → ¬ x = y → b ∉ L.take (i - p) := fun h3 h4 h5 => by
        rw [h1, List.mem_append, List.mem_singleton] at h5
        rcases h5 with h5 | h5
        · exact h3 h5
        · exact h4 (by rw [← hx, ← HY.out, h5])
      have hle2 : (dd (L.take (i - p))).length ≤ i - p := by
        rw [hsn]
        have := Hle.out
        split <;> omega
      have Hnx := Lib.hid hnx
      have Hle2 := Lib.hid hle2
      have Hb2 : Hid (∀ n, Below w.heap.size w ((wr.drewN n).setCell ⟨w.heap.size, x, none⟩ (.bool true))) := Lib.hid fun n => (below_drewN Hb.out n).setCell (Nat.le_refl _) _
      by_cases hxy : x = y
      · have hfin : res = ((dd (L.take (i - (p + 1)))).length : Int) := by
          rw [← Hres.out]
          have e : c = b := u8_eq (by rw [hx, HY.out, hxy])
          rw [e] at h2
          conv => lhs; rw [h2]
          exact btw_found _ _ b Hn.out
        have Hfin := Lib.hid hfin
        subst hxy
        clear hfin hsn h1 h2 Hat hle2 hnx hcell hfr
        generalize (dd (L.take (i - (p + 1)))).length = N at *
        go_wp2
        go_quiet (fail)
        go_wp2
        go_ret
        rw [Hfin.out]
        exact ⟨rfl, below_drewN Hb.out _⟩
      · have Hn2 := Lib.hid (Hnx.out Hn.out hxy)
        by_cases hc : c ∈ L.take (i - (p + 1))
        · rw [if_pos hc] at hsn
          have Hsn := Lib.hid hsn
          rw [decide_eq_true hc] at hcell
          clear hsn h1 h2 Hat hle2 hnx hc Hnx
          generalize (dd (L.take (i - (p + 1)))).length = N at *
          go_wp2
          go_quiet (fail)
          go_wp2
          go_roundw
          case rel => exact ⟨p, by omega, iv (by omega), iv (by rw [Hsn.out]; omega), Hn2.out, Hle2.out, HBn.out _, Hb2.out _⟩
          case measure => simp only [intOf]; omega
        · rw [if_neg hc] at hsn
          have Hsn := Lib.hid hsn
          rw [decide_eq_false hc] at hcell
          clear hsn h1 h2 Hat hle2 hnx hc Hnx
          generalize (dd (L.take (i - (p + 1)))).length = N at *
          go_wp2
          go_quiet (fail)
          go_wp2
          go_roundw
          case rel => exact ⟨p, by omega, iv (by omega), iv (by rw [Hsn.out]; omega), Hn2.out, Hle2.out, HBn.out _, Hb2.out _⟩
          case measure => simp only [intOf]; omega
end Go.Proofs.Yteoaaddclfognaa
