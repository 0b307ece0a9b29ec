/-
  The row has each byte once; ahead of all stand those that came, the last one first; the layer's probe holds (FrontRow). No condition.
-/
import Derived.Test.YteoaaddclfognaaFrontC
import Derived.Test.YteoaaddclfognaaFrame
namespace Go.Proofs.Yteoaaddclfognaa
set_option linter.unusedSimpArgs false
set_option linter.unusedVariables false
open Go.ChangeShapes Go.WideShapes Go.ChangeAt Go.RowKit Go.Joins Go.Deep
set_option maxHeartbeats 2000000 in
/-- Beyond the sizes that the statement looks at: the probe alone. -/
theorem frontRow_far0 (l : List UInt8) (w : World) (h : 2000 < l.length) :
    Calls Try.prog 6 #[.string ⟨l.toArray⟩] w fun e w' => e = .returned (.bool true) ∧ Below w.heap.size w w' := by
  have h1 : (2000 : Int) < l.length := by omega
  go_enter Try.func6, Try.ntmps6
  go_wp2_with (go_at_call 7; refine (awake6_any _).mono ?_; rintro e w9 ⟨rfl, hb9⟩)
  go_ret
  exact ⟨rfl, hb9⟩

/-- Of the bytes, from the last one backwards. -/
theorem all_at (l : List UInt8) (p : Nat) (hp : p < l.length) :
    l.reverse.take (l.length - p) = l.reverse.take (l.length - (p + 1)) ++ [l[p]] ∧ l.reverse = l.reverse.take (l.length - (p + 1)) ++ l[p] :: l.reverse.drop (l.length - p) := by
  have := rev_at l l.length p (Nat.le_refl _) hp
  rwa [List.take_length] at this
theorem front_at (l : List UInt8) (p : Nat) (hp : p < l.length) (h : l[p] ∉ l.reverse.take (l.length - (p + 1))) :
    ∃ hk : (dd (l.reverse.take (l.length - (p + 1)))).length < (ByteArray.mk (rowS row0 l).toArray).size, ((ByteArray.mk (rowS row0 l).toArray)[(dd (l.reverse.take (l.length - (p + 1)))).length]'hk).toNat = l[p].toNat := by
  have hf := row_front l _ _ l[p] (all_at l p hp).2 h
  obtain ⟨h1, h2⟩ := List.getElem?_eq_some_iff.1 hf
  refine ⟨by rw [ByteArray.size_mk']; simpa using h1, ?_⟩
  rw [ba_get, h2]

set_option maxRecDepth 100000 in
set_option maxHeartbeats 8000000 in
theorem frontRow_near (l : List UInt8) (w : World) (h : l.length ≤ 2000) :
    Calls Try.prog 6 #[.string ⟨l.toArray⟩] w fun e w' => e = .returned (.bool true) ∧ Below w.heap.size w w' := by
  have h1 : ¬ (2000 : Int) < l.length := by omega
  have hz := zero_seen.1
  have Hrow := Lib.hid fun W => fr_row_any l (by omega) W
  have hll : (l.length : Int) ≤ 2000 := by omega
  have hRl := (row0_whole.rowS l).len
  have Hat : Hid (∀ p (hp : p < l.length), l.reverse.take (l.length - p) = l.reverse.take (l.length - (p + 1)) ++ [l[p]]) := Lib.hid fun p hp => (all_at l p hp).1
  have Hfront := Lib.hid (front_at l)
  have Hall : Hid (l.reverse.take (l.length - 0) = l.reverse) := Lib.hid (by rw [List.take_of_length_le]; rw [List.length_reverse]; omega)
  have Hle : Hid (∀ j, (dd (l.reverse.take j)).length ≤ j) := Lib.hid fun j => by
    induction j with
    | zero => simp [dd]
    | succ k ih =>
      by_cases hk : k < l.reverse.length
      · rw [take_snoc _ _ hk, dd_snoc]
        split <;> omega
      · rw [List.take_of_length_le (by omega)] at ih ⊢
        omega
  have Hdle := Lib.hid (dd_le l)
  have Hback : Hid (∀ i (hi : i < (rowS row0 l).length), (dd l.reverse).length ≤ i → (rowS row0 l)[i] ∉ l.reverse) := Lib.hid fun i hi h => row_back l i h hi
  have Hup : Hid (∀ i j (hi : i < (rowS row0 l).length) (hj : j < (rowS row0 l).length), (dd l.reverse).length < i → j + 1 = i → (rowS row0 l)[j].toNat < (rowS row0 l)[i].toNat) := Lib.hid fun i j hi hj h e => by
    have := row_up l i h hi
    have e1 : (rowS row0 l)[i - 1]'(by omega) = (rowS row0 l)[j] := by congr 1; omega
    rwa [e1] at this
  generalize rowS row0 l = R at *
  generalize l.reverse = L at *
  clear h
  go_enter Try.func6, Try.ntmps6
  go_wp2_with (go_at_call 13; refine (Hrow.out _).mono ?_; rintro e w1 ⟨rfl, hb1⟩; have Hb1 := Lib.hid hb1; clear hb1)
  go_loopw [5, 6] (fun n k wr => ∃ q : Nat, q ≤ l.length ∧ k = .int .i64 ((q : Int) - 1) ∧ n = .int .i64 ((dd (L.take (l.length - q))).length : Int) ∧ Hid (Blk wr w1.heap.size 35 (seenC (L.take (l.length - q))).toArray) ∧ Hid (Below w1.heap.size w1 wr)) (fun _ k _ => (intOf k + 1).toNat)
  case atStart => exact ⟨l.length, by omega, rfl, by rw [Nat.sub_self]; rfl, Lib.hid (by rw [Nat.sub_self]; exact Blk.new w1 _ _), Lib.hid ((Below.refl _ _).alloc (Nat.le_refl _) _)⟩
  case round =>
    obtain ⟨q, hq, rfl, rfl, HB, Hb⟩ := hrel
    cases q with
    | zero =>
      rw [Hall.out] at HB ⊢
      rw [show (((0 : Nat) : Int) - 1) = -1 from by omega]
      have hd0 : ((dd L).length : Int) ≤ 256 := by have := Hdle.out; omega
      go_wp2
      go_loopw [7] (fun i wr => ∃ k : Nat, (dd L).length ≤ k ∧ k ≤ 256 ∧ i = .int .i64 k ∧ Hid (Blk wr w1.heap.size 35 (seenC L).toArray) ∧ Hid (Below w1.heap.size w1 wr)) (fun i _ => 256 - (intOf i).toNat)
      case atStart => exact ⟨(dd L).length, Nat.le_refl _, by omega, rfl, HB.out, Hb.out⟩
      case round =>
        obtain ⟨k, hk0, hk, rfl, HB, Hb⟩ := hrel
        by_cases hlt : k < 256
        · have hkR : k < R.length := by omega
          have hks : k < (ByteArray.mk R.toArray).size := by rw [ByteArray.size_mk']; simpa using hkR
          have hki : (0 : Int) ≤ (k : Int) ∧ (k : Int) < 256 ∧ (k : Int) < R.length := by omega
          have hnot := Hback.out k hkR hk0
          have hz2 : ((ByteArray.mk R.toArray)[k]'hks).toNat = R[k].toNat := rfl
          have hz8 := u8_lt R[k]
          have hc0 := seenC_get L R[k]
          rw [decide_eq_false hnot] at hc0
          have hcell : wr.cell? ⟨w1.heap.size, R[k].toNat, none⟩ = some (.bool false) := by
            rw [HB.out.cell]
            simpa using hc0
          clear hnot hc0
          by_cases hD : (dd L).length < k
          · obtain ⟨p, hp⟩ : ∃ p, p + 1 = k := ⟨k - 1, by omega⟩
            have hpR : p < R.length := by omega
            have hkp : p < (ByteArray.mk R.toArray).size := by rw [ByteArray.size_mk']; simpa using hpR
            have hy2 : ((ByteArray.mk R.toArray)[p]'hkp).toNat = R[p].toNat := rfl
            have hlt2 := Hup.out k p hkR hpR hD hp
            have hy8 := u8_lt R[p]
            generalize R[k].toNat = z at *
            generalize R[p].toNat = y at *
            generalize (dd L).length = D at *
            have hDi : (D : Int) < (k : Int) := by omega
            have hge : ¬ (z : Int) ≤ (y : Int) := by omega
            have hsub : (k : Int) - 1 = (p : Int) := by omega
            have hw1 : IntKind.i64.wrap ((k : Int) - 1) = (p : Int) := by rw [IntKind.wrap_i64]; omega
            have hw2 : IntKind.i64.wrap (p : Int) = (p : Int) := by rw [IntKind.wrap_i64]; omega
            have hpi : (0 : Int) ≤ (p : Int) ∧ (p : Int) < R.length := by omega
            go_wp2
            go_quiet (fail)
            go_wp2
            go_roundw
            case rel => exact ⟨k + 1, by omega, by omega, iv (by omega), HB.out.drewN _, below_drewN Hb.out _⟩
            case measure => simp only [intOf]; omega
          · generalize R[k].toNat = z at *
            generalize (dd L).length = D at *
            have hDi : ¬ (D : Int) < (k : Int) := by omega
            go_wp2
            go_quiet (fail)
            go_wp2
            go_roundw
            case rel => exact ⟨k + 1, by omega, by omega, iv (by omega), HB.out.drewN _, below_drewN Hb.out _⟩
            case measure => simp only [intOf]; omega
        · obtain rfl : k = 256 := by omega
          go_wp2_with (go_at_call 7; refine (awake6_any _).mono ?_; rintro e w9 ⟨rfl, hb9⟩; have Hb9 := Lib.hid (Hb1.out.trans ((Hb.out.trans (hb9.mono Hb.out.size)).mono Hb1.out.size)); clear hb9)
          go_ret
          exact ⟨rfl, Hb9.out⟩
    | succ p =>
      rw [show (((p + 1 : Nat) : Int) - 1) = (p : Int) from by omega]
      have hp : p < l.length := by omega
      have hpi : (0 : Int) ≤ (p : Int) ∧ (p : Int) < l.length := by omega
      have hkp : p < (ByteArray.mk l.toArray).size := by rw [ByteArray.size_mk']; simpa using hp
      have h2 := Hat.out p hp
      have hle1 : (dd (L.take (l.length - (p + 1)))).length ≤ 2000 := by have := Hle.out (l.length - (p + 1)); omega
      have hfr2 := Hfront.out p hp
      have hx2 : ((ByteArray.mk l.toArray)[p]'hkp).toNat = l[p].toNat := rfl
      have hx8 := u8_lt l[p]
      have hsn := dd_snoc (L.take (l.length - (p + 1))) l[p]
      rw [← h2] at hsn
      have hcell : wr.cell? ⟨w1.heap.size, l[p].toNat, none⟩ = some (.bool (decide (l[p] ∈ L.take (l.length - (p + 1))))) := by
        rw [HB.out.cell]
        simpa using seenC_get (L.take (l.length - (p + 1))) l[p]
      have hfr := HB.out.frozen l[p].toNat
      have HBn : Hid (∀ W, Blk W w1.heap.size 35 (seenC (L.take (l.length - (p + 1)))).toArray → Blk (W.setCell ⟨w1.heap.size, l[p].toNat, none⟩ (.bool true)) w1.heap.size 35 (seenC (L.take (l.length - p))).toArray) := Lib.hid fun W hW => by
        have := hW.set_ l[p].toNat (.bool true)
        rwa [List.setIfInBounds_toArray, seenC_set, ← h2] at this
      clear h2
      by_cases hc : l[p] ∈ L.take (l.length - (p + 1))
      · rw [if_pos hc] at hsn
        have Hsn := Lib.hid hsn
        rw [decide_eq_true hc] at hcell
        clear hsn hfr2 hc
        generalize l[p].toNat = x at *
        generalize (dd (L.take (l.length - (p + 1)))).length = N at *
        go_wp2
        go_roundw
        case rel => exact ⟨p, by omega, iv (by omega), iv (by rw [Hsn.out]; omega), HBn.out _ HB.out, Hb.out.setCell (Nat.le_refl _) _⟩
        case measure => simp only [intOf]; omega
      · rw [if_neg hc] at hsn
        have Hsn := Lib.hid hsn
        rw [decide_eq_false hc] at hcell
        obtain ⟨hNs, hN2⟩ := hfr2 hc
        clear hsn hc
        generalize l[p].toNat = x at *
        generalize (dd (L.take (l.length - (p + 1)))).length = N at *
        have hNR : (0 : Int) ≤ (N : Int) ∧ (N : Int) < R.length := by
          have : N < R.length := by rw [ByteArray.size_mk'] at hNs; simpa using hNs
          omega
        go_wp2
        go_quiet (fail)
        go_wp2
        go_roundw
        case rel => exact ⟨p, by omega, iv (by omega), iv (by rw [Hsn.out]; omega), HBn.out _ (HB.out.drewN _), (below_drewN Hb.out _).setCell (Nat.le_refl _) _⟩
        case measure => simp only [intOf]; omega
theorem frontRow_walk (l : List UInt8) (w : World) :
    Calls Try.prog 6 #[.string ⟨l.toArray⟩] w fun e w' => e = .returned (.bool true) ∧ Below w.heap.size w w' := by
  by_cases h : l.length ≤ 2000
  · exact frontRow_near l w h
  · exact frontRow_far0 l w (by omega)

namespace FrontRow
set_option maxRecDepth 100000 in
theorem lifted (os : Os) (started : os.Started) (H : Type) (enc : TypeId × Value → H) :
    ReturnsInHanded {} Try.checked os 6 .any (Rows.frontRowSpec.pre6 enc Try.prog Try.f6 Rows.frontRowRow.domain false) (Rows.frontRowSpec.post enc Try.prog Try.f6 false true false false) := by
  refine law_sized (C := Try.checked) (tb := 4) ownP started (by kernel_rfl) Try.func6
    (ChangeSpec.witness6 (enc := enc) (C := Try.checked) false ⟨#[], #[.string ⟨#[]⟩], []⟩ 8 (by kernel_rfl) (by kernel_rfl) (by kernel_rfl) (by kernel_rfl))
    laidP (by kernel_rfl) rfl (by kernel_rfl) Try.underlying4 (by intro ds h; match ds, h with | [_], _ => rfl) ?_
  intro W base args ds p hval0 hA0 hlt _
  have hval : ∀ (j : Nat) t v, Try.f6.params[j]? = some t → args[j]? = some v → Value.okWide Try.prog W .any base t v := hval0
  have hA : DataW.TrodAll enc Try.prog W 0 (fun _ => true) true Try.f6.params.toList args.toList ds p := hA0
  rw [Try.params6] at hA hval
  obtain ⟨v0, d0, rfl, rfl, h0⟩ := trodAll_one hA
  obtain ⟨l, rfl, rfl⟩ := open_bytes Try.underlying9 (hval 0 9 v0 rfl rfl) h0
  exact frontRow_walk l W

theorem holds : Rows.FrontRowSaid :=
  OpenClaim.holds_of_wide 6 Try.f6 rfl rfl rfl rfl rfl rfl rfl ⟨rfl, rfl, rfl, rfl, rfl⟩ rfl rfl rfl rfl rfl (by kernel_rfl) Try.func6 (by kernel_rfl)
    (of_decide_eq_true (by kernel_rfl)) (by unfold Func.isWrapper; first | (rw [if_pos (by decide +kernel)]; kernel_rfl) | (rw [if_neg (by decide +kernel)]; exact ⟨rfl, rfl⟩))
    (fun os started H enc _ => lifted os started H enc)
end FrontRow
end Go.Proofs.Yteoaaddclfognaa
