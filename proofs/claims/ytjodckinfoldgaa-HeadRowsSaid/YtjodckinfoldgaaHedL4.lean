/-
  A beginning of a row, and an end of one, is one; its blocks' numbers and bytes follow one another without gaps; the layer's probe holds (HeadRows). No condition.
-/
import Derived.Test.YtjodckinfoldgaaHedAw
import Derived.Test.YtjodckinfoldgaaHedO
import Derived.Test.YtjodckinfoldgaaFrame
namespace Go.Proofs.Ytjodckinfoldgaa
set_option linter.unusedSimpArgs false
set_option linter.unusedVariables false
open Go.ChangeShapes Go.WideShapes Go.ChangeAt Go.RowKit Go.Joins Go.Deep
set_option maxRecDepth 100000 in
set_option maxHeartbeats 4000000 in
theorem headRows_a (l : List Mt) (A : Option Addr) (c : Nat) (ct : Int) (h : Hd) (w : World) (hl : l.length ≤ maxLen) (hlc : l.length ≤ c) (hr : Reads w w.heap.size 7 A l.length (dcs mtc l)) (h1 : 1000 < l.length) : Calls Try.prog 6 #[.slice A l.length c, .int .i64 ct, .agg (hdc h)] w fun e w' => e = .returned (.bool true) ∧ Below w.heap.size w w' := by
  obtain ⟨a, b, d⟩ := h
  have HB := Lib.hid ((Below.refl w.heap.size w).alloc (Nat.le_refl _) (.cells #[.int .i64 a, .int .i64 b, .int .i64 d] 23))
  have HLr := Lib.hid (dReads_on hr HB.out)
  have hi : (1000 : Int) < (l.length : Int) := by omega
  unfold hdc
  dsimp only
  clear hr hl hlc h1
  go_enter Try.func6, Try.ntmps6
  go_wp2_with (first | (go_at_call 7; refine (awake21_any _).mono ?_; rintro e w9 ⟨rfl, hb⟩; replace HB := Lib.hid (HB.out.trans (hb.mono HB.out.size)); clear hb) | fail)
  go_ret
  exact ⟨rfl, HB.out⟩
set_option maxRecDepth 100000 in
set_option maxHeartbeats 4000000 in
theorem headRows_b (l : List Mt) (A : Option Addr) (c : Nat) (ct : Int) (h : Hd) (w : World) (hl : l.length ≤ maxLen) (hlc : l.length ≤ c) (hr : Reads w w.heap.size 7 A l.length (dcs mtc l)) (h1 : ¬ 1000 < l.length) (h2 : ¬ hrow l = true) : Calls Try.prog 6 #[.slice A l.length c, .int .i64 ct, .agg (hdc h)] w fun e w' => e = .returned (.bool true) ∧ Below w.heap.size w w' := by
  obtain ⟨a, b, d⟩ := h
  have HB := Lib.hid ((Below.refl w.heap.size w).alloc (Nat.le_refl _) (.cells #[.int .i64 a, .int .i64 b, .int .i64 d] 23))
  have HLr := Lib.hid (dReads_on hr HB.out)
  have hi : ¬ (1000 : Int) < (l.length : Int) := by omega
  have P4 := fun W (hW : Reads W W.heap.size 7 A l.length (dcs mtc l)) => p_hblk_any l A l.length c W rfl (by omega) hW
  rw [show hblkF l = 211 from if_neg h2] at P4
  replace P4 := Lib.hid P4
  unfold hdc
  dsimp only
  clear hr hl hlc h1 h2
  go_enter Try.func6, Try.ntmps6
  go_wp2_with (first
    | (go_at_call 20; (with_reducible refine (P4.out _ HLr.out).mono ?_); rintro e w9 ⟨rfl, hb⟩; replace HB := Lib.hid (HB.out.trans (hb.mono HB.out.size)); replace HLr := Lib.hid (dReads_on HLr.out hb); clear hb P4)
    | (go_at_call 7; refine (awake21_any _).mono ?_; rintro e w9 ⟨rfl, hb⟩; replace HB := Lib.hid (HB.out.trans (hb.mono HB.out.size)); clear hb)
    | fail)
  go_ret
  exact ⟨rfl, HB.out⟩
set_option maxRecDepth 100000 in
set_option maxHeartbeats 4000000 in
theorem headRows_c (l : List Mt) (A : Option Addr) (c : Nat) (ct : Int) (h : Hd) (w : World) (hl : l.length ≤ maxLen) (hlc : l.length ≤ c) (hr : Reads w w.heap.size 7 A l.length (dcs mtc l)) (h1 : ¬ 1000 < l.length) (h2 : hrow l = true) (h3 : ct < 0) : Calls Try.prog 6 #[.slice A l.length c, .int .i64 ct, .agg (hdc h)] w fun e w' => e = .returned (.bool true) ∧ Below w.heap.size w w' := by
  obtain ⟨a, b, d⟩ := h
  have HB := Lib.hid ((Below.refl w.heap.size w).alloc (Nat.le_refl _) (.cells #[.int .i64 a, .int .i64 b, .int .i64 d] 23))
  have HLr := Lib.hid (dReads_on hr HB.out)
  have hi : ¬ (1000 : Int) < (l.length : Int) := by omega
  have P4 := fun W (hW : Reads W W.heap.size 7 A l.length (dcs mtc l)) => p_hblk_any l A l.length c W rfl (by omega) hW
  rw [show hblkF l = 0 from if_pos h2] at P4
  replace P4 := Lib.hid P4
  unfold hdc
  dsimp only
  clear hr hl hlc h1 h2
  go_enter Try.func6, Try.ntmps6
  go_wp2_with (first
    | (go_at_call 20; (with_reducible refine (P4.out _ HLr.out).mono ?_); rintro e w9 ⟨rfl, hb⟩; replace HB := Lib.hid (HB.out.trans (hb.mono HB.out.size)); replace HLr := Lib.hid (dReads_on HLr.out hb); clear hb P4)
    | (go_at_call 7; refine (awake21_any _).mono ?_; rintro e w9 ⟨rfl, hb⟩; replace HB := Lib.hid (HB.out.trans (hb.mono HB.out.size)); clear hb)
    | fail)
  go_ret
  exact ⟨rfl, HB.out⟩
set_option maxRecDepth 100000 in
set_option maxHeartbeats 4000000 in
theorem headRows_d (l : List Mt) (A : Option Addr) (c : Nat) (ct : Int) (h : Hd) (w : World) (hl : l.length ≤ maxLen) (hlc : l.length ≤ c) (hr : Reads w w.heap.size 7 A l.length (dcs mtc l)) (h1 : ¬ 1000 < l.length) (h2 : hrow l = true) (h3 : ¬ ct < 0) (h4 : (l.length : Int) < ct) : Calls Try.prog 6 #[.slice A l.length c, .int .i64 ct, .agg (hdc h)] w fun e w' => e = .returned (.bool true) ∧ Below w.heap.size w w' := by
  obtain ⟨a, b, d⟩ := h
  have HB := Lib.hid ((Below.refl w.heap.size w).alloc (Nat.le_refl _) (.cells #[.int .i64 a, .int .i64 b, .int .i64 d] 23))
  have HLr := Lib.hid (dReads_on hr HB.out)
  have hi : ¬ (1000 : Int) < (l.length : Int) := by omega
  have P4 := fun W (hW : Reads W W.heap.size 7 A l.length (dcs mtc l)) => p_hblk_any l A l.length c W rfl (by omega) hW
  rw [show hblkF l = 0 from if_pos h2] at P4
  replace P4 := Lib.hid P4
  unfold hdc
  dsimp only
  clear hr hl hlc h1 h2
  go_enter Try.func6, Try.ntmps6
  go_wp2_with (first
    | (go_at_call 20; (with_reducible refine (P4.out _ HLr.out).mono ?_); rintro e w9 ⟨rfl, hb⟩; replace HB := Lib.hid (HB.out.trans (hb.mono HB.out.size)); replace HLr := Lib.hid (dReads_on HLr.out hb); clear hb P4)
    | (go_at_call 7; refine (awake21_any _).mono ?_; rintro e w9 ⟨rfl, hb⟩; replace HB := Lib.hid (HB.out.trans (hb.mono HB.out.size)); clear hb)
    | fail)
  go_ret
  exact ⟨rfl, HB.out⟩
theorem hrow_to {W : World} {A : Option Addr} {l : List Mt} {n c k : Nat} (hr : Reads W W.heap.size 7 A n (dcs mtc l)) (hl : l.length = n) (hk : k ≤ n) (hc : n ≤ c) :
    Reads W W.heap.size 7 (if c = 0 then A else A.map (·.add (0 * 7))) k (dcs mtc (l.take k)) := by
  have h1 := hr.cut (Nat.zero_le n) hc
  rw [Nat.sub_zero, Nat.zero_mul, List.drop_zero] at h1
  rw [Nat.zero_mul]
  exact Reads.top mtc 7 mtc_len h1 hl hk
theorem hrow_from {W : World} {A : Option Addr} {l : List Mt} {n c k : Nat} (hr : Reads W W.heap.size 7 A n (dcs mtc l)) (hl : l.length = n) (hk : k ≤ n) (hc : n ≤ c) :
    Reads W W.heap.size 7 (if c = k then A else A.map (·.add (k * 7))) (n - k) (dcs mtc (l.drop k)) := by
  rw [dcs_drop mtc 7 mtc_len l k (by omega)]
  exact hr.cut hk hc
theorem hslice_to (A : Option Addr) (n c k : Nat) (hk : k ≤ c) (W : World) : (Instr.slice 37 (.slice A n c) none (some (.int .i64 (k : Int))) none).run Try.prog W = .ok (.slice (if c = 0 then A else A.map (·.add (0 * 7))) k c) W := by
  obtain ⟨i0, hi, hz0, hz1, hz9⟩ := info_parts meta_info
  have he : Try.prog.elem 37 = 55 := by simp [Program.elem, Try.underlying37]
  rw [run_slice_h W 37 A n c Try.underlying37 .i64 k (by omega) (by omega), he]
  simp [sizeOf, typeInfo, hi, hz1, sliced]
theorem hslice_from (A : Option Addr) (n c k : Nat) (hk : k ≤ n) (W : World) : (Instr.slice 37 (.slice A n c) (some (.int .i64 (k : Int))) none none).run Try.prog W = .ok (.slice (if c = k then A else A.map (·.add (k * 7))) (n - k) (c - k)) W := by
  obtain ⟨i0, hi, hz0, hz1, hz9⟩ := info_parts meta_info
  exact run_slice_from Try.underlying37 hi hz1 A n c k hk W
theorem hw_sum {l : List Mt} (h : hrow l = true) (i : Nat) (hi : i < l.length) (hn : l.length ≤ 1000) : IntKind.i64.wrap (hsz (l.take i) + l[i].2.1) = hsz (l.take (i + 1)) ∧ IntKind.i64.wrap (hct (l.take i) + l[i].2.2.2.1) = hct (l.take (i + 1)) := by
  rw [← hsz_snoc l i hi, ← hct_snoc l i hi]
  have := hsz_le h (i + 1) hi
  rw [IntKind.wrap_i64, IntKind.wrap_i64]
  omega
theorem hnext_sum {l : List Mt} (h : hrow l = true) (hd : Hd) {n : Nat} (hl : l.length = n) (hn : 0 < n) : hnextF hd l = (l[0]'(by omega)).2.2.2.2.1 + hct (l.take n) ∧ (hdok hd = true → hendF hd l = ((l[0]'(by omega)).1 + hsz (l.take n), 0)) := by
  obtain ⟨p, hp⟩ : ∃ p, p + 1 = n := ⟨n - 1, by omega⟩
  have h1 := hlast_at l p (by omega)
  have h2 := hrow_sums h p (by omega)
  rw [hp] at h2
  refine ⟨?_, fun hk => ?_⟩
  · unfold hnextF
    rw [if_neg (fun e => e.elim (fun e => by omega) (fun e => by rw [h] at e; cases e)), h1, h2.2]
  · unfold hendF
    rw [if_neg (by rw [hk]; decide), if_neg (by rw [h]; decide), if_neg (by omega), h1, h2.1]
set_option maxRecDepth 100000 in
set_option maxHeartbeats 32000000 in
theorem headRows_e (l : List Mt) (A : Option Addr) (c n k : Nat) (h : Hd) (w : World) (hl : l.length = n) (hlc : n ≤ c) (hr : Reads w w.heap.size 7 A n (dcs mtc l)) (h1 : n ≤ 1000) (h2 : hrow l = true) (hk : k ≤ n) : Calls Try.prog 6 #[.slice A n c, .int .i64 (k : Int), .agg (hdc h)] w fun e w' => e = .returned (.bool true) ∧ Below w.heap.size w w' := by
  have hi : ¬ (1000 : Int) < (n : Int) := by omega
  have hk0 : ¬ (k : Int) < 0 := by omega
  have hkn : ¬ (n : Int) < (k : Int) := by omega
  have hst := fun W => hslice_to A n c k (by omega) W
  have hsf := fun W => hslice_from A n c k hk W
  have HC : Hid (0 < n → ∃ b off, A = some ⟨b, off, none⟩ ∧ b < w.heap.size ∧ ∀ i (hi : i < l.length), ∀ j u, (mtc l[i])[j]? = some u → w.cell? ⟨b, off + i * 7 + j, none⟩ = some u) := Lib.hid fun h => mt_cells hr hl h
  have P4 : Hid (∀ W (hW : Reads W W.heap.size 7 A n (dcs mtc l)), Calls Try.prog 20 #[.slice A n c] W fun e w' => e = .returned (.int .i64 0) ∧ Below W.heap.size W w') := Lib.hid fun W hW => by have := p_hblk_any l A n c W hl (by omega) hW; rwa [show hblkF l = 0 from if_pos h2] at this
  have P5 : Hid (∀ A W (hW : Reads W W.heap.size 7 A k (dcs mtc (l.take k))), Calls Try.prog 20 #[.slice A k c] W fun e w' => e = .returned (.int .i64 0) ∧ Below W.heap.size W w') := Lib.hid fun A W hW => by have := p_hblk_any (l.take k) A k c W (by rw [List.length_take]; omega) (by omega) hW; rwa [show hblkF (l.take k) = 0 from if_pos (hrow_take h2 k)] at this
  have P6 : Hid (∀ A W (hW : Reads W W.heap.size 7 A (n - k) (dcs mtc (l.drop k))), Calls Try.prog 20 #[.slice A (n - k) (c - k)] W fun e w' => e = .returned (.int .i64 0) ∧ Below W.heap.size W w') := Lib.hid fun A W hW => by have := p_hblk_any (l.drop k) A (n - k) (c - k) W (by rw [List.length_drop]; omega) (by omega) hW; rwa [show hblkF (l.drop k) = 0 from if_pos (hrow_drop h2 k)] at this
  have P7 : Hid (∀ W (hW : Reads W W.heap.size 7 A n (dcs mtc l)), Calls Try.prog 23 #[.agg (hdc h), .slice A n c] W fun e w' => e = .returned (.int .i64 (hnextF h l)) ∧ Below W.heap.size W w') := Lib.hid fun W hW => p_hnext_any h l A n c W hl (by omega) hW
  have P8 : Hid (∀ W (hW : Reads W W.heap.size 7 A n (dcs mtc l)), Calls Try.prog 18 #[.agg (hdc h), .slice A n c] W fun e w' => e = .returned (.tuple #[.int .i64 (hendF h l).1, .int .i64 (hendF h l).2]) ∧ Below W.heap.size W w') := Lib.hid fun W hW => p_hend_any h l A n c W hl (by omega) hW
  have HSum : Hid (∀ i (hi : i < l.length), IntKind.i64.wrap (hsz (l.take i) + l[i].2.1) = hsz (l.take (i + 1)) ∧ IntKind.i64.wrap (hct (l.take i) + l[i].2.2.2.1) = hct (l.take (i + 1))) := Lib.hid fun i hi => hw_sum h2 i hi (by omega)
  have HL := Lib.hid hl
  have HN : Hid (0 < n → ∀ h0 : 0 < l.length, hnextF h l = l[0].2.2.2.2.1 + hct (l.take n) ∧ (hdok h = true → hendF h l = (l[0].1 + hsz (l.take n), 0)) ∧ IntKind.i64.wrap (l[0].2.2.2.2.1 + hct (l.take n)) = l[0].2.2.2.2.1 + hct (l.take n) ∧ IntKind.i64.wrap (l[0].1 + hsz (l.take n)) = l[0].1 + hsz (l.take n)) := Lib.hid fun hn h0 => by
    have e1 := hnext_sum h2 h hl hn
    have e2 := hsz_le h2 n (by omega)
    have e3 := (hm1_iff _).1 (((hrow_iff l).1 h2).2 0 h0).1
    refine ⟨e1.1, e1.2, ?_, ?_⟩ <;> (rw [IntKind.wrap_i64]; omega)
  have HN0 : Hid (n = 0 → hnextF h l = h.2.2) := Lib.hid fun e => if_pos (.inl (by omega))
  have HE0 : Hid (hdok h = false → hendF h l = (0, 210)) := Lib.hid fun e => if_pos e
  generalize hnextF h l = NV at *
  generalize hendF h l = EV at *
  generalize hdok h = ok at *
  obtain ⟨ev, ee⟩ := EV
  obtain ⟨a, b, d⟩ := h
  unfold hdc at P7 P8 ⊢
  dsimp only at P7 P8 HN0 ⊢
  have Hf := Lib.hid (Blk.new w 23 #[.int .i64 a, .int .i64 b, .int .i64 d])
  have HB := Lib.hid ((Below.refl w.heap.size w).alloc (Nat.le_refl _) (.cells #[.int .i64 a, .int .i64 b, .int .i64 d] 23))
  have HLr := Lib.hid (dReads_on hr HB.out)
  have HR1 := Lib.hid (hrow_to HLr.out hl hk hlc)
  have HR2 := Lib.hid (hrow_from HLr.out hl hk hlc)
  replace P5 := Lib.hid (P5.out (if c = 0 then A else A.map (·.add (0 * 7))))
  replace P6 := Lib.hid (P6.out (if c = k then A else A.map (·.add (k * 7))))
  have HRd := Lib.hid hr
  generalize (if c = 0 then A else A.map (·.add (0 * 7))) = A1 at *
  generalize (if c = k then A else A.map (·.add (k * 7))) = A2 at *
  clear hr hl h2
  go_enter Try.func6, Try.ntmps6
  go_wp2_with (first
    | (go_at_call 20; (with_reducible refine (P4.out _ HLr.out).mono ?_); rintro e w9 ⟨rfl, hb⟩; replace Hf := Lib.hid (Hf.out.below hb Hf.out.lt); replace HB := Lib.hid (HB.out.trans (hb.mono HB.out.size)); replace HLr := Lib.hid (dReads_on HLr.out hb); (try replace HR1 := Lib.hid (dReads_on HR1.out hb)); (try replace HR2 := Lib.hid (dReads_on HR2.out hb)); clear hb; clear P4)
    | (go_at_call 20; (with_reducible refine (P5.out _ HR1.out).mono ?_); rintro e w9 ⟨rfl, hb⟩; replace Hf := Lib.hid (Hf.out.below hb Hf.out.lt); replace HB := Lib.hid (HB.out.trans (hb.mono HB.out.size)); replace HLr := Lib.hid (dReads_on HLr.out hb); (try replace HR1 := Lib.hid (dReads_on HR1.out hb)); (try replace HR2 := Lib.hid (dReads_on HR2.out hb)); clear hb; clear P5)
    | (go_at_call 20; (with_reducible refine (P6.out _ HR2.out).mono ?_); rintro e w9 ⟨rfl, hb⟩; replace Hf := Lib.hid (Hf.out.below hb Hf.out.lt); replace HB := Lib.hid (HB.out.trans (hb.mono HB.out.size)); replace HLr := Lib.hid (dReads_on HLr.out hb); (try replace HR1 := Lib.hid (dReads_on HR1.out hb)); (try replace HR2 := Lib.hid (dReads_on HR2.out hb)); clear hb; clear P6)
    | fail)
  clear hst hsf HR1 HR2 hk0 hkn
  go_loopw [7, 8, 9] (fun bv cv iv wr => ∃ i : Nat, i ≤ n ∧ iv = .int .i64 (i : Int) ∧ bv = .int .i64 (hsz (l.take i)) ∧ cv = .int .i64 (hct (l.take i)) ∧ Hid (Below w.heap.size w wr) ∧ Hid (Blk wr w.heap.size 23 #[.int .i64 a, .int .i64 b, .int .i64 d])) (fun _ _ iv _ => n - (intOf iv).toNat)
  case atStart => exact ⟨0, by omega, rfl, rfl, rfl, HB, Hf⟩
  case round =>
    clear HB Hf HLr
    obtain ⟨i, hin, rfl, rfl, rfl, HB, Hf⟩ := hrel
    by_cases hlt : i < n
    case pos =>
      have hil : i < l.length := by have := HL.out; omega
      obtain ⟨b0, off, rfl, hb0, hcell⟩ := HC.out (by omega)
      have c1 : wr.cell? ⟨b0, off + i * 7 + 1, none⟩ = some (.int .i64 l[i].2.1) := (HB.out.cell (p := ⟨b0, off + i * 7 + 1, none⟩) hb0).trans (hcell i hil 1 _ rfl)
      have c3 : wr.cell? ⟨b0, off + i * 7 + 3, none⟩ = some (.int .i64 l[i].2.2.2.1) := (HB.out.cell (p := ⟨b0, off + i * 7 + 3, none⟩) hb0).trans (hcell i hil 3 _ rfl)
      have hki : (0 : Int) ≤ (i : Int) ∧ (i : Int) < (n : Int) := by omega
      obtain ⟨s1, s2⟩ := HSum.out i hil
      clear HC hcell HSum HN HN0 HE0 P7 P8
      generalize l[i].2.1 = z1 at *
      generalize l[i].2.2.2.1 = z3 at *
      generalize hsz (l.take i) = B0 at *
      generalize hct (l.take i) = C0 at *
      obtain ⟨B1, hB1⟩ : ∃ x, hsz (l.take (i + 1)) = x := ⟨_, rfl⟩
      obtain ⟨C1, hC1⟩ : ∃ x, hct (l.take (i + 1)) = x := ⟨_, rfl⟩
      rw [hB1] at s1
      rw [hC1] at s2
      have HB1 := Lib.hid hB1
      have HC1 := Lib.hid hC1
      clear hB1 hC1
      go_wp2
      go_roundw
      case rel => exact ⟨i + 1, by omega, iv (by omega), by rw [HB1.out], by rw [HC1.out], HB, Hf⟩
      case measure => simp only [intOf]; omega
    case neg =>
      obtain rfl : i = n := by omega
      have hz : ¬ (i : Int) < (i : Int) := by omega
      have HLr := Lib.hid (dReads_on HRd.out HB.out)
      clear HSum
      by_cases h0 : i = 0
      case pos =>
        have hnv := HN0.out h0
        rw [hnv] at P7
        clear hnv HN HN0 HE0 HC P8 hz hlt hin
        generalize hsz (l.take i) = B0 at *
        generalize hct (l.take i) = C0 at *
        subst h0
        have hz0 : (((0 : Nat) : Int) == 0) = true := rfl
        go_wp2
        replace HLr := Lib.hid (dReads_on HLr.out (Below.refl _ _).drew)
        replace HB := Lib.hid HB.out.drew
        refine wp_region_held_drew (S := (fun W => Blk W w.heap.size 23 #[.int .i64 a, .int .i64 b, .int .i64 d] ∧ Below w.heap.size w W)) (by kernel_rfl) (⟨Hf.out.drew, HB.out⟩) (fun hHeld => ?_)
        refine wpAnyH_take (i := 0) (oi := _) (v := ?_) rfl (by kernel_rfl) (by kernel_rfl) (by kernel_rfl) (fun _ _ _ h => h) (Or.inl ⟨by rfl, ?_⟩) hHeld ?_
        rotate_left
        · (intro wz hSw; have k0 := hSw.1.cell 0; have k1 := hSw.1.cell 1; have k2 := hSw.1.cell 2; simp only [List.getElem?_toArray, List.getElem?_cons_zero, List.getElem?_cons_succ] at k0 k1 k2; go_simp; try (with_reducible rfl))
        (try dsimp only [List.getElem_toArray, List.getElem_cons_zero, List.getElem_cons_succ]); (try simp only [Act.put, List.setIfInBounds_toArray, List.set_cons_zero, List.set_cons_succ])
        refine wpAnyH_take (i := 1) (oi := _) (v := ?_) rfl (by kernel_rfl) (by kernel_rfl) (by kernel_rfl) (fun _ _ _ h => h) (Or.inl ⟨by rfl, ?_⟩) hHeld ?_
        rotate_left
        · (intro wz hSw; go_simp; try (with_reducible rfl))
        (try dsimp only [List.getElem_toArray, List.getElem_cons_zero, List.getElem_cons_succ]); (try simp only [Act.put, List.setIfInBounds_toArray, List.set_cons_zero, List.set_cons_succ])
        refine wpAnyH_take (i := 3) (oi := _) (v := ?_) rfl (by kernel_rfl) (by kernel_rfl) (by kernel_rfl) (fun _ _ _ h => h) (Or.inl ⟨by rfl, ?_⟩) hHeld ?_
        rotate_left
        · (intro wz hSw; go_simp; try (with_reducible rfl))
        (try dsimp only [List.getElem_toArray, List.getElem_cons_zero, List.getElem_cons_succ]); (try simp only [Act.put, List.setIfInBounds_toArray, List.set_cons_zero, List.set_cons_succ])
        refine wpAnyH_take (i := 4) (oi := _) (v := ?_) rfl (by kernel_rfl) (by kernel_rfl) (by kernel_rfl) (fun _ _ _ h => h) (Or.inl ⟨by rfl, ?_⟩) hHeld ?_
        rotate_left
        · (intro wz hSw; have k0 := hSw.1.cell 0; have k1 := hSw.1.cell 1; have k2 := hSw.1.cell 2; simp only [List.getElem?_toArray, List.getElem?_cons_zero, List.getElem?_cons_succ] at k0 k1 k2; go_simp; try (with_reducible rfl))
        (try dsimp only [List.getElem_toArray, List.getElem_cons_zero, List.getElem_cons_succ]); (try simp only [Act.put, List.setIfInBounds_toArray, List.set_cons_zero, List.set_cons_succ])
        refine wpAnyH_ready (rs := [2]) (by kernel_rfl) (by simp) ?_
        refine AllReadyH.cons (o := _) rfl (fun K hK => ?_) AllReadyH.nil
        go_simp
        go_at_call 23
        (with_reducible refine (P7.out _ HLr.out).mono ?_)
        rintro e w1 ⟨rfl, hb1⟩
        clear P7
        replace HB := Lib.hid (HB.out.trans (hb1.mono HB.out.size)); replace HLr := Lib.hid (dReads_on HLr.out hb1)
        refine hK.out _ _ (⟨hHeld.1.below hb1 hHeld.1.lt, hHeld.2.trans (hb1.mono hHeld.2.size)⟩) (fun hH => ?_)
        clear hHeld hK K hb1
        have hHeld := hH
        clear hH
        (try dsimp only [List.getElem_toArray, List.getElem_cons_zero, List.getElem_cons_succ]); (try simp only [Act.put, List.setIfInBounds_toArray, List.set_cons_zero, List.set_cons_succ])
        refine wpAnyH_take (i := 5) (oi := _) (v := ?_) rfl (by kernel_rfl) (by kernel_rfl) (by kernel_rfl) (fun _ _ _ h => h) (Or.inl ⟨by rfl, ?_⟩) hHeld ?_
        rotate_left
        · (intro wz hSw; go_simp; try (with_reducible rfl))
        (try dsimp only [List.getElem_toArray, List.getElem_cons_zero, List.getElem_cons_succ]); (try simp only [Act.put, List.setIfInBounds_toArray, List.set_cons_zero, List.set_cons_succ])
        refine wpAnyH_take (i := 6) (oi := _) (v := ?_) rfl (by kernel_rfl) (by kernel_rfl) (by kernel_rfl) (fun _ _ _ h => h) (Or.inl ⟨by rfl, ?_⟩) hHeld ?_
        rotate_left
        · (intro wz hSw; go_simp; try (with_reducible rfl))
        (try dsimp only [List.getElem_toArray, List.getElem_cons_zero, List.getElem_cons_succ]); (try simp only [Act.put, List.setIfInBounds_toArray, List.set_cons_zero, List.set_cons_succ])
        refine wpAnyH_ready (rs := [7]) (by kernel_rfl) (by simp) ?_
        refine AllReadyH.cons (o := _) rfl (fun K hK => ?_) AllReadyH.nil
        go_simp
        go_at_call 7
        refine (awake21_any _).mono ?_
        rintro e w1 ⟨rfl, hb1⟩
        replace HB := Lib.hid (HB.out.trans (hb1.mono HB.out.size)); replace HLr := Lib.hid (dReads_on HLr.out hb1)
        refine hK.out _ _ (⟨hHeld.1.below hb1 hHeld.1.lt, hHeld.2.trans (hb1.mono hHeld.2.size)⟩) (fun hH => ?_)
        clear hHeld hK K hb1
        have hHeld := hH
        clear hH
        (try dsimp only [List.getElem_toArray, List.getElem_cons_zero, List.getElem_cons_succ]); (try simp only [Act.put, List.setIfInBounds_toArray, List.set_cons_zero, List.set_cons_succ])
        refine wpAnyH_take (i := 8) (oi := _) (v := ?_) rfl (by kernel_rfl) (by kernel_rfl) (by kernel_rfl) (fun _ _ _ h => h) (Or.inl ⟨by rfl, ?_⟩) hHeld ?_
        rotate_left
        · (intro wz hSw; go_simp; try (with_reducible rfl))
        (try dsimp only [List.getElem_toArray, List.getElem_cons_zero, List.getElem_cons_succ]); (try simp only [Act.put, List.setIfInBounds_toArray, List.set_cons_zero, List.set_cons_succ])
        refine wpAnyH_take (i := 9) (oi := _) (v := ?_) rfl (by kernel_rfl) (by kernel_rfl) (by kernel_rfl) (fun _ _ _ h => h) (Or.inl ⟨by rfl, ?_⟩) hHeld ?_
        rotate_left
        · (intro wz hSw; go_simp; try (with_reducible rfl))
        (try dsimp only [List.getElem_toArray, List.getElem_cons_zero, List.getElem_cons_succ]); (try simp only [Act.put, List.setIfInBounds_toArray, List.set_cons_zero, List.set_cons_succ])
        refine wpAnyH_done (by kernel_rfl) ?_ _
        clear hHeld
        go_wp2
        go_ret
        exact ⟨rfl, HB.out⟩
      case neg =>
        have hz0 : ((i : Int) == 0) = false := by rw [beq_eq_false_iff_ne]; omega
        have hil : 0 < l.length := by have := HL.out; omega
        obtain ⟨hnv, hev, hw1, hw2⟩ := HN.out (by omega) hil
        obtain ⟨b0, off, rfl, hb0, hcell⟩ := HC.out (by omega)
        have d4 : w.cell? ⟨b0, off + 4, none⟩ = some (.int .i64 l[0].2.2.2.2.1) := by have := hcell 0 hil 4 _ rfl; simpa using this
        have d0 : w.cell? ⟨b0, off, none⟩ = some (.int .i64 l[0].1) := by have := hcell 0 hil 0 _ rfl; simpa using this
        have hn0 : 0 < i := by omega
        have hn1 : (0 : Int) ≤ (0 : Int) ∧ (0 : Int) < (i : Int) := by omega
        have hn2 : (0 : Int) < (i : Int) := by omega
        subst hnv
        clear HN HN0 HC hcell
        generalize l[0].2.2.2.2.1 = f0 at *
        generalize l[0].1 = g0 at *
        generalize hsz (l.take i) = B0 at *
        generalize hct (l.take i) = C0 at *
        cases ok with
        | true =>
          have hee := hev rfl
          injection hee with he1 he2
          subst he1
          subst he2
          clear hev HE0
          have x0 := Hf.out.cell 0; have x1 := Hf.out.cell 1; have x2 := Hf.out.cell 2; simp only [List.getElem?_toArray, List.getElem?_cons_zero, List.getElem?_cons_succ] at x0 x1 x2
          go_wp2_with (first | (go_at_call 18; (with_reducible refine (P8.out _ HLr.out).mono ?_); rintro e w9 ⟨rfl, hb⟩; replace Hf := Lib.hid (Hf.out.below hb Hf.out.lt); replace HB := Lib.hid (HB.out.trans (hb.mono HB.out.size)); replace HLr := Lib.hid (dReads_on HLr.out hb); clear hb P8 x0 x1 x2) | fail)
          replace HLr := Lib.hid (dReads_on HLr.out (Below.refl _ _).drew)
          replace HB := Lib.hid HB.out.drew
          refine wp_region_held_drew (S := (fun W => Blk W w.heap.size 23 #[.int .i64 a, .int .i64 b, .int .i64 d] ∧ Below w.heap.size w W)) (by kernel_rfl) (⟨Hf.out.drew, HB.out⟩) (fun hHeld => ?_)
          refine wpAnyH_take (i := 0) (oi := _) (v := ?_) rfl (by kernel_rfl) (by kernel_rfl) (by kernel_rfl) (fun _ _ _ h => h) (Or.inl ⟨by rfl, ?_⟩) hHeld ?_
          rotate_left
          · (intro wz hSw; have k0 := hSw.1.cell 0; have k1 := hSw.1.cell 1; have k2 := hSw.1.cell 2; simp only [List.getElem?_toArray, List.getElem?_cons_zero, List.getElem?_cons_succ] at k0 k1 k2; go_simp; try (with_reducible rfl))
          (try dsimp only [List.getElem_toArray, List.getElem_cons_zero, List.getElem_cons_succ]); (try simp only [Act.put, List.setIfInBounds_toArray, List.set_cons_zero, List.set_cons_succ])
          refine wpAnyH_take (i := 1) (oi := _) (v := ?_) rfl (by kernel_rfl) (by kernel_rfl) (by kernel_rfl) (fun _ _ _ h => h) (Or.inl ⟨by rfl, ?_⟩) hHeld ?_
          rotate_left
          · (intro wz hSw; go_simp; try (with_reducible rfl))
          (try dsimp only [List.getElem_toArray, List.getElem_cons_zero, List.getElem_cons_succ]); (try simp only [Act.put, List.setIfInBounds_toArray, List.set_cons_zero, List.set_cons_succ])
          refine wpAnyH_take (i := 3) (oi := _) (v := ?_) rfl (by kernel_rfl) (by kernel_rfl) (by kernel_rfl) (fun _ _ _ h => h) (Or.inl ⟨by rfl, ?_⟩) hHeld ?_
          rotate_left
          · (intro wz hSw; go_simp; try (with_reducible rfl))
          (try dsimp only [List.getElem_toArray, List.getElem_cons_zero, List.getElem_cons_succ]); (try simp only [Act.put, List.setIfInBounds_toArray, List.set_cons_zero, List.set_cons_succ])
          refine wpAnyH_take (i := 4) (oi := _) (v := ?_) rfl (by kernel_rfl) (by kernel_rfl) (by kernel_rfl) (fun _ _ _ h => h) (Or.inl ⟨by rfl, ?_⟩) hHeld ?_
          rotate_left
          · (intro wz hSw; go_simp; try (with_reducible rfl))
          (try dsimp only [List.getElem_toArray, List.getElem_cons_zero, List.getElem_cons_succ]); (try simp only [Act.put, List.setIfInBounds_toArray, List.set_cons_zero, List.set_cons_succ])
          refine wpAnyH_take (i := 5) (oi := _) (v := ?_) rfl (by kernel_rfl) (by kernel_rfl) (by kernel_rfl) (fun _ _ _ h => h) (Or.inl ⟨by rfl, ?_⟩) hHeld ?_
          rotate_left
          · (intro wz hSw; go_simp; try (with_reducible rfl))
          (try dsimp only [List.getElem_toArray, List.getElem_cons_zero, List.getElem_cons_succ]); (try simp only [Act.put, List.setIfInBounds_toArray, List.set_cons_zero, List.set_cons_succ])
          refine wpAnyH_take (i := 6) (oi := _) (v := ?_) rfl (by kernel_rfl) (by kernel_rfl) (by kernel_rfl) (fun _ _ _ h => h) (Or.inl ⟨by rfl, ?_⟩) hHeld ?_
          rotate_left
          · (intro wz hSw; have k4 := (hSw.2.cell (p := ⟨b0, off + 4, none⟩) hb0).trans d4; go_simp; try (with_reducible rfl))
          (try dsimp only [List.getElem_toArray, List.getElem_cons_zero, List.getElem_cons_succ]); (try simp only [Act.put, List.setIfInBounds_toArray, List.set_cons_zero, List.set_cons_succ])
          refine wpAnyH_take (i := 7) (oi := _) (v := ?_) rfl (by kernel_rfl) (by kernel_rfl) (by kernel_rfl) (fun _ _ _ h => h) (Or.inl ⟨by rfl, ?_⟩) hHeld ?_
          rotate_left
          · (intro wz hSw; go_simp; try (with_reducible rfl))
          (try dsimp only [List.getElem_toArray, List.getElem_cons_zero, List.getElem_cons_succ]); (try simp only [Act.put, List.setIfInBounds_toArray, List.set_cons_zero, List.set_cons_succ])
          refine wpAnyH_take (i := 8) (oi := _) (v := ?_) rfl (by kernel_rfl) (by kernel_rfl) (by kernel_rfl) (fun _ _ _ h => h) (Or.inl ⟨by rfl, ?_⟩) hHeld ?_
          rotate_left
          · (intro wz hSw; go_simp; try (with_reducible rfl))
          (try dsimp only [List.getElem_toArray, List.getElem_cons_zero, List.getElem_cons_succ]); (try simp only [Act.put, List.setIfInBounds_toArray, List.set_cons_zero, List.set_cons_succ])
          refine wpAnyH_ready (rs := [2]) (by kernel_rfl) (by simp) ?_
          refine AllReadyH.cons (o := _) rfl (fun K hK => ?_) AllReadyH.nil
          go_simp
          go_at_call 23
          (with_reducible refine (P7.out _ HLr.out).mono ?_)
          rintro e w1 ⟨rfl, hb1⟩
          clear P7
          replace HB := Lib.hid (HB.out.trans (hb1.mono HB.out.size)); replace HLr := Lib.hid (dReads_on HLr.out hb1)
          refine hK.out _ _ (⟨hHeld.1.below hb1 hHeld.1.lt, hHeld.2.trans (hb1.mono hHeld.2.size)⟩) (fun hH => ?_)
          clear hHeld hK K hb1
          have hHeld := hH
          clear hH
          (try dsimp only [List.getElem_toArray, List.getElem_cons_zero, List.getElem_cons_succ]); (try simp only [Act.put, List.setIfInBounds_toArray, List.set_cons_zero, List.set_cons_succ])
          refine wpAnyH_take (i := 9) (oi := _) (v := ?_) rfl (by kernel_rfl) (by kernel_rfl) (by kernel_rfl) (fun _ _ _ h => h) (Or.inl ⟨by rfl, ?_⟩) hHeld ?_
          rotate_left
          · (intro wz hSw; go_simp; try (with_reducible rfl))
          (try dsimp only [List.getElem_toArray, List.getElem_cons_zero, List.getElem_cons_succ]); (try simp only [Act.put, List.setIfInBounds_toArray, List.set_cons_zero, List.set_cons_succ])
          refine wpAnyH_take (i := 10) (oi := _) (v := ?_) rfl (by kernel_rfl) (by kernel_rfl) (by kernel_rfl) (fun _ _ _ h => h) (Or.inl ⟨by rfl, ?_⟩) hHeld ?_
          rotate_left
          · (intro wz hSw; go_simp; try (with_reducible rfl))
          (try dsimp only [List.getElem_toArray, List.getElem_cons_zero, List.getElem_cons_succ]); (try simp only [Act.put, List.setIfInBounds_toArray, List.set_cons_zero, List.set_cons_succ])
          refine wpAnyH_take (i := 11) (oi := _) (v := ?_) rfl (by kernel_rfl) (by kernel_rfl) (by kernel_rfl) (fun _ _ _ h => h) (Or.inl ⟨by rfl, ?_⟩) hHeld ?_
          rotate_left
          · (intro wz hSw; go_simp; try (with_reducible rfl))
          (try dsimp only [List.getElem_toArray, List.getElem_cons_zero, List.getElem_cons_succ]); (try simp only [Act.put, List.setIfInBounds_toArray, List.set_cons_zero, List.set_cons_succ])
          refine wpAnyH_take (i := 12) (oi := _) (v := ?_) rfl (by kernel_rfl) (by kernel_rfl) (by kernel_rfl) (fun _ _ _ h => h) (Or.inl ⟨by rfl, ?_⟩) hHeld ?_
          rotate_left
          · (intro wz hSw; go_simp; try (with_reducible rfl))
          (try dsimp only [List.getElem_toArray, List.getElem_cons_zero, List.getElem_cons_succ]); (try simp only [Act.put, List.setIfInBounds_toArray, List.set_cons_zero, List.set_cons_succ])
          refine wpAnyH_take (i := 13) (oi := _) (v := ?_) rfl (by kernel_rfl) (by kernel_rfl) (by kernel_rfl) (fun _ _ _ h => h) (Or.inl ⟨by rfl, ?_⟩) hHeld ?_
          rotate_left
          · (intro wz hSw; go_simp; try (with_reducible rfl))
          (try dsimp only [List.getElem_toArray, List.getElem_cons_zero, List.getElem_cons_succ]); (try simp only [Act.put, List.setIfInBounds_toArray, List.set_cons_zero, List.set_cons_succ])
          refine wpAnyH_take (i := 14) (oi := _) (v := ?_) rfl (by kernel_rfl) (by kernel_rfl) (by kernel_rfl) (fun _ _ _ h => h) (Or.inl ⟨by rfl, ?_⟩) hHeld ?_
          rotate_left
          · (intro wz hSw; go_simp; try (with_reducible rfl))
          (try dsimp only [List.getElem_toArray, List.getElem_cons_zero, List.getElem_cons_succ]); (try simp only [Act.put, List.setIfInBounds_toArray, List.set_cons_zero, List.set_cons_succ])
          refine wpAnyH_take (i := 15) (oi := _) (v := ?_) rfl (by kernel_rfl) (by kernel_rfl) (by kernel_rfl) (fun _ _ _ h => h) (Or.inl ⟨by rfl, ?_⟩) hHeld ?_
          rotate_left
          · (intro wz hSw; go_simp; try (with_reducible rfl))
          (try dsimp only [List.getElem_toArray, List.getElem_cons_zero, List.getElem_cons_succ]); (try simp only [Act.put, List.setIfInBounds_toArray, List.set_cons_zero, List.set_cons_succ])
          refine wpAnyH_take (i := 16) (oi := _) (v := ?_) rfl (by kernel_rfl) (by kernel_rfl) (by kernel_rfl) (fun _ _ _ h => h) (Or.inl ⟨by rfl, ?_⟩) hHeld ?_
          rotate_left
          · (intro wz hSw; go_simp; try (with_reducible rfl))
          (try dsimp only [List.getElem_toArray, List.getElem_cons_zero, List.getElem_cons_succ]); (try simp only [Act.put, List.setIfInBounds_toArray, List.set_cons_zero, List.set_cons_succ])
          refine wpAnyH_take (i := 17) (oi := _) (v := ?_) rfl (by kernel_rfl) (by kernel_rfl) (by kernel_rfl) (fun _ _ _ h => h) (Or.inl ⟨by rfl, ?_⟩) hHeld ?_
          rotate_left
          · (intro wz hSw; go_simp; try (with_reducible rfl))
          (try dsimp only [List.getElem_toArray, List.getElem_cons_zero, List.getElem_cons_succ]); (try simp only [Act.put, List.setIfInBounds_toArray, List.set_cons_zero, List.set_cons_succ])
          refine wpAnyH_take (i := 18) (oi := _) (v := ?_) rfl (by kernel_rfl) (by kernel_rfl) (by kernel_rfl) (fun _ _ _ h => h) (Or.inl ⟨by rfl, ?_⟩) hHeld ?_
          rotate_left
          · (intro wz hSw; have k0 := (hSw.2.cell (p := ⟨b0, off, none⟩) hb0).trans d0; go_simp; try (with_reducible rfl))
          (try dsimp only [List.getElem_toArray, List.getElem_cons_zero, List.getElem_cons_succ]); (try simp only [Act.put, List.setIfInBounds_toArray, List.set_cons_zero, List.set_cons_succ])
          refine wpAnyH_take (i := 19) (oi := _) (v := ?_) rfl (by kernel_rfl) (by kernel_rfl) (by kernel_rfl) (fun _ _ _ h => h) (Or.inl ⟨by rfl, ?_⟩) hHeld ?_
          rotate_left
          · (intro wz hSw; go_simp; try (with_reducible rfl))
          (try dsimp only [List.getElem_toArray, List.getElem_cons_zero, List.getElem_cons_succ]); (try simp only [Act.put, List.setIfInBounds_toArray, List.set_cons_zero, List.set_cons_succ])
          refine wpAnyH_take (i := 20) (oi := _) (v := ?_) rfl (by kernel_rfl) (by kernel_rfl) (by kernel_rfl) (fun _ _ _ h => h) (Or.inl ⟨by rfl, ?_⟩) hHeld ?_
          rotate_left
          · (intro wz hSw; go_simp; try (with_reducible rfl))
          (try dsimp only [List.getElem_toArray, List.getElem_cons_zero, List.getElem_cons_succ]); (try simp only [Act.put, List.setIfInBounds_toArray, List.set_cons_zero, List.set_cons_succ])
          refine wpAnyH_take (i := 21) (oi := _) (v := ?_) rfl (by kernel_rfl) (by kernel_rfl) (by kernel_rfl) (fun _ _ _ h => h) (Or.inl ⟨by rfl, ?_⟩) hHeld ?_
          rotate_left
          · (intro wz hSw; go_simp; try (with_reducible rfl))
          (try dsimp only [List.getElem_toArray, List.getElem_cons_zero, List.getElem_cons_succ]); (try simp only [Act.put, List.setIfInBounds_toArray, List.set_cons_zero, List.set_cons_succ])
          refine wpAnyH_take (i := 22) (oi := _) (v := ?_) rfl (by kernel_rfl) (by kernel_rfl) (by kernel_rfl) (fun _ _ _ h => h) (Or.inl ⟨by rfl, ?_⟩) hHeld ?_
          rotate_left
          · (intro wz hSw; go_simp; try (with_reducible rfl))
          (try dsimp only [List.getElem_toArray, List.getElem_cons_zero, List.getElem_cons_succ]); (try simp only [Act.put, List.setIfInBounds_toArray, List.set_cons_zero, List.set_cons_succ])
          refine wpAnyH_take (i := 23) (oi := _) (v := ?_) rfl (by kernel_rfl) (by kernel_rfl) (by kernel_rfl) (fun _ _ _ h => h) (Or.inl ⟨by rfl, ?_⟩) hHeld ?_
          rotate_left
          · (intro wz hSw; go_simp; try (with_reducible rfl))
          (try dsimp only [List.getElem_toArray, List.getElem_cons_zero, List.getElem_cons_succ]); (try simp only [Act.put, List.setIfInBounds_toArray, List.set_cons_zero, List.set_cons_succ])
          refine wpAnyH_take (i := 24) (oi := _) (v := ?_) rfl (by kernel_rfl) (by kernel_rfl) (by kernel_rfl) (fun _ _ _ h => h) (Or.inl ⟨by rfl, ?_⟩) hHeld ?_
          rotate_left
          · (intro wz hSw; go_simp; try (with_reducible rfl))
          (try dsimp only [List.getElem_toArray, List.getElem_cons_zero, List.getElem_cons_succ]); (try simp only [Act.put, List.setIfInBounds_toArray, List.set_cons_zero, List.set_cons_succ])
          refine wpAnyH_ready (rs := [25]) (by kernel_rfl) (by simp) ?_
          refine AllReadyH.cons (o := _) rfl (fun K hK => ?_) AllReadyH.nil
          go_simp
          go_at_call 7
          refine (awake21_any _).mono ?_
          rintro e w1 ⟨rfl, hb1⟩
          replace HB := Lib.hid (HB.out.trans (hb1.mono HB.out.size)); replace HLr := Lib.hid (dReads_on HLr.out hb1)
          refine hK.out _ _ (⟨hHeld.1.below hb1 hHeld.1.lt, hHeld.2.trans (hb1.mono hHeld.2.size)⟩) (fun hH => ?_)
          clear hHeld hK K hb1
          have hHeld := hH
          clear hH
          (try dsimp only [List.getElem_toArray, List.getElem_cons_zero, List.getElem_cons_succ]); (try simp only [Act.put, List.setIfInBounds_toArray, List.set_cons_zero, List.set_cons_succ])
          refine wpAnyH_take (i := 26) (oi := _) (v := ?_) rfl (by kernel_rfl) (by kernel_rfl) (by kernel_rfl) (fun _ _ _ h => h) (Or.inl ⟨by rfl, ?_⟩) hHeld ?_
          rotate_left
          · (intro wz hSw; go_simp; try (with_reducible rfl))
          (try dsimp only [List.getElem_toArray, List.getElem_cons_zero, List.getElem_cons_succ]); (try simp only [Act.put, List.setIfInBounds_toArray, List.set_cons_zero, List.set_cons_succ])
          refine wpAnyH_take (i := 27) (oi := _) (v := ?_) rfl (by kernel_rfl) (by kernel_rfl) (by kernel_rfl) (fun _ _ _ h => h) (Or.inl ⟨by rfl, ?_⟩) hHeld ?_
          rotate_left
          · (intro wz hSw; go_simp; try (with_reducible rfl))
          (try dsimp only [List.getElem_toArray, List.getElem_cons_zero, List.getElem_cons_succ]); (try simp only [Act.put, List.setIfInBounds_toArray, List.set_cons_zero, List.set_cons_succ])
          refine wpAnyH_done (by kernel_rfl) ?_ _
          clear hHeld
          go_wp2
          go_ret
          exact ⟨rfl, HB.out⟩
        | false =>
          have hee := HE0.out rfl
          injection hee with he1 he2
          subst he1
          subst he2
          clear hev HE0 hw2
          have x0 := Hf.out.cell 0; have x1 := Hf.out.cell 1; have x2 := Hf.out.cell 2; simp only [List.getElem?_toArray, List.getElem?_cons_zero, List.getElem?_cons_succ] at x0 x1 x2
          go_wp2_with (first | (go_at_call 18; (with_reducible refine (P8.out _ HLr.out).mono ?_); rintro e w9 ⟨rfl, hb⟩; replace Hf := Lib.hid (Hf.out.below hb Hf.out.lt); replace HB := Lib.hid (HB.out.trans (hb.mono HB.out.size)); replace HLr := Lib.hid (dReads_on HLr.out hb); clear hb P8 x0 x1 x2) | fail)
          replace HLr := Lib.hid (dReads_on HLr.out (Below.refl _ _).drew)
          replace HB := Lib.hid HB.out.drew
          refine wp_region_held_drew (S := (fun W => Blk W w.heap.size 23 #[.int .i64 a, .int .i64 b, .int .i64 d] ∧ Below w.heap.size w W)) (by kernel_rfl) (⟨Hf.out.drew, HB.out⟩) (fun hHeld => ?_)
          refine wpAnyH_take (i := 0) (oi := _) (v := ?_) rfl (by kernel_rfl) (by kernel_rfl) (by kernel_rfl) (fun _ _ _ h => h) (Or.inl ⟨by rfl, ?_⟩) hHeld ?_
          rotate_left
          · (intro wz hSw; have k0 := hSw.1.cell 0; have k1 := hSw.1.cell 1; have k2 := hSw.1.cell 2; simp only [List.getElem?_toArray, List.getElem?_cons_zero, List.getElem?_cons_succ] at k0 k1 k2; go_simp; try (with_reducible rfl))
          (try dsimp only [List.getElem_toArray, List.getElem_cons_zero, List.getElem_cons_succ]); (try simp only [Act.put, List.setIfInBounds_toArray, List.set_cons_zero, List.set_cons_succ])
          refine wpAnyH_take (i := 1) (oi := _) (v := ?_) rfl (by kernel_rfl) (by kernel_rfl) (by kernel_rfl) (fun _ _ _ h => h) (Or.inl ⟨by rfl, ?_⟩) hHeld ?_
          rotate_left
          · (intro wz hSw; go_simp; try (with_reducible rfl))
          (try dsimp only [List.getElem_toArray, List.getElem_cons_zero, List.getElem_cons_succ]); (try simp only [Act.put, List.setIfInBounds_toArray, List.set_cons_zero, List.set_cons_succ])
          refine wpAnyH_take (i := 3) (oi := _) (v := ?_) rfl (by kernel_rfl) (by kernel_rfl) (by kernel_rfl) (fun _ _ _ h => h) (Or.inl ⟨by rfl, ?_⟩) hHeld ?_
          rotate_left
          · (intro wz hSw; go_simp; try (with_reducible rfl))
          (try dsimp only [List.getElem_toArray, List.getElem_cons_zero, List.getElem_cons_succ]); (try simp only [Act.put, List.setIfInBounds_toArray, List.set_cons_zero, List.set_cons_succ])
          refine wpAnyH_take (i := 4) (oi := _) (v := ?_) rfl (by kernel_rfl) (by kernel_rfl) (by kernel_rfl) (fun _ _ _ h => h) (Or.inl ⟨by rfl, ?_⟩) hHeld ?_
          rotate_left
          · (intro wz hSw; go_simp; try (with_reducible rfl))
          (try dsimp only [List.getElem_toArray, List.getElem_cons_zero, List.getElem_cons_succ]); (try simp only [Act.put, List.setIfInBounds_toArray, List.set_cons_zero, List.set_cons_succ])
          refine wpAnyH_take (i := 5) (oi := _) (v := ?_) rfl (by kernel_rfl) (by kernel_rfl) (by kernel_rfl) (fun _ _ _ h => h) (Or.inl ⟨by rfl, ?_⟩) hHeld ?_
          rotate_left
          · (intro wz hSw; go_simp; try (with_reducible rfl))
          (try dsimp only [List.getElem_toArray, List.getElem_cons_zero, List.getElem_cons_succ]); (try simp only [Act.put, List.setIfInBounds_toArray, List.set_cons_zero, List.set_cons_succ])
          refine wpAnyH_take (i := 6) (oi := _) (v := ?_) rfl (by kernel_rfl) (by kernel_rfl) (by kernel_rfl) (fun _ _ _ h => h) (Or.inl ⟨by rfl, ?_⟩) hHeld ?_
          rotate_left
          · (intro wz hSw; have k4 := (hSw.2.cell (p := ⟨b0, off + 4, none⟩) hb0).trans d4; go_simp; try (with_reducible rfl))
          (try dsimp only [List.getElem_toArray, List.getElem_cons_zero, List.getElem_cons_succ]); (try simp only [Act.put, List.setIfInBounds_toArray, List.set_cons_zero, List.set_cons_succ])
          refine wpAnyH_take (i := 7) (oi := _) (v := ?_) rfl (by kernel_rfl) (by kernel_rfl) (by kernel_rfl) (fun _ _ _ h => h) (Or.inl ⟨by rfl, ?_⟩) hHeld ?_
          rotate_left
          · (intro wz hSw; go_simp; try (with_reducible rfl))
          (try dsimp only [List.getElem_toArray, List.getElem_cons_zero, List.getElem_cons_succ]); (try simp only [Act.put, List.setIfInBounds_toArray, List.set_cons_zero, List.set_cons_succ])
          refine wpAnyH_take (i := 8) (oi := _) (v := ?_) rfl (by kernel_rfl) (by kernel_rfl) (by kernel_rfl) (fun _ _ _ h => h) (Or.inl ⟨by rfl, ?_⟩) hHeld ?_
          rotate_left
          · (intro wz hSw; go_simp; try (with_reducible rfl))
          (try dsimp only [List.getElem_toArray, List.getElem_cons_zero, List.getElem_cons_succ]); (try simp only [Act.put, List.setIfInBounds_toArray, List.set_cons_zero, List.set_cons_succ])
          refine wpAnyH_ready (rs := [2]) (by kernel_rfl) (by simp) ?_
          refine AllReadyH.cons (o := _) rfl (fun K hK => ?_) AllReadyH.nil
          go_simp
          go_at_call 23
          (with_reducible refine (P7.out _ HLr.out).mono ?_)
          rintro e w1 ⟨rfl, hb1⟩
          clear P7
          replace HB := Lib.hid (HB.out.trans (hb1.mono HB.out.size)); replace HLr := Lib.hid (dReads_on HLr.out hb1)
          refine hK.out _ _ (⟨hHeld.1.below hb1 hHeld.1.lt, hHeld.2.trans (hb1.mono hHeld.2.size)⟩) (fun hH => ?_)
          clear hHeld hK K hb1
          have hHeld := hH
          clear hH
          (try dsimp only [List.getElem_toArray, List.getElem_cons_zero, List.getElem_cons_succ]); (try simp only [Act.put, List.setIfInBounds_toArray, List.set_cons_zero, List.set_cons_succ])
          refine wpAnyH_take (i := 9) (oi := _) (v := ?_) rfl (by kernel_rfl) (by kernel_rfl) (by kernel_rfl) (fun _ _ _ h => h) (Or.inl ⟨by rfl, ?_⟩) hHeld ?_
          rotate_left
          · (intro wz hSw; go_simp; try (with_reducible rfl))
          (try dsimp only [List.getElem_toArray, List.getElem_cons_zero, List.getElem_cons_succ]); (try simp only [Act.put, List.setIfInBounds_toArray, List.set_cons_zero, List.set_cons_succ])
          refine wpAnyH_take (i := 10) (oi := _) (v := ?_) rfl (by kernel_rfl) (by kernel_rfl) (by kernel_rfl) (fun _ _ _ h => h) (Or.inl ⟨by rfl, ?_⟩) hHeld ?_
          rotate_left
          · (intro wz hSw; go_simp; try (with_reducible rfl))
          (try dsimp only [List.getElem_toArray, List.getElem_cons_zero, List.getElem_cons_succ]); (try simp only [Act.put, List.setIfInBounds_toArray, List.set_cons_zero, List.set_cons_succ])
          refine wpAnyH_take (i := 11) (oi := _) (v := ?_) rfl (by kernel_rfl) (by kernel_rfl) (by kernel_rfl) (fun _ _ _ h => h) (Or.inl ⟨by rfl, ?_⟩) hHeld ?_
          rotate_left
          · (intro wz hSw; go_simp; try (with_reducible rfl))
          (try dsimp only [List.getElem_toArray, List.getElem_cons_zero, List.getElem_cons_succ]); (try simp only [Act.put, List.setIfInBounds_toArray, List.set_cons_zero, List.set_cons_succ])
          refine wpAnyH_take (i := 12) (oi := _) (v := ?_) rfl (by kernel_rfl) (by kernel_rfl) (by kernel_rfl) (fun _ _ _ h => h) (Or.inl ⟨by rfl, ?_⟩) hHeld ?_
          rotate_left
          · (intro wz hSw; go_simp; try (with_reducible rfl))
          (try dsimp only [List.getElem_toArray, List.getElem_cons_zero, List.getElem_cons_succ]); (try simp only [Act.put, List.setIfInBounds_toArray, List.set_cons_zero, List.set_cons_succ])
          refine wpAnyH_take (i := 13) (oi := _) (v := ?_) rfl (by kernel_rfl) (by kernel_rfl) (by kernel_rfl) (fun _ _ _ h => h) (Or.inl ⟨by rfl, ?_⟩) hHeld ?_
          rotate_left
          · (intro wz hSw; go_simp; try (with_reducible rfl))
          (try dsimp only [List.getElem_toArray, List.getElem_cons_zero, List.getElem_cons_succ]); (try simp only [Act.put, List.setIfInBounds_toArray, List.set_cons_zero, List.set_cons_succ])
          refine wpAnyH_take (i := 14) (oi := _) (v := undef) rfl (by kernel_rfl) (by kernel_rfl) (by kernel_rfl) (fun _ _ _ h => h) (Or.inr ⟨by rfl, rfl⟩) hHeld ?_
          (try dsimp only [List.getElem_toArray, List.getElem_cons_zero, List.getElem_cons_succ]); (try simp only [Act.put, List.setIfInBounds_toArray, List.set_cons_zero, List.set_cons_succ])
          refine wpAnyH_take (i := 15) (oi := _) (v := undef) rfl (by kernel_rfl) (by kernel_rfl) (by kernel_rfl) (fun _ _ _ h => h) (Or.inr ⟨by rfl, rfl⟩) hHeld ?_
          (try dsimp only [List.getElem_toArray, List.getElem_cons_zero, List.getElem_cons_succ]); (try simp only [Act.put, List.setIfInBounds_toArray, List.set_cons_zero, List.set_cons_succ])
          refine wpAnyH_take (i := 16) (oi := _) (v := undef) rfl (by kernel_rfl) (by kernel_rfl) (by kernel_rfl) (fun _ _ _ h => h) (Or.inr ⟨by rfl, rfl⟩) hHeld ?_
          (try dsimp only [List.getElem_toArray, List.getElem_cons_zero, List.getElem_cons_succ]); (try simp only [Act.put, List.setIfInBounds_toArray, List.set_cons_zero, List.set_cons_succ])
          refine wpAnyH_take (i := 17) (oi := _) (v := undef) rfl (by kernel_rfl) (by kernel_rfl) (by kernel_rfl) (fun _ _ _ h => h) (Or.inr ⟨by rfl, rfl⟩) hHeld ?_
          (try dsimp only [List.getElem_toArray, List.getElem_cons_zero, List.getElem_cons_succ]); (try simp only [Act.put, List.setIfInBounds_toArray, List.set_cons_zero, List.set_cons_succ])
          refine wpAnyH_take (i := 18) (oi := _) (v := undef) rfl (by kernel_rfl) (by kernel_rfl) (by kernel_rfl) (fun _ _ _ h => h) (Or.inr ⟨by rfl, rfl⟩) hHeld ?_
          (try dsimp only [List.getElem_toArray, List.getElem_cons_zero, List.getElem_cons_succ]); (try simp only [Act.put, List.setIfInBounds_toArray, List.set_cons_zero, List.set_cons_succ])
          refine wpAnyH_take (i := 19) (oi := _) (v := undef) rfl (by kernel_rfl) (by kernel_rfl) (by kernel_rfl) (fun _ _ _ h => h) (Or.inr ⟨by rfl, rfl⟩) hHeld ?_
          (try dsimp only [List.getElem_toArray, List.getElem_cons_zero, List.getElem_cons_succ]); (try simp only [Act.put, List.setIfInBounds_toArray, List.set_cons_zero, List.set_cons_succ])
          refine wpAnyH_take (i := 20) (oi := _) (v := undef) rfl (by kernel_rfl) (by kernel_rfl) (by kernel_rfl) (fun _ _ _ h => h) (Or.inr ⟨by rfl, rfl⟩) hHeld ?_
          (try dsimp only [List.getElem_toArray, List.getElem_cons_zero, List.getElem_cons_succ]); (try simp only [Act.put, List.setIfInBounds_toArray, List.set_cons_zero, List.set_cons_succ])
          refine wpAnyH_take (i := 21) (oi := _) (v := undef) rfl (by kernel_rfl) (by kernel_rfl) (by kernel_rfl) (fun _ _ _ h => h) (Or.inr ⟨by rfl, rfl⟩) hHeld ?_
          (try dsimp only [List.getElem_toArray, List.getElem_cons_zero, List.getElem_cons_succ]); (try simp only [Act.put, List.setIfInBounds_toArray, List.set_cons_zero, List.set_cons_succ])
          refine wpAnyH_take (i := 22) (oi := _) (v := ?_) rfl (by kernel_rfl) (by kernel_rfl) (by kernel_rfl) (fun _ _ _ h => h) (Or.inl ⟨by rfl, ?_⟩) hHeld ?_
          rotate_left
          · (intro wz hSw; go_simp; try (with_reducible rfl))
          (try dsimp only [List.getElem_toArray, List.getElem_cons_zero, List.getElem_cons_succ]); (try simp only [Act.put, List.setIfInBounds_toArray, List.set_cons_zero, List.set_cons_succ])
          refine wpAnyH_take (i := 23) (oi := _) (v := ?_) rfl (by kernel_rfl) (by kernel_rfl) (by kernel_rfl) (fun _ _ _ h => h) (Or.inl ⟨by rfl, ?_⟩) hHeld ?_
          rotate_left
          · (intro wz hSw; go_simp; try (with_reducible rfl))
          (try dsimp only [List.getElem_toArray, List.getElem_cons_zero, List.getElem_cons_succ]); (try simp only [Act.put, List.setIfInBounds_toArray, List.set_cons_zero, List.set_cons_succ])
          refine wpAnyH_take (i := 24) (oi := _) (v := ?_) rfl (by kernel_rfl) (by kernel_rfl) (by kernel_rfl) (fun _ _ _ h => h) (Or.inl ⟨by rfl, ?_⟩) hHeld ?_
          rotate_left
          · (intro wz hSw; go_simp; try (with_reducible rfl))
          (try dsimp only [List.getElem_toArray, List.getElem_cons_zero, List.getElem_cons_succ]); (try simp only [Act.put, List.setIfInBounds_toArray, List.set_cons_zero, List.set_cons_succ])
          refine wpAnyH_ready (rs := [25]) (by kernel_rfl) (by simp) ?_
          refine AllReadyH.cons (o := _) rfl (fun K hK => ?_) AllReadyH.nil
          go_simp
          go_at_call 7
          refine (awake21_any _).mono ?_
          rintro e w1 ⟨rfl, hb1⟩
          replace HB := Lib.hid (HB.out.trans (hb1.mono HB.out.size)); replace HLr := Lib.hid (dReads_on HLr.out hb1)
          refine hK.out _ _ (⟨hHeld.1.below hb1 hHeld.1.lt, hHeld.2.trans (hb1.mono hHeld.2.size)⟩) (fun hH => ?_)
          clear hHeld hK K hb1
          have hHeld := hH
          clear hH
          (try dsimp only [List.getElem_toArray, List.getElem_cons_zero, List.getElem_cons_succ]); (try simp only [Act.put, List.setIfInBounds_toArray, List.set_cons_zero, List.set_cons_succ])
          refine wpAnyH_take (i := 26) (oi := _) (v := ?_) rfl (by kernel_rfl) (by kernel_rfl) (by kernel_rfl) (fun _ _ _ h => h) (Or.inl ⟨by rfl, ?_⟩) hHeld ?_
          rotate_left
          · (intro wz hSw; go_simp; try (with_reducible rfl))
          (try dsimp only [List.getElem_toArray, List.getElem_cons_zero, List.getElem_cons_succ]); (try simp only [Act.put, List.setIfInBounds_toArray, List.set_cons_zero, List.set_cons_succ])
          refine wpAnyH_take (i := 27) (oi := _) (v := ?_) rfl (by kernel_rfl) (by kernel_rfl) (by kernel_rfl) (fun _ _ _ h => h) (Or.inl ⟨by rfl, ?_⟩) hHeld ?_
          rotate_left
          · (intro wz hSw; go_simp; try (with_reducible rfl))
          (try dsimp only [List.getElem_toArray, List.getElem_cons_zero, List.getElem_cons_succ]); (try simp only [Act.put, List.setIfInBounds_toArray, List.set_cons_zero, List.set_cons_succ])
          refine wpAnyH_done (by kernel_rfl) ?_ _
          clear hHeld
          go_wp2
          go_ret
          exact ⟨rfl, HB.out⟩
theorem headRows_walk (l : List Mt) (A : Option Addr) (c : Nat) (ct : Int) (h : Hd) (w : World) (hl : l.length ≤ maxLen) (hlc : l.length ≤ c) (hr : Reads w w.heap.size 7 A l.length (dcs mtc l)) : Calls Try.prog 6 #[.slice A l.length c, .int .i64 ct, .agg (hdc h)] w fun e w' => e = .returned (.bool true) ∧ Below w.heap.size w w' := by
  by_cases h1 : 1000 < l.length
  · exact headRows_a l A c ct h w hl hlc hr h1
  by_cases h2 : hrow l = true
  case neg => exact headRows_b l A c ct h w hl hlc hr h1 h2
  by_cases h3 : ct < 0
  · exact headRows_c l A c ct h w hl hlc hr h1 h2 h3
  by_cases h4 : (l.length : Int) < ct
  · exact headRows_d l A c ct h w hl hlc hr h1 h2 h3 h4
  obtain ⟨k, rfl⟩ := Int.eq_ofNat_of_zero_le (Int.not_lt.1 h3)
  exact headRows_e l A c l.length k h w rfl hlc hr (by omega) h2 (by omega)
namespace HeadRows
set_option maxRecDepth 100000 in
theorem lifted (os : Os) (started : os.Started) (H : Type) (enc : TypeId × Value → H) :
    ReturnsInHanded {} Try.checked os 6 .any (Rows.headRowsSpec.pre6 enc Try.prog Try.f6 Rows.headRowsRow.domain false) (Rows.headRowsSpec.post enc Try.prog Try.f6 false true false false) := by
  refine law_sized (C := Try.checked) (tb := 4) ownP started (by kernel_rfl) Try.func6
    (ChangeSpec.witness6 (enc := enc) (C := Try.checked) false ⟨#[], #[.slice none 0 0, .int .i64 0, .agg #[.int .i64 0, .int .i64 0, .int .i64 0]], []⟩ 8 (by kernel_rfl) (by kernel_rfl) (by kernel_rfl) (by kernel_rfl))
    laidP (by kernel_rfl) rfl (by kernel_rfl) Try.underlying4 (by intro ds h; match ds, h with | [_, _, _], _ => rfl) ?_
  intro W base args ds p hval0 hA0 hlt _
  have hval : ∀ (j : Nat) t v, Try.f6.params[j]? = some t → args[j]? = some v → Value.okWide Try.prog W .any base t v := hval0
  have hA : DataW.TrodAll enc Try.prog W 0 (fun _ => true) true Try.f6.params.toList args.toList ds p := hA0
  rw [Try.params6] at hA hval
  obtain ⟨v0, v1, v2, d0, d1, d2, p0, p1, p2, rfl, rfl, rfl, h0, h1, h2⟩ := trodAll_three hA
  obtain ⟨Al, l, cl, rfl, ml, hlc, rl⟩ := open_metas (hval 0 37 v0 rfl rfl) h0
  obtain ⟨ct, rfl, rfl, rfl, wct⟩ := open_int Try.underlying3 (hval 1 3 v1 rfl rfl) h1
  obtain ⟨h, rfl⟩ := open_head (hval 2 23 v2 rfl rfl) h2
  exact headRows_walk l Al cl ct h W ml hlc rl
theorem holds : Rows.HeadRowsSaid :=
  OpenClaim.holds_of_wide 6 Try.f6 rfl rfl rfl rfl rfl rfl rfl ⟨rfl, rfl, rfl, rfl, rfl⟩ rfl rfl rfl rfl rfl (by kernel_rfl) Try.func6 (by kernel_rfl)
    (of_decide_eq_true (by kernel_rfl)) (by unfold Func.isWrapper; first | (rw [if_pos (by decide +kernel)]; kernel_rfl) | (rw [if_neg (by decide +kernel)]; exact ⟨rfl, rfl⟩))
    (fun os started H enc _ => lifted os started H enc)
end HeadRows
end Go.Proofs.Ytjodckinfoldgaa
