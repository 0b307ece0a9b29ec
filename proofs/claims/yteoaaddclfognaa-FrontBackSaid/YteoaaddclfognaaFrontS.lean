/-
  Layer 6: what the document's own Ranks, Row and Text return, for every argument.
-/
import Derived.Test.YteoaaddclfognaaFrontR
namespace Go.Proofs.Yteoaaddclfognaa
set_option linter.unusedSimpArgs false
set_option linter.unusedVariables false
open Go.ChangeShapes Go.WideShapes Go.ChangeAt Go.RowKit Go.Joins Go.Deep

theorem ints_snoc (a b : List Int) : ints a ++ ints b = ints (a ++ b) := by simp [ints]

set_option maxRecDepth 100000 in
set_option maxHeartbeats 2000000 in
theorem ref_ranks_any (l : List UInt8) (hl : l.length ≤ 1000000) (w : World) :
    Calls Try.prog 12 #[.string ⟨l.toArray⟩] w fun e w' => ∃ A c, e = .returned (.slice A l.length c) ∧ l.length ≤ c ∧ Reads w' w'.heap.size 1 A l.length (ints (rks row0 l)) ∧ Below w.heap.size w w' := by
  obtain ⟨i0, hi, hz0, hz1, hz2⟩ := info_parts mint_info
  have hll : (l.length : Int) ≤ 1000000 := by omega
  have Hlen : Hid (∀ k, k ≤ l.length → (rks row0 (l.take k)).length = k) := Lib.hid fun k hk => by rw [rks_len, List.length_take]; omega
  clear hl
  go_enter Try.func12, Try.ntmps12
  go_wp2_with (go_at_call 18; refine (fr_begun_any _).mono ?_; rintro e w0 ⟨rfl, hb0⟩)
  have Hb0 := Lib.hid hb0
  clear hb0
  go_loopw [3, 4, 5] (fun r v i wr => ∃ k : Nat, k ≤ l.length ∧ i = .int .i64 k ∧ Hid (r = .string ⟨(rowS row0 (l.take k)).toArray⟩) ∧ Hid (wr.ownsRow w0.heap.size 3 1 v k (ints (rks row0 (l.take k)))) ∧ Hid (Below w0.heap.size w0 wr)) (fun _ _ i _ => l.length - (intOf i).toNat)
  case atStart => exact ⟨0, by omega, rfl, Lib.hid rfl, Lib.hid (World.ownsRow_nil _ _ _ _), Lib.hid (Below.refl _ _)⟩
  case round =>
    obtain ⟨k, hk, rfl, Hr, Hown, Hb⟩ := hrel
    obtain rfl := Hr.out
    clear Hr
    by_cases hlt : k < l.length
    · have hki : (0 : Int) ≤ (k : Int) ∧ (k : Int) < l.length := by omega
      have hks : k < (ByteArray.mk l.toArray).size := by rw [ByteArray.size_mk']; simpa using hlt
      have hW := row0_whole.rowS (l.take k)
      have hpl : ∀ W, Calls Try.prog 21 #[.string ⟨(rowS row0 (l.take k)).toArray⟩, .int .u8 ((((ByteArray.mk l.toArray)[k]'hks).toNat : Nat) : Int)] W fun e w' => e = .returned (.int .i64 (pl (rowS row0 (l.take k)) l[k] : Int)) ∧ W = w' := fun W => fr_place_any _ hW l[k] W
      have hmv : ∀ W, Calls Try.prog 19 #[.string ⟨(rowS row0 (l.take k)).toArray⟩, .int .i64 (pl (rowS row0 (l.take k)) l[k] : Int)] W fun e w' => e = .returned (.string ⟨(rowS row0 (l.take (k + 1))).toArray⟩) ∧ Below W.heap.size W w' := fun W => by
        rw [rowS_take _ _ _ hlt]
        exact fr_moved_any _ hW.len _ (pl_lt hW _) W
      have Hrk := Lib.hid (rks_take row0 l k hlt)
      have Hpl := Lib.hid hpl
      have Hmv := Lib.hid hmv
      have hlk := Hlen.out k (by omega)
      have hszr := Hb.out.size
      clear hpl hmv hW
      generalize (pl (rowS row0 (l.take k)) l[k] : Int) = j at *
      generalize hR2 : rowS row0 (l.take (k + 1)) = R2 at *
      have HR2 := Lib.hid hR2
      clear hR2
      generalize rowS row0 (l.take k) = R1 at *
      go_wp2_with (first
        | (go_at_call 21; refine (Hpl.out _).mono ?_; rintro e w1 ⟨rfl, rfl⟩)
        | (at_builtin; refine wpList_append_sep _ rfl _ _ 22 rfl w0.heap.size 3 i0 (.int .i64 0) 1 8 Try.underlying22 hi hz0 hz1 hz2 rfl (by decide) _ _ _ rfl (Hown.out.alloc _) _ 1 1 _ _ rfl (reads_new wr 3 #[.int .i64 j] 1 1 rfl) ?c1 ?c2 ?c3 ?c4 ?_))
      case c1 => exact rfl
      case c2 => unfold maxLen; omega
      case c3 => omega
      case c4 => simp; omega
      intro v2 w2 hown2 hgrow hsep
      have hb2 : Below w0.heap.size w0 w2 := (Hb.out.trans ((Below.refl _ _).alloc hszr _)).grown hgrow (by simp; omega) (fun g hg => (Hown.out.lt g hg).1)
      have Hown3 : Hid (w2.ownsRow w0.heap.size 3 1 v2 (k + 1) (ints (rks row0 (l.take (k + 1))))) := Lib.hid (by rw [Hrk.out, ← ints_snoc]; simpa [ints] using hown2)
      have Hb2 := Lib.hid hb2
      clear hb2 hown2 hgrow hsep Hown
      go_wp2_with (go_at_call 19; refine (Hmv.out _).mono ?_; rintro e w3 ⟨rfl, hb3⟩; have Hb3 := Lib.hid hb3; clear hb3)
      go_roundw
      case rel => exact ⟨k + 1, by omega, iv (by omega), Lib.hid (by rw [HR2.out]), Lib.hid (owns_below Hown3.out Hb3.out (Nat.le_refl _)), Lib.hid (Hb2.out.trans (Hb3.out.mono Hb2.out.size))⟩
      case measure => simp only [intOf]; omega
    · obtain rfl : k = l.length := by omega
      obtain ⟨A, c, rfl, hc, hr⟩ := owns_cells Hown.out
      rw [List.take_length] at hr
      have Hr := Lib.hid hr
      clear hr
      go_wp2
      go_ret
      exact ⟨A, c, rfl, hc, Hr.out, Hb0.out.trans (Hb.out.mono Hb0.out.size)⟩

set_option maxRecDepth 100000 in
set_option maxHeartbeats 2000000 in
theorem ref_row_any (l : List UInt8) (hl : l.length ≤ 1000000) (w : World) :
    Calls Try.prog 14 #[.string ⟨l.toArray⟩] w fun e w' => e = .returned (.string ⟨(rowS row0 l).toArray⟩) ∧ Below w.heap.size w w' := by
  have hll : (l.length : Int) ≤ 1000000 := by omega
  clear hl
  have Hfin : Hid (rowS row0 (l.take l.length) = rowS row0 l) := Lib.hid (by rw [List.take_length])
  go_enter Try.func14, Try.ntmps14
  go_wp2_with (go_at_call 18; refine (fr_begun_any _).mono ?_; rintro e w0 ⟨rfl, hb0⟩)
  have Hb0 := Lib.hid hb0
  clear hb0
  go_loopw [3, 4] (fun r i wr => ∃ k : Nat, k ≤ l.length ∧ i = .int .i64 k ∧ Hid (r = .string ⟨(rowS row0 (l.take k)).toArray⟩) ∧ Hid (Below w0.heap.size w0 wr)) (fun _ i _ => l.length - (intOf i).toNat)
  case atStart => exact ⟨0, by omega, rfl, Lib.hid rfl, Lib.hid (Below.refl _ _)⟩
  case round =>
    obtain ⟨k, hk, rfl, Hr, Hb⟩ := hrel
    obtain rfl := Hr.out
    clear Hr
    by_cases hlt : k < l.length
    · have hki : (0 : Int) ≤ (k : Int) ∧ (k : Int) < l.length := by omega
      have hks : k < (ByteArray.mk l.toArray).size := by rw [ByteArray.size_mk']; simpa using hlt
      have hW := row0_whole.rowS (l.take k)
      have hpl : ∀ W, Calls Try.prog 21 #[.string ⟨(rowS row0 (l.take k)).toArray⟩, .int .u8 ((((ByteArray.mk l.toArray)[k]'hks).toNat : Nat) : Int)] W fun e w' => e = .returned (.int .i64 (pl (rowS row0 (l.take k)) l[k] : Int)) ∧ W = w' := fun W => fr_place_any _ hW l[k] W
      have hmv : ∀ W, Calls Try.prog 19 #[.string ⟨(rowS row0 (l.take k)).toArray⟩, .int .i64 (pl (rowS row0 (l.take k)) l[k] : Int)] W fun e w' => e = .returned (.string ⟨(rowS row0 (l.take (k + 1))).toArray⟩) ∧ Below W.heap.size W w' := fun W => by
        rw [rowS_take _ _ _ hlt]
        exact fr_moved_any _ hW.len _ (pl_lt hW _) W
      have Hpl := Lib.hid hpl
      have Hmv := Lib.hid hmv
      clear hpl hmv hW
      generalize (pl (rowS row0 (l.take k)) l[k] : Int) = j at *
      generalize hR2 : rowS row0 (l.take (k + 1)) = R2 at *
      have HR2 := Lib.hid hR2
      clear hR2
      generalize rowS row0 (l.take k) = R1 at *
      go_wp2_with (first
        | (go_at_call 21; refine (Hpl.out _).mono ?_; rintro e w1 ⟨rfl, rfl⟩)
        | (go_at_call 19; refine (Hmv.out _).mono ?_; rintro e w3 ⟨rfl, hb3⟩; have Hb3 := Lib.hid hb3; clear hb3))
      go_roundw
      case rel => exact ⟨k + 1, by omega, iv (by omega), Lib.hid (by rw [HR2.out]), Lib.hid (Hb.out.trans (Hb3.out.mono Hb.out.size))⟩
      case measure => simp only [intOf]; omega
    · obtain rfl : k = l.length := by omega
      have hfin := Hfin.out
      go_wp2
      go_ret
      exact ⟨by show Ending.returned (Value.string ⟨(rowS row0 (l.take l.length)).toArray⟩) = _; rw [hfin], Hb0.out.trans (Hb.out.mono Hb0.out.size)⟩

set_option maxRecDepth 100000 in
set_option maxHeartbeats 2000000 in
theorem ref_text_any (A : Option Addr) (n c : Nat) (ks : List Int) (w : World) (hn : n ≤ 1000000) (hr : Reads w w.heap.size 1 A n (ints ks)) :
    Calls Try.prog 9 #[.slice A n c] w fun e w' => e = .returned (.tuple #[.string ⟨(rtextF ks).1.toArray⟩, .int .i64 (rtextF ks).2]) ∧ Below w.heap.size w w' := by
  obtain ⟨i0, hi, hz0, hz1, hz2⟩ := info_parts mbyte_info
  have en : ks.length = n := by have := hr.1; rw [ints_length] at this; omega
  have Hread : Hid (∀ k (h : k < ks.length) wr, Below w.heap.size w wr → ∃ b off, A = some ⟨b, off, none⟩ ∧ wr.cell? ⟨b, off + k, none⟩ = some (.int .i64 ks[k])) := Lib.hid fun k h wr hb => by
    obtain ⟨b, off, e, hlt, hc⟩ := hr.2 (by omega)
    exact ⟨b, off, e, (hb.cell (p := ⟨b, off + k, none⟩) hlt).trans (hc k _ (ints_get ks k h))⟩
  have Hbad : Hid (∀ k (h : k < ks.length), ¬(0 ≤ ks[k] ∧ ks[k] ≤ 255) → rtextF ks = ([], 60)) := Lib.hid fun k h hb => text_bad ks k h hb
  have Hgood : Hid (rgood ks = true → rtextF ks = (bys row0 ks, 0)) := Lib.hid (text_good ks)
  have Hlen : Hid (∀ k, k ≤ n → (bys row0 (ks.take k)).length = k) := Lib.hid fun k hk => by rw [bys_len, List.length_take]; omega
  have Hen := Lib.hid en
  have hnn : (n : Int) ≤ 1000000 := by omega
  clear hn hr en
  generalize rtextF ks = F at *
  go_enter Try.func9, Try.ntmps9
  go_wp2_with (go_at_call 18; refine (fr_begun_any _).mono ?_; rintro e w0 ⟨rfl, hb0⟩)
  have Hb0 := Lib.hid hb0
  clear hb0
  go_loopw [4, 5, 6] (fun r v i wr => ∃ k : Nat, k ≤ n ∧ i = .int .i64 k ∧ Hid (rgood (ks.take k) = true) ∧ Hid (r = .string ⟨(rowK row0 (ks.take k)).toArray⟩) ∧ Hid (wr.ownsRow w0.heap.size 5 1 v k (bc (bys row0 (ks.take k))).toList) ∧ Hid (Below w0.heap.size w0 wr)) (fun _ _ i _ => n - (intOf i).toNat)
  case atStart => exact ⟨0, by omega, rfl, rfl, Lib.hid rfl, Lib.hid (World.ownsRow_nil _ _ _ _), Lib.hid (Below.refl _ _)⟩
  case round =>
    obtain ⟨k, hk, rfl, Hg, Hr, Hown, Hb⟩ := hrel
    obtain rfl := Hr.out
    clear Hr
    by_cases hlt : k < n
    · have hki : (0 : Int) ≤ (k : Int) ∧ (k : Int) < n := by omega
      have hkl : k < ks.length := by rw [Hen.out]; exact hlt
      obtain ⟨b, off, rfl, hrd⟩ := Hread.out k hkl wr (Hb0.out.trans (Hb.out.mono Hb0.out.size))
      by_cases hneg : ks[k] < 0
      · have Hf := Lib.hid (Hbad.out k hkl (by omega))
        clear Hbad
        generalize ks[k] = x at *
        go_wp2
        go_ret2
        rw [Hf.out]
        exact ⟨rfl, Hb0.out.trans (Hb.out.mono Hb0.out.size)⟩
      · by_cases hbig : 255 < ks[k]
        · have Hf := Lib.hid (Hbad.out k hkl (by omega))
          clear Hbad
          generalize ks[k] = x at *
          go_wp2
          go_ret2
          rw [Hf.out]
          exact ⟨rfl, Hb0.out.trans (Hb.out.mono Hb0.out.size)⟩
        · have hx0 : 0 ≤ ks[k] := by omega
          have hW := row0_whole.rowK _ Hg.out
          have Hgn := Lib.hid (rgood_take ks k hkl Hg.out ⟨hx0, by omega⟩)
          have hmv : ∀ W, Calls Try.prog 19 #[.string ⟨(rowK row0 (ks.take k)).toArray⟩, .int .i64 ks[k]] W fun e w' => e = .returned (.string ⟨(rowK row0 (ks.take (k + 1))).toArray⟩) ∧ Below W.heap.size W w' := fun W => by
            rw [rowK_take _ _ _ hkl]
            have := fr_moved_any _ hW.len ks[k].toNat (by omega) W
            rwa [show ((ks[k].toNat : Nat) : Int) = ks[k] from by omega] at this
          have hby := bys_take row0 ks k hkl
          have hhead : (rowK row0 (ks.take (k + 1))) = (rowK row0 (ks.take k)).getD ks[k].toNat 0 :: ((rowK row0 (ks.take k)).take ks[k].toNat ++ (rowK row0 (ks.take k)).drop (ks[k].toNat + 1)) := by rw [rowK_take _ _ _ hkl]; rfl
          generalize (rowK row0 (ks.take k)).getD ks[k].toNat 0 = bt6 at *
          have h0s : 0 < (ByteArray.mk (rowK row0 (ks.take (k + 1))).toArray).size := by rw [ByteArray.size_mk', hhead]; simp
          have h0l : (0 : Int) < ((rowK row0 (ks.take (k + 1))).length : Int) := by rw [hhead, List.length_cons]; omega
          have h0 : (((ByteArray.mk (rowK row0 (ks.take (k + 1))).toArray)[0]'h0s).toNat : Int) = (bt6.toNat : Int) := by
            rw [ba_get]
            congr 2
            simp only [hhead, List.getElem_cons_zero]
          have Hby : Hid ((bc (bys row0 (ks.take k))).toList ++ [Value.int .u8 (bt6.toNat : Int)] = (bc (bys row0 (ks.take (k + 1)))).toList) := Lib.hid (by rw [hby, bc_toList, bc_toList, List.map_append]; rfl)
          have Hmv := Lib.hid hmv
          have hlk := Hlen.out k (by omega)
          have hszr := Hb.out.size
          clear hmv hW hby hhead Hbad
          generalize (bt6.toNat : Int) = bv at *
          generalize ks[k] = x at *
          generalize hR2 : rowK row0 (ks.take (k + 1)) = R2 at *
          have HR2 := Lib.hid hR2
          clear hR2
          generalize rowK row0 (ks.take k) = R1 at *
          go_wp2_with (first
            | (go_at_call 19; refine (Hmv.out _).mono ?_; rintro e w3 ⟨rfl, hb3⟩; have Hb3 := Lib.hid hb3; have Hown1 := Lib.hid (owns_below Hown.out hb3 (Nat.le_refl _)); clear hb3)
            | (at_builtin; refine wpList_append_sep _ rfl _ _ 39 rfl w0.heap.size 5 i0 (.int .u8 0) 1 1 Try.underlying39 hi hz0 hz1 hz2 rfl (by decide) _ _ _ rfl (Hown1.out.alloc _) _ 1 1 _ _ rfl (reads_new w3 5 #[.int .u8 bv] 1 1 rfl) ?c1 ?c2 ?c3 ?c4 ?_))
          case c1 => exact rfl
          case c2 => unfold maxLen; omega
          case c3 => omega
          case c4 => have := Hb3.out.size; simp; omega
          intro v2 w2 hown2 hgrow hsep
          have Hb13 := Lib.hid (Hb.out.trans (Hb3.out.mono Hb.out.size))
          have hb2 : Below w0.heap.size w0 w2 := (Hb13.out.trans ((Below.refl _ _).alloc Hb13.out.size _)).grown hgrow (by have := Hb13.out.size; simp; omega) (fun g hg => (Hown1.out.lt g hg).1)
          have Hown3 : Hid (w2.ownsRow w0.heap.size 5 1 v2 (k + 1) (bc (bys row0 (ks.take (k + 1)))).toList) := Lib.hid (by rw [← Hby.out]; simpa using hown2)
          have Hb2 := Lib.hid hb2
          clear hb2 hown2 hgrow hsep Hown
          go_wp2
          go_roundw
          case rel => exact ⟨k + 1, by omega, iv (by omega), Hgn.out, Lib.hid (by rw [HR2.out]), Hown3.out, Hb2.out⟩
          case measure => simp only [intOf]; omega
    · obtain rfl : k = n := by omega
      have Hf := Lib.hid (Hgood.out (by have := Hg.out; rwa [List.take_of_length_le (by rw [Hen.out]; omega)] at this))
      obtain ⟨A2, c2, rfl, hc, hr⟩ := owns_cells Hown.out
      have hlk := Hlen.out k (by omega)
      rw [List.take_of_length_le (by rw [Hen.out]; omega)] at hr hlk
      have hcv : (convert 39 9 (.slice A2 k c2)).run Try.prog wr = .ok (.string ⟨(bys row0 ks).toArray⟩) wr := by
        have := run_str_any Try.underlying39 Try.underlying5 Try.underlying9 wr A2 c2 (bys row0 ks) (by rw [hlk]; exact hr)
        rwa [hlk] at this
      clear hr hlk
      go_wp2
      go_ret2
      rw [Hf.out]
      exact ⟨rfl, Hb0.out.trans (Hb.out.mono Hb0.out.size)⟩
end Go.Proofs.Yteoaaddclfognaa
