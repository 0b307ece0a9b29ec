/-
  Layer 4: what the document's own Text, Gamma, Pack and Unpack return, for every argument.
-/
import Derived.Test.YtckekhghcelcpaaBitR1
import Derived.Test.YtckekhghcelcpaaBitG
namespace Go.Proofs.Ytckekhghcelcpaa
set_option linter.unusedSimpArgs false
set_option linter.unusedVariables false
open Go.ChangeShapes Go.WideShapes Go.ChangeAt Go.RowKit Go.Joins Go.Deep

theorem tbyte_info : (Try.prog.info? 5).map (fun i => (i.zero, i.size, i.bytes)) = some (some (.int .u8 0), 1, 1) := by kernel_rfl

/-- Eight bits from a place on, noughts behind the end. -/
def eight (l : List Nat) (i : Nat) : List Nat := (l.drop i).take 8 ++ List.replicate (8 - ((l.drop i).take 8).length) 0
theorem eight_length (l : List Nat) (i : Nat) : (eight l i).length = 8 := by
  unfold eight
  rw [List.length_append, List.length_replicate]
  have : ((l.drop i).take 8).length ≤ 8 := by simp; omega
  omega
theorem eight_in (l : List Nat) (i k : Nat) (hk : k < 8) (h : i + k < l.length) : (eight l i)[k]'(by rw [eight_length]; exact hk) = l[i + k] := by
  unfold eight
  rw [List.getElem_append_left (by simp; omega), List.getElem_take, List.getElem_drop]
theorem eight_out (l : List Nat) (i k : Nat) (hk : k < 8) (h : l.length ≤ i + k) : (eight l i)[k]'(by rw [eight_length]; exact hk) = 0 := by
  unfold eight
  rw [List.getElem_append_right (by simp; omega)]
  simp
theorem eight_bin {l : List Nat} (h : Bin l) (i : Nat) : Bin (eight l i) := Bin.app (fun d hd => h d (List.mem_of_mem_drop (List.mem_of_mem_take hd))) (fun d hd => by rw [List.eq_of_mem_replicate hd]; omega)
theorem num_zeros (l : List Nat) (k : Nat) : num (l ++ List.replicate k 0) = num l * 2 ^ k := by
  rw [num_append, List.length_replicate]
  have : num (List.replicate k 0) = 0 := by rw [← dig_zero, num_dig]; exact Nat.zero_mod _
  omega
theorem text_next (l : List Nat) (q : Nat) (h : 8 * q < l.length) : text (l.take (8 * (q + 1))) = text (l.take (8 * q)) ++ [UInt8.ofNat (num (eight l (8 * q)))] := by
  have e : l.take (8 * (q + 1)) = l.take (8 * q) ++ (l.drop (8 * q)).take 8 := by rw [show 8 * (q + 1) = 8 * q + 8 from by omega, List.take_add]
  rw [e, text_whole q _ _ (by simp; omega), text_short ((l.drop (8 * q)).take 8) (by simp; omega) (by simp; omega)]
  unfold eight
  rw [num_zeros]
theorem num_next (D : List Nat) (k : Nat) (h : k < D.length) : num (D.take (k + 1)) = 2 * num (D.take k) + D[k] := by
  rw [List.take_succ_eq_append_getElem h, num_snoc]
theorem num_small {D : List Nat} (h : Bin D) (k : Nat) (hk : k ≤ 8) : num (D.take k) < 256 := by
  have h5 := num_lt (l := D.take k) (fun d hd => h d (List.mem_of_mem_take hd))
  have h6 : 2 ^ (D.take k).length ≤ 2 ^ 8 := Nat.pow_le_pow_right (by omega) (by simp; omega)
  rw [show (2 : Nat) ^ 8 = 256 from by decide] at h6
  omega

set_option maxRecDepth 100000 in
set_option maxHeartbeats 2000000 in
theorem refText_any (l : List Nat) (A : Option Addr) (n c : Nat) (w : World) (hn : l.length = n) (hl : n ≤ 1099511627776) (hr : Reads w w.heap.size 1 A n (bcs l)) (hbin : Bin l) :
    Calls Try.prog 21 #[.slice A n c] w fun e w' => e = .returned (.string ⟨(text l).toArray⟩) ∧ Below w.heap.size w w' := by
  obtain ⟨i0, hi, hz0, hz1, hz2⟩ := info_parts tbyte_info
  have hni : (n : Int) ≤ 1099511627776 := by omega
  have Hcell : Hid (0 < n → ∃ b off, A = some ⟨b, off, none⟩ ∧ b < w.heap.size ∧ ∀ k, (hk : k < l.length) → w.cell? ⟨b, off + k, none⟩ = some (.int .i64 (l[k] : Int))) := Lib.hid fun h => reads_at hr h
  have Hn := Lib.hid hn
  have Hbin := Lib.hid hbin
  have Hsmall : Hid (∀ i k, k ≤ 8 → num ((eight l i).take k) < 256) := Lib.hid fun i k hk => num_small (eight_bin hbin i) k hk
  have Hlen : Hid (∀ k, (text (l.take k)).length ≤ 1099511627780) := Lib.hid fun k => by rw [text_length, List.length_take]; omega
  clear hn hbin hr hl
  go_enter Try.func21, Try.ntmps21
  go_wp2
  go_loopw [3, 4] (fun v i wr => ∃ q : Nat, 8 * q ≤ n + 7 ∧ i = .int .i64 ((8 * q : Nat) : Int) ∧ Hid (wr.ownsRow w.heap.size 5 1 v (text (l.take (8 * q))).length (bc (text (l.take (8 * q)))).toList) ∧ Hid (Below w.heap.size w wr)) (fun _ i _ => n + 8 - (intOf i).toNat)
  case atStart => exact ⟨0, by omega, rfl, Lib.hid (by simpa [text_nil, bc] using World.ownsRow_nil w w.heap.size 5 1), Lib.hid (Below.refl _ _)⟩
  case round =>
    obtain ⟨q, hq, rfl, Hown, Hb⟩ := hrel
    by_cases hlt : 8 * q < n
    · have hqi : ((8 * q : Nat) : Int) < n := by omega
      have hqb : ((8 * q : Nat) : Int) ≤ 1099511627776 := by omega
      have hnext := text_next l q (by rw [Hn.out]; exact hlt)
      have Hnext := Lib.hid hnext
      have Hq := Lib.hid hq
      clear hnext hq
      generalize hi8 : 8 * q = i at *
      have Hi8 := Lib.hid hi8
      clear hi8
      obtain ⟨b, off, rfl, hb, hc⟩ := Hcell.out (by omega)
      have Hc := Lib.hid hc
      clear hc
      go_wp2
      go_loop [5, 6] (fun x j => ∃ k X : Nat, k ≤ 8 ∧ j = .int .i64 k ∧ x = .int .i64 X ∧ Hid (X = num ((eight l i).take k))) (fun _ j => 8 - (intOf j).toNat)
      case atStart => exact ⟨0, 0, by omega, rfl, rfl, rfl⟩
      case round =>
        obtain ⟨k, X, hk, rfl, rfl, HX⟩ := hrel
        by_cases hk8 : k < 8
        · have hki : (k : Int) < 8 := by omega
          have hX : (X : Int) ≤ 255 := by have h7 := Hsmall.out i k hk; have h8 := HX.out; omega
          have Hnum := Lib.hid (num_next (eight l i) k (by rw [eight_length]; exact hk8))
          by_cases hin : i + k < n
          · have hkl : i + k < l.length := by rw [Hn.out]; exact hin
            have x1 := (Hb.out.cell (p := ⟨b, off + (i + k), none⟩) hb).trans (Hc.out (i + k) hkl)
            have hkn : 0 ≤ (i : Int) + k ∧ (i : Int) + k < n := by omega
            have He := Lib.hid (eight_in l i k hk8 hkl)
            have hd1 : (l[i + k] : Int) ≤ 1 := by have := Hbin.out _ (List.getElem_mem hkl); omega
            generalize l[i + k] = d at *
            clear hkl hin
            go_wp2
            go_round
            case rel =>
              have h7 := Hnum.out
              rw [← HX.out, He.out] at h7
              exact ⟨k + 1, 2 * X + d, by omega, iv (by omega), iv (by omega), Lib.hid h7.symm⟩
            case measure => simp only [intOf]; omega
          · have hkn : ¬ (i : Int) + k < n := by omega
            have He := Lib.hid (eight_out l i k hk8 (by rw [Hn.out]; omega))
            clear hin
            go_wp2
            go_round
            case rel =>
              have h7 := Hnum.out
              rw [← HX.out, He.out] at h7
              exact ⟨k + 1, 2 * X, by omega, iv (by omega), iv (by omega), Lib.hid h7.symm⟩
            case measure => simp only [intOf]; omega
        · obtain rfl : k = 8 := by omega
          have hX : (X : Int) ≤ 255 := by have h7 := Hsmall.out i 8 hk; have h8 := HX.out; omega
          have hXe : X = num (eight l i) := by have := HX.out; rwa [List.take_of_length_le (by rw [eight_length]; omega)] at this
          have HXe := Lib.hid hXe
          clear hXe
          have hszr := Hb.out.size
          go_wp2_with (at_builtin; refine wpList_append_sep _ rfl _ _ 32 rfl w.heap.size 5 i0 (.int .u8 0) 1 1 Try.underlying32 hi hz0 hz1 hz2 rfl (by decide) _ _ _ rfl (Hown.out.alloc _) _ 1 1 _ _ rfl (reads_new wr 5 _ 1 1 rfl) ?c1 ?c2 ?c3 ?c4 ?_)
          case c1 => exact rfl
          case c2 => have := Hlen.out i; unfold maxLen; omega
          case c3 => have := Hlen.out i; omega
          case c4 => first | omega | (simp; omega)
          intro v2 w2 hown2 hgrow hsep
          have hb2 : Below w.heap.size w w2 := (Hb.out.trans ((Below.refl _ _).alloc hszr _)).grown hgrow (by simp; omega) (fun g hg => (Hown.out.lt g hg).1)
          have hx8 : ((UInt8.ofNat (num (eight l i))).toNat : Int) = X := by rw [u8_ofNat _ (by have := hX; have := HXe.out; omega), HXe.out]
          have hown3 : w2.ownsRow w.heap.size 5 1 v2 (text (l.take (8 * (q + 1)))).length (bc (text (l.take (8 * (q + 1))))).toList := by
            rw [Hnext.out, List.length_append, show bc (text (l.take i) ++ [UInt8.ofNat (num (eight l i))]) = (((bc (text (l.take i))).toList ++ [Value.int .u8 ((UInt8.ofNat (num (eight l i))).toNat : Int)]).toArray) from by simp [bc], hx8]
            exact hown2
          have Hown3 := Lib.hid hown3
          have Hb2 := Lib.hid hb2
          clear hown3 hb2 hown2 hgrow hsep hx8
          go_wp2
          go_roundw
          case rel => exact ⟨q + 1, by have := Hi8.out; omega, iv (by have := Hi8.out; omega), Hown3.out, Hb2.out⟩
          case measure => simp only [intOf]; omega
    · have hfin : l.take (8 * q) = l := List.take_of_length_le (by have := Hn.out; omega)
      have hown := Hown.out
      rw [hfin] at hown
      obtain ⟨A', c', rfl, hc', hr'⟩ := owns_cells hown
      have hcv : (convert 32 9 (.slice A' (text l).length c')).run Try.prog wr = .ok (.string ⟨(text l).toArray⟩) wr := run_str_any Try.underlying32 Try.underlying5 Try.underlying9 wr A' c' _ hr'
      have hlti : ¬ ((8 * q : Nat) : Int) < n := by omega
      clear Hown hown hr' hfin
      generalize (text l).length = m at *
      generalize 8 * q = i at *
      generalize hta : (text l).toArray = ta at *
      have Hta := Lib.hid hta
      clear hta
      go_wp2
      go_ret
      exact ⟨by rw [Hta.out]; rfl, Hb.out⟩
end Go.Proofs.Ytckekhghcelcpaa
