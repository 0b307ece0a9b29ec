/-
  Layer 4: what the document's own Text, Gamma, Pack and Unpack return, for every argument.
-/
import Derived.Test.YtakkljajoollgaaBitR
import Derived.Test.YtakkljajoollgaaBitG
namespace Go.Proofs.Ytakkljajoollgaa
set_option linter.unusedSimpArgs false
set_option linter.unusedVariables false
open Go.ChangeShapes Go.WideShapes Go.ChangeAt Go.RowKit Go.Joins Go.Deep

theorem tbyte_info : (Try.prog.info? 5).map (fun i => (i.zero, i.size, i.bytes)) = some (some (.int .u8 0), 1, 1) := by kernel_rfl

/-- Eight bits from a place on, noughts behind the end. -/
def eight (l : List Nat) (i : Nat) : List Nat := (l.drop i).take 8 ++ List.replicate (8 - ((l.drop i).take 8).length) 0
theorem eight_length (l : List Nat) (i : Nat) : (eight l i).length = 8 := by
  unfold eight
  rw [List.length_append, List.length_replicate]
  have : ((l.drop i).take 8).length ≤ 8 := by simp; omega
  omega
theorem eight_in (l : List Nat) (i k : Nat) (hk : k < 8) (h : i + k < l.length) : (eight l i)[k]'(by rw [eight_length]; exact hk) = l[i + k] := by
  unfold eight
  rw [List.getElem_append_left (by simp; omega), List.getElem_take, List.getElem_drop]
theorem eight_out (l : List Nat) (i k : Nat) (hk : k < 8) (h : l.length ≤ i + k) : (eight l i)[k]'(by rw [eight_length]; exact hk) = 0 := by
  unfold eight
  rw [List.getElem_append_right (by simp; omega)]
  simp
theorem eight_bin {l : List Nat} (h : Bin l) (i : Nat) : Bin (eight l i) := Bin.app (fun d hd => h d (List.mem_of_mem_drop (List.mem_of_mem_take hd))) (fun d hd => by rw [List.eq_of_mem_replicate hd]; omega)
theorem num_zeros (l : List Nat) (k : Nat) : num (l ++ List.replicate k 0) = num l * 2 ^ k := by
  rw [num_append, List.length_replicate]
  have : num (List.replicate k 0) = 0 := by rw [← dig_zero, num_dig]; exact Nat.zero_mod _
  omega
theorem text_next (l : List Nat) (q : Nat) (h : 8 * q < l.length) : text (l.take (8 * (q + 1))) = text (l.take (8 * q)) ++ [UInt8.ofNat (num (eight l (8 * q)))] := by
  have e : l.take (8 * (q + 1)) = l.take (8 * q) ++ (l.drop (8 * q)).take 8 := by rw [show 8 * (q + 1) = 8 * q + 8 from by omega, List.take_add]
  rw [e, text_whole q _ _ (by simp; omega), text_short ((l.drop (8 * q)).take 8) (by simp; omega) (by simp; omega)]
  unfold eight
  rw [num_zeros]
theorem num_next (D : List Nat) (k : Nat) (h : k < D.length) : num (D.take (k + 1)) = 2 * num (D.take k) + D[k] := by
  rw [List.take_succ_eq_append_getElem h, num_snoc]
theorem num_small {D : List Nat} (h : Bin D) (k : Nat) (hk : k ≤ 8) : num (D.take k) < 256 := by
  have h5 := num_lt (l := D.take k) (fun d hd => h d (List.mem_of_mem_take hd))
  have h6 : 2 ^ (D.take k).length ≤ 2 ^ 8 := Nat.pow_le_pow_right (by omega) (by simp; omega)
  rw [show (2 : Nat) ^ 8 = 256 from by decide] at h6
  omega

set_option maxRecDepth 100000 in
set_option maxHeartbeats 2000000 in
theorem refText_any (l : List Nat) (A : Option Addr) (n c : Nat) (w : World) (hn : l.length = n) (hl : n ≤ 1099511627776) (hr : Reads w w.heap.size 1 A n (bcs l)) (hbin : Bin l) :
    Calls Try.prog 19 #[.slice A n c] w fun e w' => e = .returned (.string ⟨(text l).toArray⟩) ∧ Below w.heap.size w w' := by
  obtain ⟨i0, hi, hz0, hz1, hz2⟩ := info_parts tbyte_info
  have hni : (n : Int) ≤ 1099511627776 := by omega
  have Hcell : Hid (0 < n → ∃ b off, A = some ⟨b, off, none⟩ ∧ b < w.heap.size ∧ ∀ k, (hk : k < l.length) → w.cell? ⟨b, off + k, none⟩ = some (.int .i64 (l[k] : Int))) := Lib.hid fun h => reads_at hr h
  have Hn := Lib.hid hn
  have Hbin := Lib.hid hbin
  have Hsmall : Hid (∀ i k, k ≤ 8 → num ((eight l i).take k) < 256) := Lib.hid fun i k hk => num_small (eight_bin hbin i) k hk
  have Hlen : Hid (∀ k, (text (l.take k)).length ≤ 1099511627780) := Lib.hid fun k => by rw [text_length, List.length_take]; omega
  clear hn hbin hr hl
  go_enter Try.func19, Try.ntmps19
  go_wp2
  go_loopw [3, 4] (fun v i wr => ∃ q : Nat, 8 * q ≤ n + 7 ∧ i = .int .i64 ((8 * q : Nat) : Int) ∧ Hid (wr.ownsRow w.heap.size 5 1 v (text (l.take (8 * q))).length (bc (text (l.take (8 * q)))).toList) ∧ Hid (Below w.heap.size w wr)) (fun _ i _ => n + 8 - (intOf i).toNat)
  case atStart => exact ⟨0, by omega, rfl, Lib.hid (by simpa [text_nil, bc] using World.ownsRow_nil w w.heap.size 5 1), Lib.hid (Below.refl _ _)⟩
  case round =>
    obtain ⟨q, hq, rfl, Hown, Hb⟩ := hrel
    by_cases hlt : 8 * q < n
    · have hqi : ((8 * q : Nat) : Int) < n := by omega
      have hqb : ((8 * q : Nat) : Int) ≤ 1099511627776 := by omega
      have hnext := text_next l q (by rw [Hn.out]; exact hlt)
      have Hnext := Lib.hid hnext
      have Hq := Lib.hid hq
      clear hnext hq
      generalize hi8 : 8 * q = i at *
      have Hi8 := Lib.hid hi8
      clear hi8
      obtain ⟨b, off, rfl, hb, hc⟩ := Hcell.out (by omega)
      have Hc := Lib.hid hc
      clear hc
      go_wp2
      go_loop [5, 6] (fun x j => ∃ k X : Nat, k ≤ 8 ∧ j = .int .i64 k ∧ x = .int .i64 X ∧ Hid (X = num ((eight l i).take k))) (fun _ j => 8 - (intOf j).toNat)
      case atStart => exact ⟨0, 0, by omega, rfl, rfl, rfl⟩
      case round =>
        obtain ⟨k, X, hk, rfl, rfl, HX⟩ := hrel
        by_cases hk8 : k < 8
        · have hki : (k : Int) < 8 := by omega
          have hX : (X : Int) ≤ 255 := by have h7 := Hsmall.out i k hk; have h8 := HX.out; omega
          have Hnum := Lib.hid (num_next (eight l i) k (by rw [eight_length]; exact hk8))
          by_cases hin : i + k < n
          · have hkl : i + k < l.length := by rw [Hn.out]; exact hin
            have x1 := (Hb.out.cell (p := ⟨b, off + (i + k), none⟩) hb).trans (Hc.out (i + k) hkl)
            have hkn : 0 ≤ (i : Int) + k ∧ (i : Int) + k < n := by omega
            have He := Lib.hid (eight_in l i k hk8 hkl)
            have hd1 : (l[i + k] : Int) ≤ 1 := by have := Hbin.out _ (List.getElem_mem hkl); omega
            generalize l[i + k] = d at *
            clear hkl hin
            go_wp2
            go_round
            case rel =>
              have h7 := Hnum.out
              rw [← HX.out, He.out] at h7
              exact ⟨k + 1, 2 * X + d, by omega, iv (by omega), iv (by omega), Lib.hid h7.symm⟩
            case measure => simp only [intOf]; omega
          · have hkn : ¬ (i : Int) + k < n := by omega
            have He := Lib.hid (eight_out l i k hk8 (by rw [Hn.out]; omega))
            clear hin
            go_wp2
            go_round
            case rel =>
              have h7 := Hnum.out
              rw [← HX.out, He.out] at h7
              exact ⟨k + 1, 2 * X, by omega, iv (by omega), iv (by omega), Lib.hid h7.symm⟩
            case measure => simp only [intOf]; omega
        · obtain rfl : k = 8 := by omega
          have hX : (X : Int) ≤ 255 := by have h7 := Hsmall.out i 8 hk; have h8 := HX.out; omega
          have hXe : X = num (eight l i) := by have := HX.out; rwa [List.take_of_length_le (by rw [eight_length]; omega)] at this
          have HXe := Lib.hid hXe
          clear hXe
          have hszr := Hb.out.size
          go_wp2_with (at_builtin; refine wpList_append_sep _ rfl _ _ 37 rfl w.heap.size 5 i0 (.int .u8 0) 1 1 Try.underlying37 hi hz0 hz1 hz2 rfl (by decide) _ _ _ rfl (Hown.out.alloc _) _ 1 1 _ _ rfl (reads_new wr 5 _ 1 1 rfl) ?c1 ?c2 ?c3 ?c4 ?_)
          case c1 => exact rfl
          case c2 => have := Hlen.out i; unfold maxLen; omega
          case c3 => have := Hlen.out i; omega
          case c4 => first | omega | (simp; omega)
          intro v2 w2 hown2 hgrow hsep
          have hb2 : Below w.heap.size w w2 := (Hb.out.trans ((Below.refl _ _).alloc hszr _)).grown hgrow (by simp; omega) (fun g hg => (Hown.out.lt g hg).1)
          have hx8 : ((UInt8.ofNat (num (eight l i))).toNat : Int) = X := by rw [u8_ofNat _ (by have := hX; have := HXe.out; omega), HXe.out]
          have hown3 : w2.ownsRow w.heap.size 5 1 v2 (text (l.take (8 * (q + 1)))).length (bc (text (l.take (8 * (q + 1))))).toList := by
            rw [Hnext.out, List.length_append, show bc (text (l.take i) ++ [UInt8.ofNat (num (eight l i))]) = (((bc (text (l.take i))).toList ++ [Value.int .u8 ((UInt8.ofNat (num (eight l i))).toNat : Int)]).toArray) from by simp [bc], hx8]
            exact hown2
          have Hown3 := Lib.hid hown3
          have Hb2 := Lib.hid hb2
          clear hown3 hb2 hown2 hgrow hsep hx8
          go_wp2
          go_roundw
          case rel => exact ⟨q + 1, by have := Hi8.out; omega, iv (by have := Hi8.out; omega), Hown3.out, Hb2.out⟩
          case measure => simp only [intOf]; omega
    · have hfin : l.take (8 * q) = l := List.take_of_length_le (by have := Hn.out; omega)
      have hown := Hown.out
      rw [hfin] at hown
      obtain ⟨A', c', rfl, hc', hr'⟩ := owns_cells hown
      have hcv : (convert 37 9 (.slice A' (text l).length c')).run Try.prog wr = .ok (.string ⟨(text l).toArray⟩) wr := run_str_any Try.underlying37 Try.underlying5 Try.underlying9 wr A' c' _ hr'
      have hlti : ¬ ((8 * q : Nat) : Int) < n := by omega
      clear Hown hown hr' hfin
      generalize (text l).length = m at *
      generalize 8 * q = i at *
      generalize hta : (text l).toArray = ta at *
      have Hta := Lib.hid hta
      clear hta
      go_wp2
      go_ret
      exact ⟨by rw [Hta.out]; rfl, Hb.out⟩

/-- A row of fields as cells; what is read of them. -/
theorem fields_at {w : World} {B n : Nat} {A : Option Addr} {l : List (Int × Int)} (hr : Reads w B 2 A n (pairs .i64 l)) (hn : 0 < n) : ∃ b off, A = some ⟨b, off, none⟩ ∧ b < B ∧ ∀ k, (hk : k < l.length) → w.cell? ⟨b, off + k * 2, none⟩ = some (.int .i64 l[k].1) ∧ w.cell? ⟨b, off + k * 2 + 1, none⟩ = some (.int .i64 l[k].2) := by
  obtain ⟨b, off, e, hb, hc⟩ := hr.2 hn
  exact ⟨b, off, e, hb, fun k hk => ⟨hc _ _ (pairs_fst .i64 l k hk), hc _ _ (pairs_snd .i64 l k hk)⟩⟩

/-- A string and an integer, as a call hands them back. -/
def strInt (l : List UInt8) (e : Int) : Value := .tuple #[.string ⟨l.toArray⟩, .int .i64 e]
/-- What Pack answers. -/
def packV (l : List (Int × Int)) : Value := match packF l with
  | some r => strInt (text r) 0
  | none => strInt [] 2
theorem pack_len : ∀ (l : List (Int × Int)) (r : List Nat), packF l = some r → r.length ≤ 32 * l.length ∧ Bin r
  | [], r, h => by
    injection h with h
    subst h
    exact ⟨by simp, bin_nil⟩
  | f :: t, r, h => by
    unfold packF at h
    split at h
    · rename_i hf
      cases hp : packF t with
      | none => rw [hp] at h; cases h
      | some r' =>
        rw [hp] at h
        injection h with h
        subst h
        have := pack_len t r' hp
        refine ⟨?_, (dig_bin _ _).app this.2⟩
        rw [List.length_append, List.length_cons]
        have h1 : (digI f.1 f.2).length ≤ 32 := by unfold digI; rw [dig_length]; have := hf.2.1; omega
        omega
    · cases h
/-- What was packed so far, and what is left. -/
def packOn (acc : List Nat) (l : List (Int × Int)) : Option (List Nat) := (packF l).map (acc ++ ·)
theorem packOn_nil (l : List (Int × Int)) : packOn [] l = packF l := by unfold packOn; cases packF l <;> simp
theorem packOn_yes (acc : List Nat) (f : Int × Int) (t : List (Int × Int)) (h : fits f.1 f.2) : packOn acc (f :: t) = packOn (acc ++ digI f.1 f.2) t := by
  unfold packOn
  rw [packF, if_pos h]
  cases packF t <;> simp
theorem packOn_no (acc : List Nat) (f : Int × Int) (t : List (Int × Int)) (h : ¬ fits f.1 f.2) : packOn acc (f :: t) = none := by
  unfold packOn
  rw [packF, if_neg h]
  rfl
theorem packOn_end (acc : List Nat) : packOn acc [] = some acc := by simp [packOn, packF]

theorem held_next {w' w1 : World} {b o1 o2 : Nat} {x y : Value} (h : w'.cell? ⟨b, o1, none⟩ = some x ∧ w'.cell? ⟨b, o2, none⟩ = some y ∧ b < w'.heap.size) (hb : Below w'.heap.size w' w1) : w1.cell? ⟨b, o1, none⟩ = some x ∧ w1.cell? ⟨b, o2, none⟩ = some y ∧ b < w1.heap.size :=
  ⟨(hb.cell (p := ⟨b, o1, none⟩) h.2.2).trans h.1, (hb.cell (p := ⟨b, o2, none⟩) h.2.2).trans h.2.1, Nat.lt_of_lt_of_le h.2.2 hb.size⟩

set_option maxRecDepth 100000 in
set_option maxHeartbeats 2000000 in
theorem refPack_any (l : List (Int × Int)) (A : Option Addr) (n c : Nat) (w : World) (hn : l.length = n) (hl : n ≤ 1000) (hr : Reads w w.heap.size 2 A n (pairs .i64 l)) (hwf : ∀ f ∈ l, f.1 < 9223372036854775808) :
    Calls Try.prog 9 #[.slice A n c] w fun e w' => e = .returned (packV l) ∧ Below w.heap.size w w' := by
  obtain ⟨i0, hi, hz0, hz1, hz2⟩ := info_parts int_info
  have hni : (n : Int) ≤ 1000 := by omega
  have Hcell := Lib.hid fun h => fields_at hr h
  have Hn := Lib.hid hn
  have Hwf := Lib.hid hwf
  clear hn hwf hr hl
  go_enter Try.func9, Try.ntmps9
  go_wp2
  go_loopw [4, 5] (fun v i wr => ∃ (k : Nat) (acc : List Nat), k ≤ n ∧ i = .int .i64 k ∧ Hid (acc.length ≤ 32 * k ∧ Bin acc) ∧ Hid (packOn acc (l.drop k) = packF l) ∧ Hid (wr.ownsRow w.heap.size 3 1 v acc.length (bcs acc)) ∧ Hid (Below w.heap.size w wr)) (fun _ i _ => n - (intOf i).toNat)
  case atStart => exact ⟨0, [], by omega, rfl, Lib.hid ⟨by simp, bin_nil⟩, Lib.hid (packOn_nil _), Lib.hid (World.ownsRow_nil _ _ _ _), Lib.hid (Below.refl _ _)⟩
  case round =>
    obtain ⟨k, acc, hk, rfl, Hacc, Hp, Hown, Hb⟩ := hrel
    by_cases hlt : k < n
    · have hkl : k < l.length := by rw [Hn.out]; exact hlt
      obtain ⟨b, off, rfl, hb, hc⟩ := Hcell.out (by omega)
      obtain ⟨y1, y2⟩ := hc k hkl
      have x1 := (Hb.out.cell (p := ⟨b, off + k * 2, none⟩) hb).trans y1
      have x2 := (Hb.out.cell (p := ⟨b, off + k * 2 + 1, none⟩) hb).trans y2
      have hdrop : l.drop k = l[k] :: l.drop (k + 1) := List.drop_eq_getElem_cons hkl
      have hki : 0 ≤ (k : Int) ∧ (k : Int) < n := by omega
      have hszr := Hb.out.size
      have hp := Hp.out
      have hwk : l[k].1 < 9223372036854775808 := Hwf.out _ (List.getElem_mem hkl)
      rw [hdrop] at hp
      by_cases hf : fits l[k].1 l[k].2
      · rw [packOn_yes _ _ _ hf] at hp
        have hdg := fun W => refDig_yes l[k].1 l[k].2 W hf
        have hdl : (digI l[k].1 l[k].2).length = l[k].2.toNat := dig_length _ _
        have hd32 : l[k].2.toNat ≤ 32 := by have := hf.2.1; omega
        have Hdb : Hid (Bin (digI l[k].1 l[k].2)) := Lib.hid (dig_bin _ _)
        have Hp2 := Lib.hid hp
        clear hp hc hdrop y1 y2 hwk hf
        generalize l[k].1 = fn at *
        generalize l[k].2 = fw at *
        generalize digI fn fw = D at *
        have Hdl := Lib.hid hdl
        have Hd32 := Lib.hid hd32
        clear hdl hd32 hkl
        generalize fw.toNat = W at *
        have hbl : b < wr.heap.size := by omega
        go_wp2
        go_region_held3 (fun w' => w'.cell? ⟨b, off + k * 2, none⟩ = some (.int .i64 fn) ∧ w'.cell? ⟨b, off + k * 2 + 1, none⟩ = some (.int .i64 fw) ∧ b < w'.heap.size)
          (first | exact held_next (by assumption) hb1 | exact ⟨x1, x2, hbl⟩)
          (first | (go_at_call 15; (with_reducible refine (hdg _).mono ?_); rintro e w1 ⟨g, rfl, hB1, hg1, hb1⟩))
        rename_i hS
        have hb1' : Below wr.heap.size wr w1 := ⟨hb1.os, hb1.tape, hb1.output, hb1.size, hb1.block⟩
        have hDr := blk_reads _ hB1 W (by rw [bcs_length]; exact Hdl.out)
        have hown1 := owns_below Hown.out hb1' (Nat.le_refl _)
        clear hS hB1 hg1 hb1 x1 x2
        have Hb1' := Lib.hid hb1'
        have HDr := Lib.hid hDr
        have Hown1 := Lib.hid hown1
        clear hb1' hDr hown1 hdg
        have hacc := Hacc.out
        have hk1000 : k < 1000 := by omega
        have Hcat := Lib.hid (show acc.length + W ≤ 32 * (k + 1) from by have := Hd32.out; omega)
        have hsz1 := Hb1'.out.size
        clear hacc
        go_wp2_with (at_builtin; refine wpList_append_sep _ rfl _ _ 23 rfl w.heap.size 3 i0 (.int .i64 0) 1 8 Try.underlying23 hi hz0 hz1 hz2 rfl (by decide) _ _ _ rfl Hown1.out _ W W _ _ rfl HDr.out ?c1 ?c2 ?c3 ?c4 ?_)
        case c1 => exact bcs_one _
        case c2 => have := Hcat.out; unfold maxLen; omega
        case c3 => have := Hcat.out; omega
        case c4 => omega
        intro v2 w2 hown2 hgrow hsep
        have hb2 : Below w.heap.size w w2 := (Hb.out.trans (Hb1'.out.mono hszr)).grown hgrow (by omega) (fun g hg => (Hown.out.lt g hg).1)
        have hown3 : w2.ownsRow w.heap.size 3 1 v2 (acc ++ D).length (bcs (acc ++ D)) := by
          rw [List.length_append, Hdl.out, bcs_append]
          exact hown2
        have Hb2 := Lib.hid hb2
        have Hown3 := Lib.hid hown3
        clear hb2 hown3 hown2 hgrow hsep
        go_wp2
        go_roundw
        case rel => exact ⟨k + 1, acc ++ D, by omega, iv (by omega), Lib.hid ⟨by rw [List.length_append, Hdl.out]; exact Hcat.out, Hacc.out.2.app Hdb.out⟩, Hp2.out, Hown3.out, Hb2.out⟩
        case measure => simp only [intOf]; omega
      · rw [packOn_no _ _ _ hf] at hp
        have hdg := fun W => refDig_no l[k].1 l[k].2 W hf hwk
        have hbl : b < wr.heap.size := by omega
        have fin : packV l = strInt [] 2 := by unfold packV; rw [← hp]
        have Fin := Lib.hid fin
        clear hp hc hdrop y1 y2 hf fin
        generalize l[k].1 = fn at *
        generalize l[k].2 = fw at *
        go_wp2
        go_region_held3 (fun w' => w'.cell? ⟨b, off + k * 2, none⟩ = some (.int .i64 fn) ∧ w'.cell? ⟨b, off + k * 2 + 1, none⟩ = some (.int .i64 fw) ∧ b < w'.heap.size)
          (first | exact held_next (by assumption) hb1 | exact ⟨x1, x2, hbl⟩)
          (first | (go_at_call 15; (with_reducible refine (hdg _).mono ?_); rintro e w1 ⟨A1, k1, c1, rfl, hb1⟩))
        have hb1' : Below wr.heap.size wr w1 := ⟨hb1.os, hb1.tape, hb1.output, hb1.size, hb1.block⟩
        clear hb1
        go_wp2
        go_ret2
        exact ⟨by rw [Fin.out]; rfl, Hb.out.trans (hb1'.mono hszr)⟩
    · obtain rfl : k = n := by omega
      have hp := Hp.out
      rw [List.drop_of_length_le (by rw [Hn.out]; omega), packOn_end] at hp
      obtain ⟨A', c', rfl, hc', hr'⟩ := owns_cells Hown.out
      have fin : packV l = strInt (text acc) 0 := by unfold packV; rw [← hp]
      have htx := fun w hr => refText_any acc A' acc.length c' w rfl (by have := Hacc.out.1; omega) hr Hacc.out.2
      have Fin := Lib.hid fin
      have Hr' := Lib.hid hr'
      have Htx := Lib.hid htx
      have hszr := Hb.out.size
      clear fin hr' htx hp Hown
      go_wp2_with (go_at_call 19; refine (Htx.out _ Hr'.out).mono ?_; rintro e w1 ⟨rfl, hb1⟩)
      go_ret2
      exact ⟨by rw [Fin.out]; rfl, Hb.out.trans (hb1.mono hszr)⟩
end Go.Proofs.Ytakkljajoollgaa
