/-
  Layer 20, the document's: New, List (ahead of the code's landing).
-/
import Derived.Test.YtgoahcmgpjacjaaGreatDisB
import Derived.Test.YtgoahcmgpjacjaaGreatDisD
namespace Go.Proofs.YtgoahcmgpjacjaaGreat
set_option linter.unusedSimpArgs false
set_option linter.unusedVariables false
open Go.ChangeShapes Go.WideShapes Go.ChangeAt Go.RowKit Go.Joins Go.Deep
abbrev sfc (s : List UInt8) : List Value := [.string ⟨s.toArray⟩]
theorem sfc_len (s : List UInt8) : (sfc s).length = 1 := rfl
theorem str_info : (Tryz.prog.info? 9).map (fun i => (i.zero, i.size, i.bytes)) = some (some (.string ⟨#[]⟩), 1, 16) := by kernel_rfl
theorem DRow.from {α : Type} {A0 : Option Addr} {f : α → List Value} {m : Nat} {w w1 w' : World} {e : Ending} {l : List α} (h : DRow A0 f m w1 w' e l) (hb : Below w.heap.size w w1) : DRow A0 f m w w' e l := by
  obtain ⟨A, c, h1, h2, h3, h4, h5⟩ := h
  exact ⟨A, c, h1, h2, h3, hb.trans (h4.mono hb.size), h5.mono hb.size (Nat.le_refl _)⟩
abbrev dnone : DAd := ⟨none, none, none, none, 0, 0, 0, 0⟩
theorem dnew_mem (W : World) (c : Int) : DkMem W (dnew c) dnone := ⟨Reads.none_, Reads.none_, Reads.none_, Reads.none_, Nat.le_refl _, Nat.le_refl _, Nat.le_refl _, Nat.le_refl _⟩
set_option maxRecDepth 100000 in
set_option maxHeartbeats 4000000 in
theorem dref_new_any (c : Int) (w : World) : Calls Tryz.prog 7 #[.int .i64 c] w fun e w' => e = .returned (.tuple #[.agg (dkc (dnew c) dnone), .bool (decide (0 ≤ c ∧ c ≤ 10000000))]) ∧ Below w.heap.size w w' := by
  unfold dkc dnew
  dsimp only [List.length_nil]
  by_cases h0 : 0 ≤ c
  · by_cases h1 : c ≤ 10000000
    · rw [decide_eq_true ⟨h0, h1⟩]
      go_enter Tryz.func7, Tryz.ntmps7
      go_wp2
      refine bodyPost_ret (v := .tuple #[.agg #[.slice none 0 0, .slice none 0 0, .slice none 0 0, .slice none 0 0, .int .i64 c, .int .i64 0, .int .i64 0, .bool false], .bool true]) (by simp [results, Tryz.results7, go_sem]) rfl ⟨by simp, by go_grown⟩
    · rw [decide_eq_false (fun h => h1 h.2)]
      go_enter Tryz.func7, Tryz.ntmps7
      go_wp2
      refine bodyPost_ret (v := .tuple #[.agg #[.slice none 0 0, .slice none 0 0, .slice none 0 0, .slice none 0 0, .int .i64 c, .int .i64 0, .int .i64 0, .bool false], .bool false]) (by simp [results, Tryz.results7, go_sem]) rfl ⟨by simp, by go_grown⟩
  · rw [decide_eq_false (fun h => h0 h.1)]
    go_enter Tryz.func7, Tryz.ntmps7
    go_wp2
    refine bodyPost_ret (v := .tuple #[.agg #[.slice none 0 0, .slice none 0 0, .slice none 0 0, .slice none 0 0, .int .i64 c, .int .i64 0, .int .i64 0, .bool false], .bool false]) (by simp [results, Tryz.results7, go_sem]) rfl ⟨by simp, by go_grown⟩
set_option maxRecDepth 100000 in
set_option maxHeartbeats 4000000 in
theorem dref_list_any (D : Dk) (a : DAd) (w : World) (hM : DkMem w D a) (hn : D.dir.length ≤ 1000000) :
    Calls Tryz.prog 36 #[.agg (dkc D a)] w fun e w' => DRow none sfc 1 w w' e (dlistF D) := by
  unfold dlistF dkc
  have hdir := hM.dir
  obtain ⟨fs, dr, sf, cg, cap, ops, arm, dd⟩ := D
  obtain ⟨a1, a2, a3, a4, c1, c2, c3, c4⟩ := a
  dsimp only at hn hdir ⊢
  obtain ⟨n, hl⟩ : ∃ n, dr.length = n := ⟨_, rfl⟩
  rw [hl] at hdir hn ⊢
  have hX0 := Blk.new w 33 #[.slice a1 fs.length c1, .slice a2 n c2, .slice a3 sf.length c3, .slice a4 cg.length c4, .int .i64 cap, .int .i64 ops, .int .i64 arm, .bool dd]
  have hB0 := (Below.refl w.heap.size w).alloc (Nat.le_refl _) (.cells #[.slice a1 fs.length c1, .slice a2 n c2, .slice a3 sf.length c3, .slice a4 cg.length c4, .int .i64 cap, .int .i64 ops, .int .i64 arm, .bool dd] 33)
  have HL := Lib.hid hl
  clear hM hl
  generalize fs.length = n1 at *
  generalize sf.length = n3 at *
  generalize cg.length = n4 at *
  cases dd with
  | true =>
    rw [if_pos rfl]
    clear hdir
    have H0 : Hid (DRow none sfc 1 w (w.alloc (.cells #[.slice a1 n1 c1, .slice a2 n c2, .slice a3 n3 c3, .slice a4 n4 c4, .int .i64 cap, .int .i64 ops, .int .i64 arm, .bool true] 33)) (.returned (.slice none 0 0)) []) := Lib.hid ⟨none, 0, rfl, Nat.le_refl _, Reads.none_, hB0, .inl rfl⟩
    have hc1 := hX0.cell 1
    have hc7 := hX0.cell 7
    simp only [List.getElem?_toArray, List.getElem?_cons_zero, List.getElem?_cons_succ] at hc1 hc7
    clear hX0 hB0
    generalize hw1 : w.alloc (.cells #[.slice a1 n1 c1, .slice a2 n c2, .slice a3 n3 c3, .slice a4 n4 c4, .int .i64 cap, .int .i64 ops, .int .i64 arm, .bool true] 33) = w1 at *
    go_enter Tryz.func36, Tryz.ntmps36
    go_wp2
    go_loopw [3, 4] (fun o i wr => i = .int .i64 0 ∧ o = .slice none 0 0 ∧ wr = w1) (fun _ _ _ => 0)
    case atStart => exact ⟨rfl, rfl, rfl⟩
    case round =>
      obtain ⟨rfl, rfl, hw⟩ := hrel
      subst hw
      by_cases hz : 0 < n
      · have hz1 : (0 : Int) < (n : Int) := by omega
        go_wp2
        go_ret
        exact H0.out
      · have hz1 : ¬ (0 : Int) < (n : Int) := by omega
        go_wp2
        go_ret
        exact H0.out
  | false =>
    rw [if_neg (by decide)]
    obtain ⟨i0, hi, hz0, hz1, hz9⟩ := info_parts str_info
    have HC : Hid (0 < n → ∃ b off, a2 = some ⟨b, off, none⟩ ∧ b < w.heap.size ∧ ∀ i (hi : i < dr.length), w.cell? ⟨b, off + i * 2, none⟩ = some (.string ⟨dr[i].1.toArray⟩) ∧ w.cell? ⟨b, off + i * 2 + 1, none⟩ = some (.int .i64 dr[i].2)) := Lib.hid fun h => ent_cells hdir HL.out h
    clear hdir
    have HX := Lib.hid hX0
    have HB0 := Lib.hid hB0
    clear hX0 hB0
    generalize hw1 : w.alloc (.cells #[.slice a1 n1 c1, .slice a2 n c2, .slice a3 n3 c3, .slice a4 n4 c4, .int .i64 cap, .int .i64 ops, .int .i64 arm, .bool false] 33) = w1 at *
    have H0 : Hid (DOwn 9 sfc 1 w1 w1 (.slice none 0 0) ((dr.take 0).map (·.1))) := Lib.hid ⟨World.ownsRow_nil _ _ _ _, Below.refl _ _⟩
    have hgs : w.heap.size < w1.heap.size := HX.out.lt
    go_enter Tryz.func36, Tryz.ntmps36
    go_wp2
    go_loopw [3, 4] (fun o i wr => ∃ k : Nat, k ≤ n ∧ i = .int .i64 (k : Int) ∧ Hid (DOwn 9 sfc 1 w1 wr o ((dr.take k).map (·.1)))) (fun _ i _ => n - (intOf i).toNat)
    case atStart =>
      exact ⟨0, by omega, rfl, H0⟩
    case round =>
      obtain ⟨k, hk, rfl, HI⟩ := hrel
      have hX := HX.out.below HI.out.below hgs
      have hc1 := hX.cell 1
      have hc7 := hX.cell 7
      simp only [List.getElem?_toArray, List.getElem?_cons_zero, List.getElem?_cons_succ] at hc1 hc7
      clear hX
      by_cases hlt : k < n
      · have hkl : k < dr.length := by have := HL.out; omega
        obtain ⟨b, off, rfl, hb, hcell⟩ := HC.out (by omega)
        obtain ⟨d0, d1⟩ := hcell k hkl
        have hbw := HB0.out.trans (HI.out.below.mono HB0.out.size)
        have y0 := (hbw.cell (p := ⟨b, off + k * 2, none⟩) hb).trans d0
        have hki : (0 : Int) ≤ (k : Int) ∧ (k : Int) < (n : Int) := by omega
        have hnx : Hid ((dr.take (k + 1)).map (·.1) = (dr.take k).map (·.1) ++ [dr[k].1]) := Lib.hid (by rw [List.take_succ_eq_append_getElem hkl, List.map_append]; rfl)
        have hlen : ((dr.take k).map (·.1)).length ≤ 1000000 := by rw [List.length_map, List.length_take]; omega
        clear hcell d0 d1 HC hbw
        generalize dr[k].1 = x at *
        generalize (dr.take k).map (·.1) = L at *
        go_wp2_with (refine wpList_append_own _ rfl _ _ 39 rfl w1.heap.size 9 i0 (.string ⟨#[]⟩) 1 16 Tryz.underlying39 hi hz0 hz1 hz9 rfl (by decide) _ _ _ rfl (HI.out.own.alloc _) ⟨wr.heap.size, 0, none⟩ 1 1 [.string ⟨x.toArray⟩] rfl rfl ?c1 ?c2 ?c3 ?c4 ?c5 ?_)
        case c1 =>
          intro j u hj
          match j, hj with
          | 0, hj => simp at hj; subst hj; simp [Addr.add]
        case c2 =>
          intro u hu
          simp at hu
          subst hu
          rfl
        case c3 => unfold maxLen; omega
        case c4 => omega
        case c5 => have := HI.out.below.size; simp only [World.size_alloc]; omega
        · intro v' w2 hown' hgrow _
          have HI2 : Hid (DOwn 9 sfc 1 w1 w2 v' (L ++ [x])) := Lib.hid ((HI.out.on ((Below.refl _ _).alloc (Nat.le_refl _) _)).add rfl hown' hgrow)
          clear hown' hgrow
          go_wp2
          go_roundw
          case rel => exact ⟨k + 1, by omega, iv (by omega), Lib.hid (by rw [hnx.out]; exact HI2.out)⟩
          case measure => simp only [intOf]; omega
      · obtain rfl : k = n := by omega
        have e : dr.take k = dr := List.take_of_length_le (by have := HL.out; omega)
        rw [e] at HI
        go_wp2
        go_ret
        exact HI.out.row.from HB0.out
end Go.Proofs.YtgoahcmgpjacjaaGreat
