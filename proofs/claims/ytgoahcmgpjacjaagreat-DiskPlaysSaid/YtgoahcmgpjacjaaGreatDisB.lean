/-
  Layer 20, the document's: Without, Find, Used (ahead of the code's landing).
-/
import Derived.Test.YtgoahcmgpjacjaaGreatDisA
import Derived.Deep.QuietTactic
import Derived.BigQuiet
namespace Go.Proofs.YtgoahcmgpjacjaaGreat
set_option linter.unusedSimpArgs false
set_option linter.unusedVariables false
open Go.ChangeShapes Go.WideShapes Go.ChangeAt Go.RowKit Go.Joins Go.Deep
theorem dwout_snoc (l : List Ent) (s : List UInt8) (k : Nat) (h : k < l.length) : dwout (l.take (k + 1)) s = if l[k].1 = s then dwout (l.take k) s else dwout (l.take k) s ++ [l[k]] := by
  unfold dwout
  rw [List.take_succ_eq_append_getElem h, List.filter_append]
  by_cases h1 : l[k].1 = s
  · rw [if_pos h1, List.filter_cons, if_neg (by simp [h1]), List.filter_nil, List.append_nil]
  · rw [if_neg h1, List.filter_cons, if_pos (by simp [h1]), List.filter_nil]
theorem dwout_len (l : List Ent) (s : List UInt8) : (dwout l s).length ≤ l.length := List.length_filter_le ..
set_option maxRecDepth 100000 in
set_option maxHeartbeats 4000000 in
theorem dref_wout_any (l : List Ent) (s : List UInt8) (A : Option Addr) (n c : Nat) (w : World) (hl : l.length = n) (hn : n ≤ 1000000) (hr : Reads w w.heap.size 2 A n (dcs efc l)) :
    Calls Tryz.prog 77 #[.slice A n c, .string ⟨s.toArray⟩] w fun e w' => DRow none efc 2 w w' e (dwout l s) := by
  obtain ⟨i0, hi, hz0, hz1, hz9⟩ := info_parts ent_info
  have hC : 0 < n → ∃ b off, A = some ⟨b, off, none⟩ ∧ b < w.heap.size ∧ ∀ i (hi : i < l.length), w.cell? ⟨b, off + i * 2, none⟩ = some (.string ⟨l[i].1.toArray⟩) ∧ w.cell? ⟨b, off + i * 2 + 1, none⟩ = some (.int .i64 l[i].2) := fun h => ent_cells hr hl h
  have HC := Lib.hid hC
  have HL := Lib.hid hl
  have H0 : Hid (DOwn 94 efc 2 w w (.slice none 0 0) (dwout (l.take 0) s)) := Lib.hid ⟨World.ownsRow_nil _ _ _ _, Below.refl _ _⟩
  clear hC hr hl
  go_enter Tryz.func77, Tryz.ntmps77
  go_wp2
  go_loopw [5, 6] (fun o i wr => ∃ k : Nat, k ≤ n ∧ i = .int .i64 (k : Int) ∧ Hid (DOwn 94 efc 2 w wr o (dwout (l.take k) s))) (fun _ i _ => n - (intOf i).toNat)
  case atStart => exact ⟨0, by omega, rfl, H0⟩
  case round =>
    obtain ⟨k, hk, rfl, HI⟩ := hrel
    by_cases hlt : k < n
    · have hkl : k < l.length := by have := HL.out; omega
      obtain ⟨b, off, rfl, hb, hcell⟩ := HC.out (by omega)
      obtain ⟨d0, d1⟩ := hcell k hkl
      have c0 := (HI.out.below.cell (p := ⟨b, off + k * 2, none⟩) hb).trans d0
      have c1 := (HI.out.below.cell (p := ⟨b, off + k * 2 + 1, none⟩) hb).trans d1
      have hki : (0 : Int) ≤ (k : Int) ∧ (k : Int) < (n : Int) := by omega
      have hnx := Lib.hid (dwout_snoc l s k hkl)
      have hlen : (dwout (l.take k) s).length ≤ 1000000 := by have := dwout_len (l.take k) s; rw [List.length_take] at this; omega
      by_cases h1 : l[k].1 = s
      · rw [if_pos h1] at hnx
        rw [h1] at c0
        clear hcell d0 d1 HC h1
        go_wp2
        go_roundw
        case rel => exact ⟨k + 1, by omega, iv (by omega), Lib.hid (by rw [hnx.out]; exact HI.out)⟩
        case measure => simp only [intOf]; omega
      · rw [if_neg h1] at hnx
        have hq : (l[k].1 == s) = false := by rw [beq_eq_false_iff_ne]; exact h1
        have hq2 : (l[k].1 != s) = true := by rw [bne_iff_ne]; exact h1
        clear hcell d0 d1 HC h1
        generalize l[k] = e at *
        obtain ⟨x, y⟩ := e
        dsimp only at hq hq2 c0 c1
        go_wp2_with (refine wpList_append_own _ rfl _ _ 30 rfl w.heap.size 94 i0 (.agg #[.string ⟨#[]⟩, .int .i64 0]) 2 24 Tryz.underlying30 hi hz0 hz1 hz9 rfl (by decide) _ _ _ rfl (HI.out.own.alloc _) ⟨wr.heap.size, 0, none⟩ 1 1 [.string ⟨x.toArray⟩, .int .i64 y] rfl rfl ?c1 ?c2 ?c3 ?c4 ?c5 ?_)
        case c1 =>
          intro j u hj
          match j, hj with
          | 0, hj => simp at hj; subst hj; simp [Addr.add]
          | 1, hj => simp at hj; subst hj; simp [Addr.add]
        case c2 =>
          intro u hu
          simp at hu
          rcases hu with rfl | rfl <;> rfl
        case c3 => unfold maxLen; omega
        case c4 => omega
        case c5 => have := HI.out.below.size; simp only [World.size_alloc]; omega
        · intro v' w2 hown' hgrow _
          have HI2 : Hid (DOwn 94 efc 2 w w2 v' (dwout (l.take k) s ++ [(x, y)])) := Lib.hid ((HI.out.on ((Below.refl _ _).alloc (Nat.le_refl _) _)).add rfl hown' hgrow)
          clear hown' hgrow
          go_wp2
          go_roundw
          case rel => exact ⟨k + 1, by omega, iv (by omega), Lib.hid (by rw [hnx.out]; exact HI2.out)⟩
          case measure => simp only [intOf]; omega
    · obtain rfl : k = n := by omega
      have e : l.take k = l := List.take_of_length_le (by have := HL.out; omega)
      rw [e] at HI
      go_wp2
      go_ret
      exact HI.out.row
end Go.Proofs.YtgoahcmgpjacjaaGreat
