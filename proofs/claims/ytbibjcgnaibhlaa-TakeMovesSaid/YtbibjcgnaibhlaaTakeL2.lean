/-
  For any bytes and any wants: a taker goes on by as many bytes as its pieces have; its place, and what is left, are the bytes together, and the layer's probe holds (TakeMoves). No condition.
-/
import Derived.Test.YtbibjcgnaibhlaaTakeL1
namespace Go.Proofs.Ytbibjcgnaibhlaa
set_option linter.unusedSimpArgs false
set_option linter.unusedVariables false
open Go.ChangeShapes Go.WideShapes Go.ChangeAt Go.RowKit Go.Joins Go.Deep
set_option maxHeartbeats 2000000 in
/-- Beyond the sizes that the statement looks at: the probe alone. -/
theorem takeMoves_far (l : List UInt8) (A : Option Addr) (n c : Nat) (w : World) (h : ¬ n ≤ 200 ∨ 10000 < l.length) :
    Calls Try.prog 4 #[.string ⟨l.toArray⟩, .slice A n c] w fun e w' => e = .returned (.bool true) ∧ Below w.heap.size w w' := by
  by_cases h1 : n ≤ 200
  · have h2 : 10000 < l.length := by omega
    have hf := few_yes A c h1
    clear h
    go_enter Try.func4, Try.ntmps4
    go_wp2_with (first | (go_at_call 7; refine (hf _).mono ?_; rintro e w0 ⟨rfl, rfl⟩) | (go_at_call 8; refine (awake_any _).mono ?_; rintro e w9 ⟨rfl, hb9⟩))
    go_ret
    exact ⟨rfl, hb9⟩
  · have hf := few_no A c h1
    clear h
    go_enter Try.func4, Try.ntmps4
    go_wp2_with (first | (go_at_call 7; refine (hf _).mono ?_; rintro e w0 ⟨rfl, rfl⟩) | (go_at_call 8; refine (awake_any _).mono ?_; rintro e w9 ⟨rfl, hb9⟩))
    go_ret
    exact ⟨rfl, hb9⟩


theorem piece_n1 (l : List UInt8) (p n : Int) : pieceF l p 1 n = pieceF l p 1 0 := rfl
theorem piece_n2 (l : List UInt8) (p n : Int) : pieceF l p 2 n = pieceF l p 2 0 := rfl
theorem piece_n5 (l : List UInt8) (p n : Int) : pieceF l p 5 n = pieceF l p 5 0 := rfl
theorem piece_n6 (l : List UInt8) (p n : Int) : pieceF l p 6 n = pieceF l p 6 0 := rfl

set_option maxHeartbeats 4000000 in
/-- Where the pieces have a fault: the probe alone. -/
theorem takeMoves_fault (l : List UInt8) (A : Option Addr) (n c : Nat) (ws : List (Int × Int)) (w : World) (hn : ws.length = n) (h1 : n ≤ 200) (h2 : l.length ≤ 10000) (hr : Reads w w.heap.size 2 A n (pairs .i64 ws)) (gs : List (Int × List UInt8)) (q e : Int) (hR : runF l 0 ws = (gs, q, e)) (he : e ≠ 0) :
    Calls Try.prog 4 #[.string ⟨l.toArray⟩, .slice A n c] w fun e w' => e = .returned (.bool true) ∧ Below w.heap.size w w' := by
  have hf := few_yes A c h1
  have href := fun w0 hr0 => refRun_any l A n c ws w0 (by omega) hn (by omega) hr0 _ hR
  have hen : ¬ e = 0 := he
  have Hr := Lib.hid hr
  clear hn hr hR he
  go_enter Try.func4, Try.ntmps4
  go_wp2_with (first
    | (go_at_call 7; refine (hf _).mono ?_; rintro e w0 ⟨rfl, rfl⟩)
    | (go_at_call 10; refine (href _ Hr.out).mono ?_; rintro e w2 ⟨A2, c2, rfl, hr2, hb2⟩; have Hb2 := Lib.hid hb2; have Hr2 := Lib.hid hr2; clear hr2 hb2)
    | (go_at_call 8; refine (awake_any _).mono ?_; rintro e w9 ⟨rfl, hb9⟩))
  go_ret
  exact ⟨rfl, Hb2.out.trans (hb9.mono Hb2.out.size)⟩

set_option maxRecDepth 100000 in
set_option maxHeartbeats 20000000 in
theorem takeMoves_near (l : List UInt8) (A : Option Addr) (n c : Nat) (ws : List (Int × Int)) (w : World) (hn : ws.length = n) (h1 : n ≤ 200) (h2 : l.length ≤ 10000) (hr : Reads w w.heap.size 2 A n (pairs .i64 ws)) (gs : List (Int × List UInt8)) (Q : Int) (hR : runF l 0 ws = (gs, Q, 0)) :
    Calls Try.prog 4 #[.string ⟨l.toArray⟩, .slice A n c] w fun e w' => e = .returned (.bool true) ∧ Below w.heap.size w w' := by
  have hf := few_yes A c h1
  have href := fun w0 hr0 => refRun_any l A n c ws w0 (by omega) hn (by omega) hr0 _ hR
  have Hn := Lib.hid hn
  have Hr := Lib.hid hr
  have HR := Lib.hid hR
  clear hn hr hR
  go_enter Try.func4, Try.ntmps4
  go_wp2_with (first
    | (go_at_call 7; refine (hf _).mono ?_; rintro e w0 ⟨rfl, rfl⟩)
    | (go_at_call 10; refine (href _ Hr.out).mono ?_; rintro e w2 ⟨A2, c2, rfl, hr2, hb2⟩; have Hb2 := Lib.hid hb2; clear hr2 hb2)
    | (go_at_call 12; refine (new_any _ _).mono ?_; rintro e w3 ⟨rfl, rfl⟩))
  have HB0 := Lib.hid (Blk.new w2 53 #[.string ⟨l.toArray⟩, .int .i64 0])
  have HBe0 : Hid (Below w.heap.size w (w2.alloc (.cells #[.string ⟨l.toArray⟩, .int .i64 0] 53))) := Lib.hid (Hb2.out.alloc Hb2.out.size _)
  have Hg : Hid (w.heap.size ≤ w2.heap.size) := Lib.hid Hb2.out.size
  clear Hb2 href hf
  generalize w2.alloc (.cells #[.string ⟨l.toArray⟩, .int .i64 0] 53) = X at HB0 HBe0 ⊢
  generalize w2.heap.size = g at HB0 Hg ⊢
  go_loopw [9, 10] (fun a i wr => ∃ (k : Nat) (q : Int), k ≤ n ∧ i = .int .i64 k ∧ a = .int .i64 q ∧ Hid (Blk wr g 53 #[.string ⟨l.toArray⟩, .int .i64 q]) ∧ Hid (Below w.heap.size w wr) ∧ Hid (0 ≤ q ∧ q ≤ l.length) ∧ Hid (∃ gs', runF l q (ws.drop k) = (gs', Q, 0))) (fun _ i _ => n - (intOf i).toNat)
  case atStart => exact ⟨0, 0, by omega, rfl, rfl, HB0.out, HBe0.out, ⟨Int.le_refl _, by omega⟩, ⟨gs, HR.out⟩⟩
  case round =>
    obtain ⟨k, q, hk, rfl, rfl, HB, HBe, Hq, Hrest⟩ := hrel
    by_cases hlt : k < n
    · have hkw : k < ws.length := by have := Hn.out; omega
      obtain ⟨b, off, rfl, hb, hcl⟩ := Hr.out.2 (by omega)
      have x1 : wr.cell? ⟨b, off + k * 2, none⟩ = some (.int .i64 ws[k].1) := (HBe.out.cell (p := ⟨b, off + k * 2, none⟩) hb).trans (hcl _ _ (pairs_fst .i64 ws k hkw))
      have x2 : wr.cell? ⟨b, off + k * 2 + 1, none⟩ = some (.int .i64 ws[k].2) := (HBe.out.cell (p := ⟨b, off + (k * 2 + 1), none⟩) hb).trans (hcl _ _ (pairs_snd .i64 ws k hkw))
      have hdrop : ws.drop k = ws[k] :: ws.drop (k + 1) := List.drop_eq_getElem_cons hkw
      have hnk : (k : Int) < n := by omega
      obtain ⟨gs', hgs⟩ := Hrest.out
      rw [hdrop] at hgs
      have hl2 : l.length ≤ 4611686018427387904 := by omega
      obtain ⟨hq0, hq1⟩ := Hq.out
      clear hcl hdrop Hrest Hr HR
      generalize ws[k] = want at *
      obtain ⟨kd, nn⟩ := want
      simp only at x1 x2
      obtain ⟨x, s, q', e, hpc⟩ : ∃ x s q' e, pieceF l q kd nn = ((x, s), q', e) := ⟨_, _, _, _, rfl⟩
      have he : e = 0 := by
        by_cases he : e = 0
        · exact he
        · rw [runF_no (by rw [hpc]; exact he), hpc] at hgs
          simp only [Prod.mk.injEq] at hgs
          exact hgs.2.2
      subst he
      rw [runF_ok (by rw [hpc]), hpc] at hgs
      have Hnext : Hid (∃ gs', runF l q' (ws.drop (k + 1)) = (gs', Q, 0)) := Lib.hid ⟨(runF l q' (ws.drop (k + 1))).1, by
        simp only [Prod.mk.injEq] at hgs
        rw [← hgs.2]⟩
      have hqq := pieceF_ok (l := l) (p := q) (k := kd) (n := nn) (by rw [hpc]) hq0 hq1
      rw [hpc] at hqq
      simp only at hqq
      have hq1' : q' ≤ l.length := hqq.2
      have hqle : ¬ q' < q := by omega
      have hq0' : 0 ≤ q' := by omega
      have hsum : (q' + ((l.length : Int) - q') != (l.length : Int)) = false := by rw [show q' + ((l.length : Int) - q') = l.length from by omega]; simp
      clear hqq hgs
      by_cases k1 : kd = 1
      · subst k1
        have hc := byte_ok l q g wr hl2 hq0 hq1 HB.out x s q' hpc
        go_wp2_with (first
          | (go_at_call 13; refine hc.mono ?_; rintro e w1 ⟨rfl, h1, h2⟩)
          | (go_at_call 19; (with_reducible refine (at_any l q' g _ h2).mono ?_); rintro e w0 ⟨rfl, rfl⟩)
          | (go_at_call 19; (with_reducible refine (at_any l q' g _ (h2.drewN _)).mono ?_); rintro e w0 ⟨rfl, rfl⟩)
          | (go_at_call 20; (with_reducible refine (left_any l q' g _ hl2 hq0' hq1' h2).mono ?_); rintro e w0 ⟨rfl, m, rfl⟩))
        go_roundw
        case rel => exact ⟨k + 1, q', by omega, iv (by omega), rfl, h2.drewN _, below_drewN (HBe.out.trans (below_grow h1 Hg.out HBe.out.size)) _, ⟨hq0', hq1'⟩, Hnext.out⟩
        case measure => simp [intOf]; omega
      by_cases k2 : kd = 2
      · subst k2
        have hc := num_ok l q g wr hl2 hq0 hq1 HB.out x s q' hpc
        go_wp2_with (first
          | (go_at_call 14; refine hc.mono ?_; rintro e w1 ⟨rfl, h1, h2⟩)
          | (go_at_call 19; (with_reducible refine (at_any l q' g _ h2).mono ?_); rintro e w0 ⟨rfl, rfl⟩)
          | (go_at_call 19; (with_reducible refine (at_any l q' g _ (h2.drewN _)).mono ?_); rintro e w0 ⟨rfl, rfl⟩)
          | (go_at_call 20; (with_reducible refine (left_any l q' g _ hl2 hq0' hq1' h2).mono ?_); rintro e w0 ⟨rfl, m, rfl⟩))
        go_roundw
        case rel => exact ⟨k + 1, q', by omega, iv (by omega), rfl, h2.drewN _, below_drewN (HBe.out.trans (below_grow h1 Hg.out HBe.out.size)) _, ⟨hq0', hq1'⟩, Hnext.out⟩
        case measure => simp [intOf]; omega
      by_cases k3 : kd = 3
      · subst k3
        have hc := fix_ok l q g wr hl2 hq0 hq1 HB.out nn x s q' hpc
        go_wp2_with (first
          | (go_at_call 15; refine hc.mono ?_; rintro e w1 ⟨rfl, h1, h2⟩)
          | (go_at_call 19; (with_reducible refine (at_any l q' g _ h2).mono ?_); rintro e w0 ⟨rfl, rfl⟩)
          | (go_at_call 19; (with_reducible refine (at_any l q' g _ (h2.drewN _)).mono ?_); rintro e w0 ⟨rfl, rfl⟩)
          | (go_at_call 20; (with_reducible refine (left_any l q' g _ hl2 hq0' hq1' h2).mono ?_); rintro e w0 ⟨rfl, m, rfl⟩))
        go_roundw
        case rel => exact ⟨k + 1, q', by omega, iv (by omega), rfl, h2.drewN _, below_drewN (HBe.out.trans (below_grow h1 Hg.out HBe.out.size)) _, ⟨hq0', hq1'⟩, Hnext.out⟩
        case measure => simp [intOf]; omega
      by_cases k4 : kd = 4
      · subst k4
        have hc := text_ok l q g wr hl2 hq0 hq1 HB.out nn x s q' hpc
        go_wp2_with (first
          | (go_at_call 16; refine hc.mono ?_; rintro e w1 ⟨rfl, h1, h2⟩)
          | (go_at_call 19; (with_reducible refine (at_any l q' g _ h2).mono ?_); rintro e w0 ⟨rfl, rfl⟩)
          | (go_at_call 19; (with_reducible refine (at_any l q' g _ (h2.drewN _)).mono ?_); rintro e w0 ⟨rfl, rfl⟩)
          | (go_at_call 20; (with_reducible refine (left_any l q' g _ hl2 hq0' hq1' h2).mono ?_); rintro e w0 ⟨rfl, m, rfl⟩))
        go_roundw
        case rel => exact ⟨k + 1, q', by omega, iv (by omega), rfl, h2.drewN _, below_drewN (HBe.out.trans (below_grow h1 Hg.out HBe.out.size)) _, ⟨hq0', hq1'⟩, Hnext.out⟩
        case measure => simp [intOf]; omega
      by_cases k5 : kd = 5
      · subst k5
        have hc := rest_ok l q g wr hl2 hq0 hq1 HB.out x s q' hpc
        go_wp2_with (first
          | (go_at_call 17; refine hc.mono ?_; rintro e w1 ⟨rfl, h1, h2⟩)
          | (go_at_call 19; (with_reducible refine (at_any l q' g _ h2).mono ?_); rintro e w0 ⟨rfl, rfl⟩)
          | (go_at_call 19; (with_reducible refine (at_any l q' g _ (h2.drewN _)).mono ?_); rintro e w0 ⟨rfl, rfl⟩)
          | (go_at_call 20; (with_reducible refine (left_any l q' g _ hl2 hq0' hq1' h2).mono ?_); rintro e w0 ⟨rfl, m, rfl⟩))
        go_roundw
        case rel => exact ⟨k + 1, q', by omega, iv (by omega), rfl, h2.drewN _, below_drewN (HBe.out.trans (below_grow h1 Hg.out HBe.out.size)) _, ⟨hq0', hq1'⟩, Hnext.out⟩
        case measure => simp [intOf]; omega
      by_cases k6 : kd = 6
      · subst k6
        have hc := end_ok l q g wr hl2 hq0 hq1 HB.out x s q' hpc
        go_wp2_with (first
          | (go_at_call 18; refine hc.mono ?_; rintro e w1 ⟨rfl, h1, h2⟩)
          | (go_at_call 19; (with_reducible refine (at_any l q' g _ h2).mono ?_); rintro e w0 ⟨rfl, rfl⟩)
          | (go_at_call 19; (with_reducible refine (at_any l q' g _ (h2.drewN _)).mono ?_); rintro e w0 ⟨rfl, rfl⟩)
          | (go_at_call 20; (with_reducible refine (left_any l q' g _ hl2 hq0' hq1' h2).mono ?_); rintro e w0 ⟨rfl, m, rfl⟩))
        go_roundw
        case rel => exact ⟨k + 1, q', by omega, iv (by omega), rfl, h2.drewN _, below_drewN (HBe.out.trans (below_grow h1 Hg.out HBe.out.size)) _, ⟨hq0', hq1'⟩, Hnext.out⟩
        case measure => simp [intOf]; omega
      exfalso
      unfold pieceF at hpc
      rw [if_neg k1, if_neg k2, if_neg k3, if_neg k4, if_neg k5, if_neg k6] at hpc
      simp at hpc
    · obtain rfl : k = n := by omega
      obtain ⟨gs', hgs⟩ := Hrest.out
      rw [List.drop_of_length_le (by have := Hn.out; omega)] at hgs
      have hQ : q = Q := by simp [runF] at hgs; exact hgs.2
      subst hQ
      clear hgs
      go_wp2_with (go_at_call 8; refine (awake_any _).mono ?_; rintro e w9 ⟨rfl, hb9⟩)
      go_ret
      exact ⟨rfl, HBe.out.trans (hb9.mono HBe.out.size)⟩

theorem takeMoves_walk (l : List UInt8) (A : Option Addr) (n c : Nat) (ws : List (Int × Int)) (w : World) (hn : ws.length = n) (hr : Reads w w.heap.size 2 A n (pairs .i64 ws)) :
    Calls Try.prog 4 #[.string ⟨l.toArray⟩, .slice A n c] w fun e w' => e = .returned (.bool true) ∧ Below w.heap.size w w' := by
  by_cases h : ¬ n ≤ 200 ∨ 10000 < l.length
  · exact takeMoves_far l A n c w h
  · obtain ⟨gs, q, e, hR⟩ : ∃ gs q e, runF l 0 ws = (gs, q, e) := ⟨_, _, _, rfl⟩
    by_cases he : e = 0
    · subst he
      exact takeMoves_near l A n c ws w hn (by omega) (by omega) hr gs q hR
    · exact takeMoves_fault l A n c ws w hn (by omega) (by omega) hr gs q e hR he

namespace TakeMoves
set_option maxRecDepth 100000 in
theorem lifted (os : Os) (started : os.Started) (H : Type) (enc : TypeId × Value → H) :
    ReturnsInHanded {} Try.checked os 4 .any (Rows.takeMovesSpec.pre6 enc Try.prog Try.f4 Rows.takeMovesRow.domain false) (Rows.takeMovesSpec.post enc Try.prog Try.f4 false true false false) := by
  refine law_sized (C := Try.checked) (tb := 4) ownP started (by kernel_rfl) Try.func4
    (ChangeSpec.witness6 (enc := enc) (C := Try.checked) false ⟨#[], #[.string ⟨#[]⟩, .slice none 0 0], []⟩ 8 (by kernel_rfl) (by kernel_rfl) (by kernel_rfl) (by kernel_rfl))
    laidP (by kernel_rfl) rfl (by kernel_rfl) Try.underlying4 (by intro ds h; match ds, h with | [_, _], _ => rfl) ?_
  intro W base args ds p hval0 hA0 hlt _
  have hval : ∀ (j : Nat) t v, Try.f4.params[j]? = some t → args[j]? = some v → Value.okWide Try.prog W .any base t v := hval0
  have hA : DataW.TrodAll enc Try.prog W 0 (fun _ => true) true Try.f4.params.toList args.toList ds p := hA0
  rw [Try.params4] at hA hval
  obtain ⟨v0, v1, d0, d1, p0, p1, rfl, rfl, rfl, h0, h1⟩ := trodAll_two hA
  obtain ⟨l, rfl, rfl⟩ := open_bytes Try.underlying9 (hval 0 9 v0 rfl rfl) h0
  obtain ⟨Aws, nws, cws, ws, rfl, ews, hnws, hmws, hrws, hbws⟩ := open_pair_slice Try.underlying22 Try.underlying36 (by kernel_rfl) rfl rfl (by kernel_rfl) (by kernel_rfl) Try.underlying3 Try.underlying3 (hval 1 22 v1 rfl rfl) h1
  exact takeMoves_walk l Aws nws cws ws W ews hrws

theorem holds : Rows.TakeMovesSaid :=
  OpenClaim.holds_of_wide 4 Try.f4 rfl rfl rfl rfl rfl rfl rfl ⟨rfl, rfl, rfl, rfl, rfl⟩ rfl rfl rfl rfl rfl (by kernel_rfl) Try.func4 (by kernel_rfl)
    (of_decide_eq_true (by kernel_rfl)) (by unfold Func.isWrapper; first | (rw [if_pos (by decide +kernel)]; kernel_rfl) | (rw [if_neg (by decide +kernel)]; exact ⟨rfl, rfl⟩))
    (fun os started H enc _ => lifted os started H enc)
end TakeMoves
end Go.Proofs.Ytbibjcgnaibhlaa
