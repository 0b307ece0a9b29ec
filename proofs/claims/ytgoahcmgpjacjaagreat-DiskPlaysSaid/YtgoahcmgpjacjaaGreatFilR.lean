/-
  Layer 19, the document's: Append, Sync, Cut, Left, Fall (ahead of the code's landing).
-/
import Derived.Test.YtgoahcmgpjacjaaGreatGb
import Derived.Test.YtgoahcmgpjacjaaGreatRows
import Derived.Test.YtgoahcmgpjacjaaGreatGa
import Derived.Deep.QuietTactic
import Derived.BigQuiet
import Derived.RegionTactic
import Derived.ChangeAlike
import Derived.Deep.DeepCutAuto
namespace Go.Proofs.YtgoahcmgpjacjaaGreat
set_option linter.unusedSimpArgs false
set_option linter.unusedVariables false
open Go.ChangeShapes Go.WideShapes Go.ChangeAt Go.RowKit Go.Joins Go.Deep
theorem fl_head (l : List UInt8) (p : Nat) (hp : p ≤ l.length) (w : World) : (Instr.slice 9 (.string ⟨l.toArray⟩) none (some (.int .i64 (p : Int))) none).run Tryz.prog w = .ok (.string ⟨(l.take p).toArray⟩) w := by
  rw [run_slice_string_h w 9 ⟨l.toArray⟩ Tryz.underlying9 .i64 (p : Int) (by omega) (by rw [ByteArray.size_mk', List.size_toArray]; omega), ByteArray.extract_mk, List.drop_zero, Nat.sub_zero, Int.toNat_natCast]
theorem fl_tail (l : List UInt8) (p : Nat) (hp : p ≤ l.length) (w : World) : (Instr.slice 9 (.string ⟨l.toArray⟩) (some (.int .i64 (p : Int))) none none).run Tryz.prog w = .ok (.string ⟨(l.drop p).toArray⟩) w := by
  rw [run_slice_string_l w 9 ⟨l.toArray⟩ Tryz.underlying9 .i64 (p : Int) (by omega) (by rw [ByteArray.size_mk', List.size_toArray]; omega), ByteArray.extract_mk, ByteArray.size_mk', List.size_toArray, Int.toNat_natCast, List.take_of_length_le (by rw [List.length_drop]; omega)]
theorem fl_part (l : List UInt8) (p q : Nat) (hn : p ≤ q) (hl : q ≤ l.length) (w : World) : (Instr.slice 9 (.string ⟨l.toArray⟩) (some (.int .i64 (p : Int))) (some (.int .i64 (q : Int))) none).run Tryz.prog w = .ok (.string ⟨((l.drop p).take (q - p)).toArray⟩) w := by
  rw [run_slice_string w 9 ⟨l.toArray⟩ .i64 .i64 (p : Int) (q : Int) Tryz.underlying9 (by omega) (by omega) (by rw [ByteArray.size_mk', List.size_toArray]; omega), ByteArray.extract_mk, Int.toNat_natCast, Int.toNat_natCast]
theorem fl_add (a b : List UInt8) (h : a.length + b.length ≤ 9223372036854775807) (w : World) : (Op.stringOp .add ⟨a.toArray⟩ ⟨b.toArray⟩).run Tryz.prog w = .ok (.string ⟨(a ++ b).toArray⟩) w := by
  rw [run_string_add_sum w _ _ (by rw [ByteArray.size_mk', ByteArray.size_mk', List.size_toArray, List.size_toArray]; exact h), ByteArray.mk_append_mk]
abbrev flc (f : Fl) : Array Value := #[.string ⟨f.1.toArray⟩, .string ⟨f.2.toArray⟩]
set_option maxRecDepth 100000 in
set_option maxHeartbeats 2000000 in
theorem flref_app_any (a b s : List UInt8) (w : World) (hb : b.length ≤ 1000000000) (hs : s.length ≤ 1000000000) :
    Calls Tryz.prog 58 #[.agg #[.string ⟨a.toArray⟩, .string ⟨b.toArray⟩], .string ⟨s.toArray⟩] w fun e w' => e = .returned (.tuple #[.agg (flc (flappF (a, b) s).1), .int .i64 (flappF (a, b) s).2]) ∧ Below w.heap.size w w' := by
  by_cases h : 1000000 < b.length + s.length
  · rw [show flappF (a, b) s = (([], []), 3) from if_pos h]
    have hi : (1000000 : Int) < (b.length : Int) + (s.length : Int) := by omega
    dsimp only
    go_enter Tryz.func58, Tryz.ntmps58
    go_wp2
    refine bodyPost_ret (v := .tuple #[.agg (flc ([], [])), .int .i64 3]) (by simp [results, Tryz.results58, go_sem]) rfl ⟨rfl, by go_grown⟩
  · rw [show flappF (a, b) s = ((a, b ++ s), 0) from if_neg h]
    have hi : ¬ (1000000 : Int) < (b.length : Int) + (s.length : Int) := by omega
    have hadd := fun W => fl_add b s (by omega) W
    dsimp only
    generalize b ++ s = c at *
    go_enter Tryz.func58, Tryz.ntmps58
    go_wp2
    refine bodyPost_ret (v := .tuple #[.agg (flc (a, c)), .int .i64 0]) (by simp [results, Tryz.results58, go_sem]) rfl ⟨rfl, by go_grown⟩
set_option maxRecDepth 100000 in
set_option maxHeartbeats 2000000 in
theorem flref_sync_any (a b : List UInt8) (w : World) :
    Calls Tryz.prog 62 #[.agg #[.string ⟨a.toArray⟩, .string ⟨b.toArray⟩]] w fun e w' => e = .returned (.agg (flc (b, b))) ∧ Below w.heap.size w w' := by
  go_enter Tryz.func62, Tryz.ntmps62
  go_wp2
  refine bodyPost_ret (v := .agg (flc (b, b))) (by simp [results, Tryz.results62, go_sem]) rfl ⟨rfl, by go_grown⟩
set_option maxRecDepth 100000 in
set_option maxHeartbeats 2000000 in
theorem flref_cut_any (a b : List UInt8) (n : Int) (w : World) :
    Calls Tryz.prog 63 #[.agg #[.string ⟨a.toArray⟩, .string ⟨b.toArray⟩], .int .i64 n] w fun e w' => e = .returned (.tuple #[.agg (flc (flcutF (a, b) n).1), .int .i64 (flcutF (a, b) n).2]) ∧ Below w.heap.size w w' := by
  by_cases h : n < 0
  · rw [show flcutF (a, b) n = (([], []), 2) from if_pos (.inl h)]
    dsimp only
    go_enter Tryz.func63, Tryz.ntmps63
    go_wp2
    refine bodyPost_ret (v := .tuple #[.agg (flc ([], [])), .int .i64 2]) (by simp [results, Tryz.results63, go_sem]) rfl ⟨rfl, by go_grown⟩
  by_cases h2 : (b.length : Int) < n
  · rw [show flcutF (a, b) n = (([], []), 2) from if_pos (.inr h2)]
    dsimp only
    go_enter Tryz.func63, Tryz.ntmps63
    go_wp2
    refine bodyPost_ret (v := .tuple #[.agg (flc ([], [])), .int .i64 2]) (by simp [results, Tryz.results63, go_sem]) rfl ⟨rfl, by go_grown⟩
  · rw [show flcutF (a, b) n = ((a, b.take n.toNat), 0) from if_neg (by dsimp only; omega)]
    obtain ⟨k, rfl⟩ := Int.eq_ofNat_of_zero_le (show 0 ≤ n by omega)
    rw [Int.toNat_natCast]
    have hsl := fun W => fl_head b k (by omega) W
    dsimp only
    generalize b.take k = c at *
    go_enter Tryz.func63, Tryz.ntmps63
    go_wp2
    go_region
    all_goals go_wp2
    all_goals refine bodyPost_ret (v := .tuple #[.agg (flc (a, c)), .int .i64 0]) (by simp [results, Tryz.results63, go_sem]) rfl ⟨rfl, by go_grown⟩
section
variable (a b mark : List UInt8) (cut : Int) (w : World) (ha : a.length ≤ 1000000000) (hb : b.length ≤ 1000000000) (hm : mark.length ≤ 1000000000)
include ha hb hm
omit ha hb hm in
set_option maxRecDepth 100000 in
set_option maxHeartbeats 2000000 in
theorem flref_left_no (h : flpre (a, b) = false) :
    Calls Tryz.prog 78 #[.agg #[.string ⟨a.toArray⟩, .string ⟨b.toArray⟩], .int .i64 cut, .string ⟨mark.toArray⟩] w fun e w' => e = .returned (.string ⟨(flleft (a, b) cut mark).toArray⟩) ∧ Below w.heap.size w w' := by
  have hF : flleft (a, b) cut mark = if 0 < cut then b else a := by unfold flleft; rw [if_neg (by rw [h]; decide)]
  rw [hF]
  have hn := of_decide_eq_false h
  dsimp only at hn
  by_cases h1 : b.length < a.length
  · have h1i : ((b.length : Int) < (a.length : Int)) := by omega
    have h1d : decide ((b.length : Int) < (a.length : Int)) = true := decide_eq_true h1i
    have h1n : decide (b.length < a.length) = true := decide_eq_true h1
    clear h hF hn
    by_cases hc : 0 < cut
    · rw [if_pos hc]
      go_enter Tryz.func78, Tryz.ntmps78
      go_wp2
      go_quiet (fail)
      go_wp2
      go_ret
      exact ⟨rfl, by go_grown <;> refine below_drewN ?_ _ <;> go_grown⟩
    · rw [if_neg hc]
      go_enter Tryz.func78, Tryz.ntmps78
      go_wp2
      go_quiet (fail)
      go_wp2
      go_ret
      exact ⟨rfl, by go_grown <;> refine below_drewN ?_ _ <;> go_grown⟩
  · have h1i : ¬ ((b.length : Int) < (a.length : Int)) := by omega
    have h1d : decide ((b.length : Int) < (a.length : Int)) = false := decide_eq_false h1i
    have h1n : decide (b.length < a.length) = false := decide_eq_false h1
    have hsl := fun W => fl_head b a.length (by omega) W
    have hne : ¬ b.take a.length = a := fun e => hn ⟨by omega, e⟩
    have hq : (b.take a.length != a) = true := by rw [bne_iff_ne]; exact hne
    have hq2 : (b.take a.length == a) = false := by rw [beq_eq_false_iff_ne]; exact hne
    clear h hF hn h1i h1
    generalize b.take a.length = T at *
    by_cases hc : 0 < cut
    · rw [if_pos hc]
      go_enter Tryz.func78, Tryz.ntmps78
      go_wp2
      go_quiet (fail)
      go_wp2
      go_ret
      exact ⟨rfl, by go_grown <;> refine below_drewN ?_ _ <;> go_grown⟩
    · rw [if_neg hc]
      go_enter Tryz.func78, Tryz.ntmps78
      go_wp2
      go_quiet (fail)
      go_wp2
      go_ret
      exact ⟨rfl, by go_grown <;> refine below_drewN ?_ _ <;> go_grown⟩
set_option maxRecDepth 100000 in
set_option maxHeartbeats 4000000 in
theorem flref_left_yes (h : flpre (a, b) = true) :
    Calls Tryz.prog 78 #[.agg #[.string ⟨a.toArray⟩, .string ⟨b.toArray⟩], .int .i64 cut, .string ⟨mark.toArray⟩] w fun e w' => e = .returned (.string ⟨(flleft (a, b) cut mark).toArray⟩) ∧ Below w.heap.size w w' := by
  have hF : flleft (a, b) cut mark = a ++ ((b.drop a.length).take (fln (a, b) cut - flm (a, b) cut mark) ++ mark.drop (mark.length - flm (a, b) cut mark)) := by unfold flleft; rw [if_pos h]
  have hn := of_decide_eq_true h
  dsimp only at hn
  have HN := fln_le (a, b) cut hn.1
  have HM := flm_le (a, b) cut mark
  dsimp only at HN
  obtain ⟨d, hd⟩ : ∃ d, b.length = a.length + d := ⟨b.length - a.length, by omega⟩
  have n1 : Hid (cut < (d : Int) → fln (a, b) cut = cut.toNat) := Lib.hid fun h => by unfold fln; dsimp only; rw [if_pos (by omega)]
  have n2 : Hid (¬ cut < (d : Int) → fln (a, b) cut = d) := Lib.hid fun h => by unfold fln; dsimp only; rw [if_neg (by omega)]; omega
  have m1 : Hid (flm (a, b) cut mark = min (min mark.length 64) (fln (a, b) cut)) := Lib.hid rfl
  have h1d : decide ((b.length : Int) < (a.length : Int)) = false := decide_eq_false (by omega)
  have h1n : decide (b.length < a.length) = false := decide_eq_false (by omega)
  have hsl := fun W => fl_head b a.length hn.1 W
  rw [hn.2] at hsl
  have hq : (a != a) = false := by simp
  have hsub : IntKind.i64.wrap ((b.length : Int) - (a.length : Int)) = (d : Int) := by rw [IntKind.wrap_i64]; omega
  have hadd : IntKind.i64.wrap ((a.length : Int) + ((fln (a, b) cut : Nat) : Int)) = ((a.length + fln (a, b) cut : Nat) : Int) := by rw [IntKind.wrap_i64]; omega
  have hpart := fun W => fl_part b a.length (a.length + fln (a, b) cut) (by omega) (by omega) W
  rw [show a.length + fln (a, b) cut - a.length = fln (a, b) cut from by omega] at hpart
  have hk1 : IntKind.i64.wrap (((fln (a, b) cut : Nat) : Int) - ((flm (a, b) cut mark : Nat) : Int)) = ((fln (a, b) cut - flm (a, b) cut mark : Nat) : Int) := by rw [IntKind.wrap_i64]; omega
  have hhead := fun W => fl_head ((b.drop a.length).take (fln (a, b) cut)) (fln (a, b) cut - flm (a, b) cut mark) (by rw [List.length_take, List.length_drop]; omega) W
  rw [List.take_take, Nat.min_eq_left (by omega)] at hhead
  have hk2 : IntKind.i64.wrap ((mark.length : Int) - ((flm (a, b) cut mark : Nat) : Int)) = ((mark.length - flm (a, b) cut mark : Nat) : Int) := by rw [IntKind.wrap_i64]; omega
  have htail := fun W => fl_tail mark (mark.length - flm (a, b) cut mark) (by omega) W
  have hcat1 := fun W => fl_add a ((b.drop a.length).take (fln (a, b) cut - flm (a, b) cut mark)) (by rw [List.length_take, List.length_drop]; omega) W
  have hcat2 := fun W => fl_add (a ++ (b.drop a.length).take (fln (a, b) cut - flm (a, b) cut mark)) (mark.drop (mark.length - flm (a, b) cut mark)) (by rw [List.length_append, List.length_take, List.length_drop, List.length_drop]; omega) W
  rw [List.append_assoc, ← hF] at hcat2
  clear h hF hn HN HM hd
  generalize a ++ (b.drop a.length).take (fln (a, b) cut - flm (a, b) cut mark) = G at *
  generalize (b.drop a.length).take (fln (a, b) cut - flm (a, b) cut mark) = K2 at *
  generalize (b.drop a.length).take (fln (a, b) cut) = K1 at *
  generalize mark.drop (mark.length - flm (a, b) cut mark) = K3 at *
  generalize flleft (a, b) cut mark = R at *
  generalize (a.length + fln (a, b) cut) = q1 at *
  generalize (fln (a, b) cut - flm (a, b) cut mark) = q2 at *
  generalize (mark.length - flm (a, b) cut mark) = q3 at *
  generalize flm (a, b) cut mark = M at *
  generalize fln (a, b) cut = N at *
  obtain ⟨C, hC⟩ : ∃ C : Int, (if cut < (d : Int) then cut else (d : Int)) = C := ⟨_, rfl⟩
  have C1 : Hid (cut < (d : Int) → C = cut) := Lib.hid fun h => by rw [← hC, if_pos h]
  have C2 : Hid (¬ cut < (d : Int) → C = (d : Int)) := Lib.hid fun h => by rw [← hC, if_neg h]
  have N1 : Hid (C < 0 → (N : Int) = 0) := Lib.hid fun h => by
    by_cases h2 : cut < (d : Int)
    · rw [n1.out h2]; have := C1.out h2; omega
    · have := C2.out h2; omega
  have N2 : Hid (¬ C < 0 → (N : Int) = C) := Lib.hid fun h => by
    by_cases h2 : cut < (d : Int)
    · rw [n1.out h2]; have := C1.out h2; omega
    · rw [n2.out h2]; exact (C2.out h2).symm
  obtain ⟨M0, hM0⟩ : ∃ M0 : Nat, min mark.length 64 = M0 := ⟨_, rfl⟩
  have A1 : Hid (64 < (mark.length : Int) → (M0 : Int) = 64) := Lib.hid fun h => by omega
  have A2 : Hid (¬ 64 < (mark.length : Int) → (M0 : Int) = (mark.length : Int)) := Lib.hid fun h => by omega
  have B1 : Hid ((N : Int) < (M0 : Int) → (M : Int) = (N : Int)) := Lib.hid fun h => by rw [m1.out]; omega
  have B2 : Hid (¬ (N : Int) < (M0 : Int) → (M : Int) = (M0 : Int)) := Lib.hid fun h => by rw [m1.out]; omega
  clear hC hM0 n1 n2 m1
  go_enter Tryz.func78, Tryz.ntmps78
  go_wp2
  go_quiet (fail)
  have hX : Blk ((w.alloc (.cells #[.string ⟨a.toArray⟩, .string ⟨b.toArray⟩] 91)).drewN nq) w.heap.size 91 #[.string ⟨a.toArray⟩, .string ⟨b.toArray⟩] := (Blk.new w _ _).drewN nq
  have hB0 : Below w.heap.size w ((w.alloc (.cells #[.string ⟨a.toArray⟩, .string ⟨b.toArray⟩] 91)).drewN nq) := below_drewN ((Below.refl _ _).alloc (Nat.le_refl _) _) nq
  generalize (w.alloc (.cells #[.string ⟨a.toArray⟩, .string ⟨b.toArray⟩] 91)).drewN nq = W0 at hX hB0 ⊢
  have c0 : W0.cell? ⟨w.heap.size, 0, none⟩ = some (.string ⟨a.toArray⟩) := hX.cell 0
  have c1 : W0.cell? ⟨w.heap.size, 1, none⟩ = some (.string ⟨b.toArray⟩) := hX.cell 1
  have HB0 := Lib.hid hB0
  clear hX hB0
  go_upto_if 43 with fail
  go_cut [7] (fun n wx => n = .int .i64 C ∧ wx = W0)
  case first =>
    go_wp2_with fail
    all_goals go_meet
    all_goals (case rel => first | exact ⟨by rw [C1.out (by omega)], rfl⟩ | exact ⟨by rw [C2.out (by omega)], rfl⟩)
  case rest =>
    obtain ⟨rfl, rfl⟩ := hcut
    go_upto_if 46 with fail
    go_cut [7] (fun n wx => n = .int .i64 (N : Int) ∧ wx = wc)
    case first =>
      go_wp2_with fail
      all_goals go_meet
      all_goals (case rel => first | exact ⟨by rw [N1.out (by omega)], rfl⟩ | exact ⟨by rw [N2.out (by omega)], rfl⟩)
    case rest =>
      obtain ⟨rfl, rfl⟩ := hcut
      go_upto_if 61 with fail
      go_cut [9] (fun n wx => n = .int .i64 (M0 : Int) ∧ wx = wc)
      case first =>
        go_wp2_with fail
        all_goals go_meet
        all_goals (case rel => first | exact ⟨by rw [A1.out (by omega)], rfl⟩ | exact ⟨by rw [A2.out (by omega)], rfl⟩)
      case rest =>
        obtain ⟨rfl, rfl⟩ := hcut
        go_upto_if 64 with fail
        go_cut [9] (fun n wx => n = .int .i64 (M : Int) ∧ wx = wc)
        case first =>
          go_wp2_with fail
          all_goals go_meet
          all_goals (case rel => first | exact ⟨by rw [B1.out (by omega)], rfl⟩ | exact ⟨by rw [B2.out (by omega)], rfl⟩)
        case rest =>
          obtain ⟨rfl, rfl⟩ := hcut
          go_wp2
          go_quiet (fail)
          go_wp2
          go_ret
          exact ⟨rfl, below_drewN HB0.out _⟩
theorem flref_left_any :
    Calls Tryz.prog 78 #[.agg #[.string ⟨a.toArray⟩, .string ⟨b.toArray⟩], .int .i64 cut, .string ⟨mark.toArray⟩] w fun e w' => e = .returned (.string ⟨(flleft (a, b) cut mark).toArray⟩) ∧ Below w.heap.size w w' := by
  cases h : flpre (a, b) with
  | true => exact flref_left_yes a b mark cut w ha hb hm h
  | false => exact flref_left_no a b mark cut w h
set_option maxRecDepth 100000 in
set_option maxHeartbeats 2000000 in
theorem flref_fall_any :
    Calls Tryz.prog 65 #[.agg #[.string ⟨a.toArray⟩, .string ⟨b.toArray⟩], .int .i64 cut, .string ⟨mark.toArray⟩] w fun e w' => e = .returned (.agg (flc (flleft (a, b) cut mark, flleft (a, b) cut mark))) ∧ Below w.heap.size w w' := by
  have hl := Lib.hid fun W => flref_left_any a b mark cut W ha hb hm
  have hX := Lib.hid ((Blk.new (w.alloc (.cells #[.string ⟨a.toArray⟩, .string ⟨b.toArray⟩] 91)) 91 #[.string ⟨#[]⟩, .string ⟨#[]⟩]))
  have hB0 := Lib.hid (((Below.refl w.heap.size w).alloc (Nat.le_refl _) (.cells #[.string ⟨a.toArray⟩, .string ⟨b.toArray⟩] 91)).alloc (by rw [World.size_alloc]; omega) (.cells #[.string ⟨#[]⟩, .string ⟨#[]⟩] 91))
  clear ha hb hm
  generalize flleft (a, b) cut mark = R at *
  rw [World.size_alloc] at hX
  go_enter Tryz.func65, Tryz.ntmps65
  go_wp2_with (go_at_call 78; (with_reducible refine (hl.out _).mono ?_); rintro e w1 ⟨rfl, hb1⟩; have hX1 := Lib.hid (hX.out.below hb1 hX.out.lt); have hB1 := Lib.hid (hB0.out.trans (hb1.mono hB0.out.size)); clear hb1; have c0 : w1.cell? ⟨w.heap.size + 1, 0, none⟩ = some (.string ⟨#[]⟩) := hX1.out.cell 0; have c1 : w1.cell? ⟨w.heap.size + 1, 1, none⟩ = some (.string ⟨#[]⟩) := hX1.out.cell 1; have z0 := hX1.out.frozen 0; have z1 := hX1.out.frozen 1)
  have y0 := (hX1.out.set_ 0 (.string ⟨R.toArray⟩)).cell 0
  have y1 := ((hX1.out.set_ 0 (.string ⟨R.toArray⟩)).set_ 1 (.string ⟨R.toArray⟩)).cell 1
  simp only [List.setIfInBounds_toArray, List.set_cons_zero, List.set_cons_succ, List.getElem?_toArray, List.getElem?_cons_zero, List.getElem?_cons_succ] at y0 y1
  refine bodyPost_ret (v := .agg (flc (R, R))) (by simp [results, Tryz.results65, go_sem, y0, y1]) rfl ⟨rfl, (hB1.out.setCell (p := ⟨w.heap.size + 1, 0, none⟩) (Nat.le_succ _) _).setCell (p := ⟨w.heap.size + 1, 1, none⟩) (Nat.le_succ _) _⟩
end
end Go.Proofs.YtgoahcmgpjacjaaGreat
