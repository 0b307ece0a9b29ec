/-
  Layer 21, the document's: PutFoot (ahead of the code's landing).
-/
import Derived.Test.YtjodckinfoldgaaHedB
import Derived.Test.YtjodckinfoldgaaHedR
namespace Go.Proofs.Ytjodckinfoldgaa
set_option linter.unusedSimpArgs false
set_option linter.unusedVariables false
open Go.ChangeShapes Go.WideShapes Go.ChangeAt Go.RowKit Go.Joins Go.Deep
theorem hreads_at (w : World) (t : TypeId) (xs : List Value) (g : Nat) (hg : w.heap.size = g) : Reads (w.alloc (.cells xs.toArray t)) (w.alloc (.cells xs.toArray t)).heap.size 1 (some ⟨g, 0, none⟩) xs.length xs := by
  subst hg
  exact hreads_new w t xs
theorem hmB_le (m : Mt) : (hmB m).length ≤ 63 := hflat_le (hm7 m)
theorem hmfl_le (l : List Mt) : (l.flatMap hmB).length ≤ l.length * 63 := by
  induction l with
  | nil => simp
  | cons m l ih =>
    rw [List.flatMap_cons, List.length_append, List.length_cons]
    have := hmB_le m
    omega
theorem hmfl_snoc (l : List Mt) (k : Nat) (h : k < l.length) : (l.take (k + 1)).flatMap hmB = (l.take k).flatMap hmB ++ hmB l[k] := by
  rw [List.take_succ_eq_append_getElem h, List.flatMap_append]
  simp
set_option maxRecDepth 100000 in
set_option maxHeartbeats 4000000 in
theorem href_pf_any (l : List Mt) (A : Option Addr) (n c : Nat) (w : World) (hl : l.length = n) (hn : n ≤ 1000000) (hr : Reads w w.heap.size 7 A n (dcs mtc l)) :
    Calls Try.prog 15 #[.slice A n c] w fun e w' => e = .returned (.tuple #[.string ⟨(hpfF l).1.toArray⟩, .int .i64 (hpfF l).2]) ∧ Below w.heap.size w w' := by
  have C := Lib.hid (href_blk_any l A n c w hl hn hr)
  unfold hblkF at C
  unfold hpfF
  by_cases hk : hrow l = true
  case neg =>
    rw [if_neg hk] at C ⊢
    clear hr hl hk
    go_enter Try.func15, Try.ntmps15
    go_wp2_with (first | (go_at_call 21; (with_reducible refine C.out.mono ?_); rintro e w1 ⟨rfl, hb1⟩; have HB := Lib.hid hb1; clear hb1 C) | fail)
    go_ret2
    exact ⟨rfl, HB.out⟩
  case pos =>
    rw [if_pos hk] at C ⊢
    have hk2 := (hrow_iff l).1 hk
    have HC : Hid (0 < n → ∃ b off, A = some ⟨b, off, none⟩ ∧ b < w.heap.size ∧ ∀ i (hi : i < l.length), ∀ j u, (mtc l[i])[j]? = some u → w.cell? ⟨b, off + i * 7 + j, none⟩ = some u) := Lib.hid fun h => mt_cells hr hl h
    have HL := Lib.hid hl
    have HK : Hid (∀ i (hi : i < l.length), hm1 l[i] = true) := Lib.hid fun i hi => (hk2.2 i hi).1
    have P0 : Hid (∀ W A (hr : Reads W W.heap.size 1 A 1 [.int .i64 (n : Int)]), Calls Try.prog 27 #[.slice A 1 1] W fun e w' => e = .returned (.string ⟨(putB (l.length : Int)).toArray⟩) ∧ Below W.heap.size W w') := Lib.hid fun W A hr => by
      have := href_puts_any [(l.length : Int)] A 1 1 W rfl (by omega) (by rw [hl]; exact hr) (fun x hx => by rw [List.mem_singleton] at hx; omega)
      rw [List.flatMap_cons, List.flatMap_nil, List.append_nil] at this
      exact this
    have hP0 := rput_len (l.length : Int)
    clear hr hl hk hk2
    have H0 : Hid (hfB l = putB (l.length : Int) ++ l.flatMap hmB) := Lib.hid rfl
    rw [H0.out]
    generalize putB (l.length : Int) = T0 at *
    clear H0
    have H00 : Hid (T0 ++ (l.take 0).flatMap hmB = T0) := Lib.hid (by rw [List.take_zero]; exact List.append_nil _)
    go_enter Try.func15, Try.ntmps15
    go_wp2_with (first
      | (go_at_call 21; (with_reducible refine C.out.mono ?_); rintro e w1 ⟨rfl, hb1⟩; have HB := Lib.hid hb1; clear hb1 C)
      | (go_at_call 27; (with_reducible refine (P0.out _ _ (hreads_new w1 _ _)).mono ?_); rintro e w2 ⟨rfl, hb2⟩; replace HB := Lib.hid ((HB.out.alloc HB.out.size _).trans (hb2.mono (HB.out.alloc HB.out.size _).size)); clear hb2 P0)
      | fail)
    go_loopw [4, 5, 6] (fun ov iv _ wr => ∃ k : Nat, k ≤ n ∧ iv = .int .i64 (k : Int) ∧ ov = .string ⟨(T0 ++ (l.take k).flatMap hmB).toArray⟩ ∧ Hid (Below w.heap.size w wr)) (fun _ iv _ _ => n - (intOf iv).toNat)
    case atStart => exact ⟨0, by omega, rfl, by rw [H00.out], HB⟩
    case round =>
      clear HB
      obtain ⟨k, hk, rfl, rfl, HB⟩ := hrel
      by_cases hlt : k < n
      case pos =>
        have hkl : k < l.length := by have := HL.out; omega
        obtain ⟨b, off, rfl, hb, hcell⟩ := HC.out (by omega)
        have hct : ∀ j u, (mtc l[k])[j]? = some u → wr.cell? ⟨b, off + k * 7 + j, none⟩ = some u := fun j u hu => (HB.out.cell (p := ⟨b, off + k * 7 + j, none⟩) hb).trans (hcell k hkl j u hu)
        have hki : (0 : Int) ≤ (k : Int) ∧ (k : Int) < (n : Int) := by omega
        have hg := HK.out k hkl
        have HX : Hid (T0 ++ (l.take (k + 1)).flatMap hmB = (T0 ++ (l.take k).flatMap hmB) ++ hmB l[k]) := Lib.hid (by rw [hmfl_snoc l k hkl, List.append_assoc])
        have hle := hmfl_le (l.take k)
        rw [List.length_take] at hle
        have hle2 : (T0 ++ (l.take k).flatMap hmB).length ≤ 100000000 := by rw [List.length_append]; omega
        have hle3 := hmB_le l[k]
        generalize T0 ++ (l.take k).flatMap hmB = T at *
        obtain ⟨m, hm⟩ : ∃ m, l[k] = m := ⟨_, rfl⟩
        rw [hm] at hct hg HX hle3
        clear hm hcell HC HK hle
        have hsm := hm7_small hg
        have P : Hid (∀ W A (hr : Reads W W.heap.size 1 A 7 (ints (hm7 m))), Calls Try.prog 27 #[.slice A 7 7] W fun e w' => e = .returned (.string ⟨(hmB m).toArray⟩) ∧ Below W.heap.size W w') := Lib.hid fun W A hr => href_puts_any (hm7 m) A 7 7 W rfl (by omega) hr (fun x hx => (hsm x hx).2)
        have hg2 := (hm1_iff m).1 hg
        generalize hmB m = M at *
        obtain ⟨at_, sz, raw, ct, fi, ea, la⟩ := m
        have c0 := hct 0 _ rfl; have c1 := hct 1 _ rfl; have c2 := hct 2 _ rfl; have c3 := hct 3 _ rfl; have c4 := hct 4 _ rfl; have c5 := hct 5 _ rfl; have c6 := hct 6 _ rfl
        dsimp only at c0 c1 c2 c3 c4 c5 c6 hg2
        rw [Nat.add_zero] at c0
        have hl7 : ints (hm7 (at_, sz, raw, ct, fi, ea, la)) = [.int .i64 at_, .int .i64 sz, .int .i64 raw, .int .i64 ct, .int .i64 fi, .int .i64 ea, .int .i64 (la - ea)] := rfl
        rw [hl7] at P
        have hw : IntKind.i64.wrap (la - ea) = la - ea := by rw [IntKind.wrap_i64]; omega
        have hadd := fun W => add_bytes T M (by omega) W
        clear hct hg hsm hg2 hl7 hle2 hle3
        go_wp2_with (first
          | (go_at_call 27; (with_reducible refine (P.out _ _ (hreads_at (wr.alloc (.cells #[.int .i64 at_, .int .i64 sz, .int .i64 raw, .int .i64 ct, .int .i64 fi, .int .i64 ea, .int .i64 la] 55)) _ _ (wr.heap.size + 1) (by rw [World.size_alloc]))).mono ?_); rintro e w2 ⟨rfl, hb2⟩; have HB3 := Lib.hid (((HB.out.alloc HB.out.size (.cells #[.int .i64 at_, .int .i64 sz, .int .i64 raw, .int .i64 ct, .int .i64 fi, .int .i64 ea, .int .i64 la] 55)).alloc (HB.out.alloc HB.out.size (.cells #[.int .i64 at_, .int .i64 sz, .int .i64 raw, .int .i64 ct, .int .i64 fi, .int .i64 ea, .int .i64 la] 55)).size _).trans (hb2.mono ((HB.out.alloc HB.out.size (.cells #[.int .i64 at_, .int .i64 sz, .int .i64 raw, .int .i64 ct, .int .i64 fi, .int .i64 ea, .int .i64 la] 55)).alloc (HB.out.alloc HB.out.size (.cells #[.int .i64 at_, .int .i64 sz, .int .i64 raw, .int .i64 ct, .int .i64 fi, .int .i64 ea, .int .i64 la] 55)).size _).size)); clear hb2 P)
          | fail)
        go_roundw
        case rel => exact ⟨k + 1, by omega, iv (by omega), by rw [HX.out], HB3⟩
        case measure => simp only [intOf]; omega
      case neg =>
        obtain rfl : k = n := by omega
        have e : l.take k = l := List.take_of_length_le (by have := HL.out; omega)
        have hz : ¬ (k : Int) < (k : Int) := by omega
        rw [e]
        clear HC HK H00 hlt e
        go_wp2
        go_ret2
        exact ⟨rfl, HB.out⟩
end Go.Proofs.Ytjodckinfoldgaa
