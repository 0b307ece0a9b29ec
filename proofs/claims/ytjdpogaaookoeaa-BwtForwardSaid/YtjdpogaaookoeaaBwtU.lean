/-
  Layer 13: the document's own Inverse, for every text and primary (ahead of the code's landing).
-/
import Derived.Test.YtjdpogaaookoeaaBwtT
import Derived.Test.YtjdpogaaookoeaaMake
namespace Go.Proofs.Ytjdpogaaookoeaa
set_option linter.unusedSimpArgs false
set_option linter.unusedVariables false
open Go.ChangeShapes Go.WideShapes Go.ChangeAt Go.RowKit Go.Joins Go.Deep

/-- A call that returns a text and an error. -/
def TPost (w w' : World) (e : Ending) (F : List UInt8 × Int) : Prop := e = .returned (.tuple #[.string ⟨F.1.toArray⟩, .int .i64 F.2]) ∧ Below w.heap.size w w'
theorem biF_big {l : List UInt8} {r : Int} (h : 20000 < l.length) : biF l r = ([], 3) := if_pos h
theorem biF_bad {l : List UInt8} {r : Int} (h : ¬ 20000 < l.length) (k : bbad l r) : biF l r = ([], 130) := by unfold biF; rw [if_neg h, if_pos k]
theorem biF_ok {l : List UInt8} {r : Nat} (h : ¬ 20000 < l.length) (k : ¬ bbad l (r : Int)) (ho : bok l r = true) : biF l (r : Int) = (bout (bcol l r) l.length, 0) := by unfold biF; rw [if_neg h, if_neg k, Int.toNat_natCast, if_pos ho]
theorem biF_cyc {l : List UInt8} {r : Nat} (h : ¬ 20000 < l.length) (k : ¬ bbad l (r : Int)) (ho : ¬ bok l r = true) : biF l (r : Int) = ([], 130) := by unfold biF; rw [if_neg h, if_neg k, Int.toNat_natCast, if_neg ho]
def slen13 : Value → Nat
  | .slice _ n _ => n
  | _ => 0
theorem b_one_own {N : Nat} (W : World) (x : Int) (h : N ≤ W.heap.size) : (W.alloc (.cells #[.int .u8 x] 5)).ownsRow N 5 1 (.slice (some ⟨W.heap.size, 0, none⟩) 1 1) 1 [.int .u8 x] :=
  ⟨rfl, Or.inr ⟨W.heap.size, 1, #[.int .u8 x], rfl, h, Blk.new W _ _, Nat.le_refl _, by unfold maxLen; omega, rfl, rfl⟩⟩
theorem bc_cons (b : UInt8) (L : List UInt8) : (bc (b :: L)).toList = [.int .u8 (b.toNat : Int)] ++ (bc L).toList := by simp [bc]
theorem bc_one (L : List UInt8) : ∀ u ∈ (bc L).toList, u.oneCell' = true := fun u hu => by
  simp only [bc] at hu
  obtain ⟨b, _, rfl⟩ := List.mem_map.1 hu
  rfl
theorem bc_llen (L : List UInt8) : (bc L).toList.length = L.length := by simp [bc]
/-- What a step reads and tells. -/
theorem bstep_at (l : List UInt8) (r : Nat) (h : r ≤ l.length) (k : Nat) (hne : bro (bcol l r) k ≠ r) : ∃ (x y : Nat) (b : UInt8) (h1 : x < (bcol l r).length) (h2 : x < (splc ((List.range (l.length + 1)).map (brk (bcol l r)))).length),
    bro (bcol l r) k = x ∧ bro (bcol l r) (k + 1) = y ∧ (bcol l r)[x] = (b.toNat : Int) ∧ (splc ((List.range (l.length + 1)).map (brk (bcol l r))))[x] = (y : Int) ∧ bout (bcol l r) (k + 1) = b :: bout (bcol l r) k ∧ x < l.length + 1 ∧ y < l.length + 1 := by
  have hc := bcol_len l r h
  have h1 := bro_lt (bcol l r) (by omega) k
  have h2 := bro_lt (bcol l r) (by omega) (k + 1)
  obtain ⟨b, hb⟩ := bcol_byte l r _ h (by omega) hne
  refine ⟨bro (bcol l r) k, bro (bcol l r) (k + 1), b, h1, by rw [splc_len, List.length_map, List.length_range]; omega, rfl, rfl, ?_, ?_, ?_, by omega, by omega⟩
  · rw [List.getD_eq_getElem?_getD, List.getElem?_eq_getElem h1] at hb
    exact hb
  · rw [splc_get, List.getElem_map, List.getElem_range]
    rfl
  · show bch _ :: _ = _
    rw [hb, bch_nat]
set_option maxRecDepth 100000 in
set_option maxHeartbeats 2000000 in
theorem bref_inverse_no (l : List UInt8) (r : Int) (w : World) (hs : l.length ≤ 1000000) (h : 20000 < l.length ∨ bbad l r) :
    Calls Try.prog 12 #[.string ⟨l.toArray⟩, .int .i64 r] w fun e w' => TPost w w' e (biF l r) := by
  have hp := bref_steps_any l r w hs
  unfold LPost at hp
  obtain ⟨E, hE0, hE1, hE2⟩ : ∃ E : Int, (E != 0) = true ∧ bsF l r = ([], E) ∧ biF l r = ([], E) := by
    by_cases hbig : 20000 < l.length
    · exact ⟨3, rfl, bsF_big hbig, biF_big hbig⟩
    · have hb : bbad l r := h.resolve_left hbig
      exact ⟨130, rfl, bsF_bad hbig hb, biF_bad hbig hb⟩
  rw [hE1] at hp
  rw [hE2]
  dsimp only at hp
  have Hp := Lib.hid hp
  clear hp h hE1 hE2
  go_enter Try.func12, Try.ntmps12
  go_wp2_with (go_at_call 14; refine Hp.out.mono ?_; rintro e w1 ⟨A1, c1, rfl, _, _, hb1⟩)
  go_ret2
  exact ⟨rfl, hb1⟩
set_option maxRecDepth 100000 in
set_option maxHeartbeats 8000000 in
theorem bref_inverse_yes (l : List UInt8) (r : Nat) (w : World) (hs : l.length ≤ 20000) (hg : ¬ bbad l (r : Int)) :
    Calls Try.prog 12 #[.string ⟨l.toArray⟩, .int .i64 (r : Int)] w fun e w' => TPost w w' e (biF l (r : Int)) := by
  obtain ⟨i0, hi, hz0, hz1, hz2⟩ := info_parts mbyte_info
  have hp := bref_steps_any l (r : Int) w (by omega)
  rw [bsF_yes (by omega) hg] at hp
  unfold LPost at hp
  dsimp only at hp
  obtain ⟨r2, e2, hr, _⟩ := bgood hg
  have e3 : r2 = r := by omega
  subst e3
  clear e2
  have hcol := fun W => bref_column_any l r2 W hr (by omega)
  unfold CPost at hcol
  have hcl := bcol_len l r2 hr
  have hn : (splc ((List.range (l.length + 1)).map (brk (bcol l r2)))).length = l.length + 1 := by rw [splc_len, List.length_map, List.length_range]
  rw [hn] at hp
  have Hst := Lib.hid (bstep_at l r2 hr)
  have Hok : Hid (bro (bcol l r2) l.length = r2 → (∀ j, j < l.length → bro (bcol l r2) j ≠ r2) → biF l (r2 : Int) = (bout (bcol l r2) l.length, 0)) := Lib.hid fun h1 h2 => biF_ok (by omega) hg ((bok_iff l r2).2 ⟨h2, h1⟩)
  have Hno : Hid (∀ k, k < l.length → bro (bcol l r2) k = r2 → biF l (r2 : Int) = ([], 130)) := Lib.hid fun k hk h1 => biF_cyc (by omega) hg fun h2 => ((bok_iff l r2).1 h2).1 k hk h1
  have Hno2 : Hid (bro (bcol l r2) l.length ≠ r2 → biF l (r2 : Int) = ([], 130)) := Lib.hid fun h1 => biF_cyc (by omega) hg fun h2 => h1 ((bok_iff l r2).1 h2).2
  have H0 : Hid (bro (bcol l r2) 0 = 0 ∧ bout (bcol l r2) 0 = []) := Lib.hid ⟨rfl, rfl⟩
  have Hol := Lib.hid (bout_len (bcol l r2))
  have hn0 : 0 < l.length + 1 := by omega
  have hri : (r2 : Int) ≤ (l.length : Int) ∧ (0 : Int) ≤ (r2 : Int) ∧ (l.length : Int) ≤ 20000 := by omega
  have Hp := Lib.hid hp
  have Hcol := Lib.hid hcol
  clear hp hcol hcl hn hg
  generalize splc ((List.range (l.length + 1)).map (brk (bcol l r2))) = S at *
  generalize bcol l r2 = C at *
  generalize biF l (r2 : Int) = F at *
  go_enter Try.func12, Try.ntmps12
  go_wp2_with (first
    | (go_at_call 14; refine Hp.out.mono ?_; rintro e w1 ⟨A1, c1, rfl, _, hr1, hb1⟩; obtain ⟨bA, oA, rfl, hbA, hcA⟩ := gcells_at hr1 hn0; have HcA := Lib.hid hcA; have Hb := Lib.hid hb1; clear hb1 hr1 hbA hcA Hp)
    | (go_at_call 20; refine (Hcol.out _).mono ?_; rintro e w2 ⟨A2, c2, rfl, _, hr2, hb2⟩; obtain ⟨bC, oC, rfl, hbC, hcC⟩ := gcells_at hr2 hn0; replace HcA : Hid (∀ W, Below w2.heap.size w2 W → ∀ k (hk : k < S.length), W.cell? ⟨bA, oA + k, none⟩ = some (.int .i64 S[k])) := Lib.hid fun W hW k hk => HcA.out W (hb2.trans (hW.mono hb2.size)) k hk; have HcC := Lib.hid hcC; replace Hb := Lib.hid (Hb.out.trans (hb2.mono Hb.out.size)); clear hb2 hr2 hbC hcC Hcol))
  have HO0 : Hid (w2.ownsRow w2.heap.size 5 1 (.slice none 0 0) 0 (bc []).toList) := Lib.hid (World.ownsRow_nil _ _ _ _)
  have HB0 : Hid (Below w2.heap.size w2 w2) := Lib.hid (Below.refl _ _)
  go_loopw [9, 10] (fun v rv wr => ∃ (k x : Nat) (Av : Option Addr) (cv : Nat) (L : List UInt8), k ≤ l.length ∧ v = .slice Av k cv ∧ rv = .int .i64 (x : Int) ∧ Hid (bro C k = x ∧ bout C k = L ∧ ∀ j, j < k → bro C j ≠ r2) ∧ Hid (wr.ownsRow w2.heap.size 5 1 (.slice Av k cv) k (bc L).toList) ∧ Hid (Below w2.heap.size w2 wr)) (fun v _ _ => l.length - slen13 v)
  case atStart => exact ⟨0, 0, none, 0, [], by omega, rfl, rfl, Lib.hid ⟨H0.out.1, H0.out.2, fun j hj => absurd hj (Nat.not_lt_zero _)⟩, HO0, HB0⟩
  case round =>
    obtain ⟨k, x, Av, cv, L, hk, rfl, rfl, HK, HO, HB⟩ := hrel
    clear HO0 HB0
    have Hfin : Hid (Below w.heap.size w wr) := Lib.hid (Hb.out.trans (HB.out.mono Hb.out.size))
    have hki0 : (0 : Int) ≤ (k : Int) ∧ (k : Int) ≤ (l.length : Int) := by omega
    by_cases hx : x = r2
    · subst hx
      by_cases hkn : k < l.length
      · have d1 : (k : Int) < (l.length : Int) := by omega
        have hF := Hno.out k hkn HK.out.1
        subst hF
        go_wp2
        go_ret2
        exact ⟨rfl, Hfin.out⟩
      · obtain rfl : k = l.length := by omega
        have d1 : ¬ ((l.length : Nat) : Int) < (l.length : Int) := by omega
        have hF := Hok.out HK.out.1 HK.out.2.2
        have hll : L.length = l.length := by rw [← HK.out.2.1]; exact Hol.out _
        rw [HK.out.2.1] at hF
        subst hF
        obtain ⟨A8, c8, e8, _, hrd⟩ := owns_cells HO.out
        injection e8 with e3 _ e4
        subst e3 e4
        have hcv := run_str_any Try.underlying44 Try.underlying5 Try.underlying9 wr _ cv L (by rw [hll]; exact hrd)
        rw [hll] at hcv
        clear hrd hll
        go_wp2
        go_ret2
        exact ⟨rfl, Hfin.out⟩
    · have d0 : ((x : Int) != (r2 : Int)) = true := by simp; omega
      have d0n : (x != r2) = true := by simp; omega
      by_cases hkn : k < l.length
      · have d1 : ((k : Int) == (l.length : Int)) = false := by rw [beq_eq_false_iff_ne]; omega
        have d2 : (k == l.length) = false := by rw [beq_eq_false_iff_ne]; omega
        obtain ⟨x2, y, b, h1, h2, e1, e2, e3, e4, e5, hx2, hy2⟩ := Hst.out k (by rw [HK.out.1]; exact hx)
        have exx : x2 = x := by rw [← e1]; exact HK.out.1
        subst exx
        have HK2 : Hid (bro C (k + 1) = y ∧ bout C (k + 1) = b :: L ∧ ∀ j, j < k + 1 → bro C j ≠ r2) := Lib.hid ⟨e2, by rw [e5, HK.out.2.1], fun j hj => by
          by_cases e : j = k
          · rw [e, HK.out.1]; exact hx
          · exact HK.out.2.2 j (by omega)⟩
        have x1 := HcC.out wr HB.out x2 h1
        rw [e3] at x1
        have b2 := b.toNat_lt
        obtain ⟨X, hX⟩ : ∃ X, (b.toNat : Int) = X := ⟨_, rfl⟩
        have b3 : (0 : Int) ≤ X ∧ X < 256 := by omega
        have hm : X % 256 = X := by omega
        rw [hX] at x1
        have HcS := Lib.hid fun W hW => HcA.out W hW x2 h2
        rw [e4] at HcS
        obtain ⟨A8, c8, e8, _, hrd⟩ := owns_cells HO.out
        injection e8 with e6 _ e7
        subst e6 e7
        have Hrd : Hid (Reads (wr.alloc (.cells #[.int .u8 X] 5)) (wr.alloc (.cells #[.int .u8 X] 5)).heap.size 1 Av k (bc L).toList) := Lib.hid (hrd.upto ((Below.refl _ _).alloc (Nat.le_refl _) _))
        have HL1 : Hid ((wr.alloc (.cells #[.int .u8 X] 5)).ownsRow w2.heap.size 5 1 (.slice (some ⟨wr.heap.size, 0, none⟩) 1 1) 1 [.int .u8 X]) := Lib.hid (b_one_own wr X HB.out.size)
        have Hbc : Hid ((bc (b :: L)).toList = [.int .u8 X] ++ (bc L).toList) := Lib.hid (by rw [bc_cons, hX])
        have hxi : (0 : Int) ≤ (x2 : Int) ∧ (x2 : Int) < (l.length : Int) + 1 := by omega
        clear e1 e2 e3 e4 e5 h1 h2 hX b2 hrd hx HK hx2 hy2
        go_wp2_with (at_builtin; refine wpList_append_sep _ rfl _ _ 44 rfl w2.heap.size 5 i0 (.int .u8 0) 1 1 Try.underlying44 hi hz0 hz1 hz2 rfl (by decide) (.slice (some ⟨wr.heap.size, 0, none⟩) 1 1) 1 _ rfl HL1.out Av k cv _ _ rfl Hrd.out ?c1 ?c2 ?c3 ?c4 ?_)
        case c1 => first | exact bc_one L | exact fun u hu => bc_one L u (by simpa using hu)
        case c2 => unfold maxLen; omega
        case c3 => omega
        case c4 => first | omega | (have := HB.out.size; simp; omega)
        intro v3 w3 hown2 hgrow hsep
        have HB3 : Hid (Below w2.heap.size w2 w3) := Lib.hid ((HB.out.trans ((Below.refl _ _).alloc HB.out.size _)).grown hgrow (by have := HB.out.size; simp; omega) (fun g hg => (HL1.out.lt g hg).1))
        have HO3 : Hid (w3.ownsRow w2.heap.size 5 1 v3 (k + 1) (bc (b :: L)).toList) := Lib.hid (by
          rw [Hbc.out, Nat.add_comm k 1]
          exact hown2)
        clear hown2 hgrow hsep
        have x4 := HcS.out w3 HB3.out
        obtain ⟨A3, c3, rfl, _, _⟩ := owns_cells HO3.out
        go_wp2
        go_roundw
        case rel => exact ⟨k + 1, y, A3, c3, b :: L, by omega, rfl, rfl, HK2, HO3, HB3⟩
        case measure => simp only [slen13]; omega
      · obtain rfl : k = l.length := by omega
        have d1 : (((l.length : Nat) : Int) == (l.length : Int)) = true := by rw [beq_iff_eq]
        have hF := Hno2.out (by rw [HK.out.1]; exact hx)
        subst hF
        go_wp2
        go_ret2
        exact ⟨rfl, Hfin.out⟩
theorem bref_inverse_any (l : List UInt8) (r : Int) (w : World) (hs : l.length ≤ 1000000) :
    Calls Try.prog 12 #[.string ⟨l.toArray⟩, .int .i64 r] w fun e w' => TPost w w' e (biF l r) := by
  by_cases h : 20000 < l.length ∨ bbad l r
  · exact bref_inverse_no l r w hs h
  · obtain ⟨k, rfl, _⟩ := bgood (fun h2 => h (Or.inr h2))
    exact bref_inverse_yes l k w (by omega) fun h2 => h (Or.inr h2)
end Go.Proofs.Ytjdpogaaookoeaa
