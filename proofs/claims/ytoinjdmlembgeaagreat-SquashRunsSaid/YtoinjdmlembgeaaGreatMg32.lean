/-
 What the law of the last of these texts stands on, part 32.
-/
import Derived.Test.YtoinjdmlembgeaaGreatMg23
namespace Go.Proofs.YtoinjdmlembgeaaGreat
set_option linter.unusedSimpArgs false
set_option linter.unusedVariables false
open Go.ChangeShapes Go.WideShapes Go.ChangeAt Go.RowKit Go.Joins Go.Deep
def BPost (w w' : World) (e : Ending) (F : List UInt8 × Int × Int) : Prop := e = .returned (.tuple #[.string ⟨F.1.toArray⟩, .int .i64 F.2.1, .int .i64 F.2.2]) ∧ Below w.heap.size w w'
theorem btF_big {s : List UInt8} (h : 20000 < s.length) : btF s = ([], 0, 3) := if_pos h
theorem btF_yes {s : List UInt8} (h : ¬ 20000 < s.length) : btF s = (yaY s, (bpr s : Int), 0) := if_neg h
def bpre (s : List UInt8) (k : Nat) : List UInt8 := ((sarr s).take k).filterMap (yfF s)
def bprk (s : List UInt8) (k : Nat) : Nat := if bpr s < k then bpr s else 0
theorem ygo (s : List UInt8) : bpre s (s.length + 1) = yaY s ∧ bprk s (s.length + 1) = bpr s := by
 constructor
 ·unfold bpre yaY
  rw [List.take_of_length_le (by rw [yb4]; omega)]
 ·unfold bprk
  rw [if_pos (by have := yfK s; omega)]
theorem bpre_len (s : List UInt8) (k : Nat) : (bpre s k).length ≤ k := by
 unfold bpre
 have := List.length_filterMap_le (yfF s) ((sarr s).take k)
 rw [List.length_take] at this
 omega
theorem bfw_at (s : List UInt8) (k : Nat) (h : k < s.length + 1) : ∃ (p : Nat) (hk : k < (splc (sarr s)).length), (splc (sarr s))[k] = (p : Int) ∧ p ≤ s.length ∧
  (p = 0 → bpre s (k + 1) = bpre s k ∧ bprk s (k + 1) = k) ∧ (∀ q, q + 1 = p → bpre s (k + 1) = bpre s k ++ (s.drop q).take 1 ∧ bprk s (k + 1) = bprk s k) := by
 have hl := yb4 s
 have hk : k < (sarr s).length := by omega
 have hle := sarr_le s k hk
 obtain ⟨h0, e0⟩ := bpr_get s
 have hn : bpre s (k + 1) = bpre s k ++ [(sarr s)[k]].filterMap (yfF s) := by
  unfold bpre
  rw [List.take_succ_eq_append_getElem hk, List.filterMap_append]
 refine ⟨(sarr s)[k], by rw [yao]; exact hk, yey _ _ _, hle, fun h => ?_, fun q hq => ?_⟩
 ·have e : bpr s = k := sarr_inj s _ _ h0 hk (by omega)
  rw [hn, h]
  refine ⟨List.append_nil _, ?_⟩
  unfold bprk
  rw [if_pos (by omega), e]
 ·have e : bpr s ≠ k := fun e => by
   simp only [e] at e0
   omega
  rw [hn, ← hq]
  refine ⟨?_, ?_⟩
  ·congr 1
   rw [List.drop_eq_getElem_cons (show q < s.length by omega)]
   show [s.getD (q + 1 - 1) 0] = _
   rw [Nat.add_sub_cancel, List.getD_eq_getElem?_getD, List.getElem?_eq_getElem (by omega)]
   rfl
  ·unfold bprk
   by_cases h1 : bpr s < k
   ·rw [if_pos h1, if_pos (by omega)]
   ·rw [if_neg h1, if_neg (by omega)]
theorem bw_part (l : List UInt8) (q p : Nat) (h : q + 1 = p) (hl : p ≤ l.length) (w : World) :
  (Instr.slice 9 (.string ⟨l.toArray⟩) (some (.int .i64 (q : Int))) (some (.int .i64 (p : Int))) none).run Tryz.prog w = .ok (.string ⟨((l.drop q).take 1).toArray⟩) w := by
 rw [run_slice_string w 9 ⟨l.toArray⟩ .i64 .i64 (q : Int) (p : Int) Tryz.underlying9 (by omega) (by omega) (by rw [ByteArray.size_mk', List.size_toArray]; omega), ByteArray.extract_mk, Int.toNat_natCast, Int.toNat_natCast, show p - q = 1 from by omega]
theorem bw_add (a b : List UInt8) (h : a.length + b.length ≤ 9223372036854775807) (w : World) : (Op.stringOp .add ⟨a.toArray⟩ ⟨b.toArray⟩).run Tryz.prog w = .ok (.string ⟨(a ++ b).toArray⟩) w := by
 rw [run_string_add_sum w _ _ (by rw [ByteArray.size_mk', ByteArray.size_mk', List.size_toArray, List.size_toArray]; exact h), ByteArray.mk_append_mk]
set_option maxRecDepth 100000 in
set_option maxHeartbeats 2000000 in
theorem yfY (s : List UInt8) (w : World) (hs : s.length ≤ 1000000) :
  Calls Tryz.prog 21 #[.string ⟨s.toArray⟩] w fun e w' => BPost w w' e (btF s) := by
 have hp := sref_array_any s w (by omega)
 unfold yfW at hp
 by_cases hbig : 20000 < s.length
 ·rw [saF_no hbig] at hp
  rw [btF_big hbig]
  dsimp only at hp
  have Hp := Lib.hid hp
  clear hp hbig
  go_enter Tryz.func21, Tryz.ntmps21
  go_wp2_with (go_at_call 44; refine Hp.out.mono ?_; rintro e w1 ⟨A1, c1, rfl, _, _, hb1⟩)
  go_ret3
  exact ⟨rfl, hb1⟩
 ·rw [saF_yes hbig] at hp
  rw [btF_yes hbig, ← (ygo s).1, ← (ygo s).2]
  dsimp only at hp
  have hn : (splc (sarr s)).length = s.length + 1 := by rw [yao, yb4]
  rw [hn] at hp
  have Hp := Lib.hid hp
  have hn0 : 0 < s.length + 1 := by omega
  have Hat := Lib.hid (bfw_at s)
  have Hlen := Lib.hid (bpre_len s)
  have Hz : Hid (bpre s 0 = [] ∧ bprk s 0 = 0) := Lib.hid ⟨rfl, if_neg (Nat.not_lt_zero _)⟩
  have Hpart := Lib.hid fun q p h hl => bw_part s q p h hl
  have hsi : (s.length : Int) ≤ 20000 := by omega
  clear hp hn hbig
  generalize splc (sarr s) = AL at *
  go_enter Tryz.func21, Tryz.ntmps21
  go_wp2_with (go_at_call 44; refine Hp.out.mono ?_; rintro e w1 ⟨A1, c1, rfl, _, hr1, hb1⟩; obtain ⟨bA, oA, rfl, hbA, hcA⟩ := yg5 hr1 hn0; have HcA := Lib.hid hcA; have Hb := Lib.hid hb1; clear hb1 hr1 hbA hcA Hp)
  go_loopw [7, 8, 9, 10] (fun v pv iv _ wr => ∃ (k P : Nat) (U : List UInt8), k ≤ s.length + 1 ∧ v = .string ⟨U.toArray⟩ ∧ pv = .int .i64 (P : Int) ∧ iv = .int .i64 (k : Int) ∧ Hid (bpre s k = U ∧ bprk s k = P) ∧ Hid (Below w1.heap.size w1 wr)) (fun _ _ iv _ _ => s.length + 1 - (intOf iv).toNat)
  case atStart => exact ⟨0, 0, [], by omega, rfl, rfl, rfl, Hz, Lib.hid (Below.refl _ _)⟩
  case round =>
   obtain ⟨k, P, U, hk, rfl, rfl, rfl, HU, HB⟩ := hrel
   have hki0 : (0 : Int) ≤ (k : Int) ∧ (k : Int) ≤ 20001 := by omega
   by_cases hlt : k < s.length + 1
   ·have hki : (k : Int) < (s.length : Int) + 1 := by omega
    obtain ⟨p, hkl, hp, hpl, h0, h1⟩ := Hat.out k hlt
    have x1 := HcA.out wr HB.out k hkl
    rw [hp] at x1
    by_cases hp0 : p = 0
    ·obtain ⟨e1, e2⟩ := h0 hp0
     have d1 : ((p : Int) == 0) = true := by rw [beq_iff_eq]; omega
     have HU2 : Hid (bpre s (k + 1) = U ∧ bprk s (k + 1) = k) := Lib.hid ⟨e1.trans HU.out.1, e2⟩
     subst hp0
     clear h0 h1 hp hkl e1 e2
     go_wp2
     go_roundw
     case rel => exact ⟨k + 1, k, U, by omega, rfl, rfl, iv (by omega), HU2, HB⟩
     case measure => simp only [intOf]; omega
    ·obtain ⟨q, hq⟩ : ∃ q, q + 1 = p := ⟨p - 1, by omega⟩
     obtain ⟨e1, e2⟩ := h1 q hq
     have hlen := Hlen.out k
     have hpart := Hpart.out q p hq hpl
     have hadd := bw_add U ((s.drop q).take 1) (by rw [HU.out.1] at hlen; rw [List.length_take]; omega)
     obtain ⟨T, hT⟩ : ∃ T, (s.drop q).take 1 = T := ⟨_, rfl⟩
     rw [hT] at hpart hadd e1
     rw [HU.out.1] at e1
     have HU2 : Hid (bpre s (k + 1) = U ++ T ∧ bprk s (k + 1) = P) := Lib.hid ⟨e1, e2.trans HU.out.2⟩
     obtain ⟨V, hV⟩ : ∃ V, U ++ T = V := ⟨_, rfl⟩
     rw [hV] at hadd HU2
     have d1 : ((p : Int) == 0) = false := by rw [beq_eq_false_iff_ne]; omega
     have hsub : (p : Int) - 1 = (q : Int) := by omega
     have hw1 : IntKind.i64.wrap ((p : Int) - 1) = (q : Int) := by rw [IntKind.wrap_i64]; omega
     have hw2 : IntKind.i64.wrap (q : Int) = (q : Int) := by rw [IntKind.wrap_i64]; omega
     have hpi : (0 : Int) ≤ (q : Int) ∧ (p : Int) ≤ (s.length : Int) := by omega
     clear h0 h1 hp hkl e1 e2 hV hT hq hlen
     go_wp2
     go_roundw
     case rel => exact ⟨k + 1, P, V, by omega, rfl, rfl, iv (by omega), HU2, HB⟩
     case measure => simp only [intOf]; omega
   ·obtain rfl : k = s.length + 1 := by omega
    obtain ⟨rfl, rfl⟩ := HU.out
    have hki : ¬ (((s.length + 1 : Nat) : Int) < (s.length : Int) + 1) := by omega
    go_wp2
    go_ret3
    exact ⟨rfl, Hb.out.trans (HB.out.mono Hb.out.size)⟩
theorem c_none_no (g : Nat) (w : World) (x : w.cell? ⟨g, 0, none⟩ = some (.bool true)) : Calls Tryz.prog 88 #[.pointer (some ⟨g, 0, none⟩)] w fun e w' => e = .returned (.bool false) ∧ w = w' := by
 have hg := cell_lt x
 go_enter Tryz.func88, Tryz.ntmps88
 go_wp2
 go_ret
 exact ⟨rfl, rfl⟩
def ydc (ws : List (Int × Int)) (s : Int) : (Int × Int) × Int := if 0 ≤ s ∧ s < ws.length ∧ (ws.getD s.toNat (0, 0)).2 ≠ 0 then (ws.getD s.toNat (0, 0), 0) else ((0, 0), 70)
theorem pword_ref (ws : List (Int × Int)) (s : Int) : (ydc ws s).2 = (yaD ws s).2 ∧ ((ydc ws s).2 = 0 → (yaD ws s).1 = digI (ydc ws s).1.1 (ydc ws s).1.2 ∧ (ydc ws s).1 ∈ ws) := by
 unfold ydc yaD
 by_cases h : 0 ≤ s ∧ s < ws.length ∧ (ws.getD s.toNat (0, 0)).2 ≠ 0
 ·rw [if_pos h, if_pos h]
  refine ⟨rfl, fun _ => ⟨rfl, ?_⟩⟩
  have hl : s.toNat < ws.length := by omega
  show ws.getD s.toNat (0, 0) ∈ ws
  rw [List.getD_eq_getElem?_getD, List.getElem?_eq_getElem hl]
  exact List.getElem_mem hl
 ·rw [if_neg h, if_neg h]
  exact ⟨rfl, fun h => absurd h (by decide)⟩
def wordV (F : (Int × Int) × Int) : Value := .tuple #[.agg #[.int .i64 F.1.1, .int .i64 F.1.2], .int .i64 F.2]
set_option maxRecDepth 100000 in
set_option maxHeartbeats 1000000 in
theorem c_word_any (ls : List Nat) (B g : Nat) (s : Int) (w : World) (h : CCode w B g ls) (hl : ls.length ≤ 1000000) : Calls Tryz.prog 107 #[.pointer (some ⟨g, 0, none⟩), .int .i64 s] w fun e w' => e = .returned (wordV (ydc (wat ls 16 0) s)) ∧ Below w.heap.size w w' := by
 have Hn : Hid (∀ W, Below w.heap.size w W → Calls Tryz.prog 88 #[.pointer (some ⟨g, 0, none⟩)] W fun e w' => e = .returned (.bool false) ∧ W = w') := Lib.hid fun W hW => c_none_no g W ((hW.cell (p := ⟨g, 0, none⟩) h.at.2).trans h.made)
 obtain ⟨b, hb, x1, hB⟩ := h.words
 have hg := h.at.2
 have hbl := hB.lt
 have hwl := yaF ls 16 0
 obtain ⟨F, hF⟩ : ∃ F, ydc (wat ls 16 0) s = F := ⟨_, rfl⟩
 rw [hF]
 unfold ydc at hF
 rw [hwl] at hF
 obtain ⟨n, hn⟩ : ∃ n, ls.length = n := ⟨_, rfl⟩
 rw [hn] at hF x1 hl hwl
 have hni : (n : Int) ≤ 1000000 := by omega
 clear h
 by_cases h0 : s < 0
 ·rw [if_neg (by omega)] at hF
  subst hF
  clear hB
  go_enter Tryz.func107, Tryz.ntmps107
  go_wp2_with (go_at_call 88; refine (Hn.out _ ((Below.refl _ _).alloc (Nat.le_refl _) _)).mono ?_; rintro e w1 ⟨rfl, rfl⟩)
  refine bodyPost_ret (v := .tuple #[.agg #[.int .i64 0, .int .i64 0], .int .i64 70]) (by simp [results, Tryz.results107, go_sem]) rfl ⟨rfl, by go_grown⟩
 ·by_cases h1 : (n : Int) ≤ s
  ·rw [if_neg (by omega)] at hF
   subst hF
   clear hB
   go_enter Tryz.func107, Tryz.ntmps107
   go_wp2_with (go_at_call 88; refine (Hn.out _ ((Below.refl _ _).alloc (Nat.le_refl _) _)).mono ?_; rintro e w1 ⟨rfl, rfl⟩)
   refine bodyPost_ret (v := .tuple #[.agg #[.int .i64 0, .int .i64 0], .int .i64 70]) (by simp [results, Tryz.results107, go_sem]) rfl ⟨rfl, by go_grown⟩
  ·obtain ⟨k, rfl⟩ := Int.eq_ofNat_of_zero_le (by omega : 0 ≤ s)
   have hk : k < n := by omega
   have hki : (0 : Int) ≤ (k : Int) ∧ (k : Int) < (n : Int) := by omega
   have hkw : k < (wat ls 16 0).length := by rw [hwl]; exact hk
   rw [Int.toNat_natCast, List.getD_eq_getElem?_getD, List.getElem?_eq_getElem hkw, Option.getD_some] at hF
   have y1 := hB.cell (k * 2)
   rw [List.getElem?_toArray, ydx .i64 _ k hkw] at y1
   have y2 := hB.cell (k * 2 + 1)
   rw [List.getElem?_toArray, ydm .i64 _ k hkw] at y2
   clear hB
   generalize (wat ls 16 0)[k] = f at *
   obtain ⟨fn, fw⟩ := f
   dsimp only at y1 y2 hF
   by_cases hz : fw = 0
   ·rw [if_neg (fun h => h.2.2 hz)] at hF
    subst hF
    subst hz
    clear hkw hwl h0 h1
    go_enter Tryz.func107, Tryz.ntmps107
    go_wp2_with (go_at_call 88; refine (Hn.out _ ((Below.refl _ _).alloc (Nat.le_refl _) _)).mono ?_; rintro e w1 ⟨rfl, rfl⟩)
    refine bodyPost_ret (v := .tuple #[.agg #[.int .i64 0, .int .i64 0], .int .i64 70]) (by simp [results, Tryz.results107, go_sem]) rfl ⟨rfl, by go_grown⟩
   ·rw [if_pos ⟨by omega, by omega, hz⟩] at hF
    subst hF
    have hz2 : (fw == (0 : Int)) = false := by simpa using hz
    clear hkw hwl h0 h1
    go_enter Tryz.func107, Tryz.ntmps107
    go_wp2_with (go_at_call 88; refine (Hn.out _ ((Below.refl _ _).alloc (Nat.le_refl _) _)).mono ?_; rintro e w1 ⟨rfl, rfl⟩)
    refine bodyPost_ret (v := .tuple #[.agg #[.int .i64 fn, .int .i64 fw], .int .i64 0]) (by simp [results, Tryz.results107, go_sem]) rfl ⟨rfl, by go_grown⟩
end Go.Proofs.YtoinjdmlembgeaaGreat
