/-
  Two rows, the second one of which goes on behind the first one, are one row, and their bytes stand one behind the other; the layer's probe holds (RecordRows). No condition.
-/
import Derived.Test.YtckengcphaaohaaRecL2
import Derived.Test.YtckengcphaaohaaAppend
namespace Go.Proofs.Ytckengcphaaohaa
set_option linter.unusedSimpArgs false
set_option linter.unusedVariables false
open Go.ChangeShapes Go.WideShapes Go.ChangeAt Go.RowKit Go.Joins Go.Deep
set_option maxHeartbeats 2000000 in
theorem recordRows_far0 (a b : List Rc) (A B : Option Addr) (n m c d : Nat) (hn : a.length = n) (hm : b.length = m) (w : World) (h1 : fewF a = false) (hr : Reads w w.heap.size 3 A n (rcs a)) (hs : Reads w w.heap.size 3 B m (rcs b)) :
    Calls Try.prog 6 #[.slice A n c, .slice B m d] w fun e w' => e = .returned (.bool true) ∧ Below w.heap.size w w' := by
  have Hb := Lib.hid (Below.refl w.heap.size w)
  have hf1 := few_any a A n c w hn hr
  rw [h1] at hf1
  go_enter Try.func6, Try.ntmps6
  go_wp2_with (first
    | (go_at_call 7; (with_reducible refine hf1.mono ?_); rintro e w0 ⟨rfl, hw0⟩; obtain rfl := hw0.symm; clear hf1)
    | (go_at_call 8; refine (awake15_any _).mono ?_; rintro e w9 ⟨rfl, hb9⟩; replace Hb := Lib.hid (Hb.out.trans (hb9.mono Hb.out.size)); clear hb9))
  go_ret
  exact ⟨rfl, Hb.out⟩
set_option maxHeartbeats 2000000 in
theorem recordRows_far1 (a b : List Rc) (A B : Option Addr) (n m c d : Nat) (hn : a.length = n) (hm : b.length = m) (w : World) (h1 : fewF a = true) (h2 : fewF b = false) (hr : Reads w w.heap.size 3 A n (rcs a)) (hs : Reads w w.heap.size 3 B m (rcs b)) :
    Calls Try.prog 6 #[.slice A n c, .slice B m d] w fun e w' => e = .returned (.bool true) ∧ Below w.heap.size w w' := by
  have Hb := Lib.hid (Below.refl w.heap.size w)
  have hf1 := few_any a A n c w hn hr
  rw [h1] at hf1
  have hf2 := few_any b B m d w hm hs
  rw [h2] at hf2
  go_enter Try.func6, Try.ntmps6
  go_wp2_with (first
    | (go_at_call 7; (with_reducible refine hf1.mono ?_); rintro e w0 ⟨rfl, hw0⟩; obtain rfl := hw0.symm; clear hf1)
    | (go_at_call 7; (with_reducible refine hf2.mono ?_); rintro e w0 ⟨rfl, hw0⟩; obtain rfl := hw0.symm; clear hf2)
    | (go_at_call 8; refine (awake15_any _).mono ?_; rintro e w9 ⟨rfl, hb9⟩; replace Hb := Lib.hid (Hb.out.trans (hb9.mono Hb.out.size)); clear hb9))
  go_ret
  exact ⟨rfl, Hb.out⟩
set_option maxHeartbeats 2000000 in
theorem recordRows_far2 (a b : List Rc) (A B : Option Addr) (n m c d : Nat) (hn : a.length = n) (hm : b.length = m) (w : World) (h1 : fewF a = true) (h2 : fewF b = true) (n0 : n = 0) (hr : Reads w w.heap.size 3 A n (rcs a)) (hs : Reads w w.heap.size 3 B m (rcs b)) :
    Calls Try.prog 6 #[.slice A n c, .slice B m d] w fun e w' => e = .returned (.bool true) ∧ Below w.heap.size w w' := by
  have Hb := Lib.hid (Below.refl w.heap.size w)
  have hf1 := few_any a A n c w hn hr
  rw [h1] at hf1
  have hf2 := few_any b B m d w hm hs
  rw [h2] at hf2
  subst n0
  go_enter Try.func6, Try.ntmps6
  go_wp2_with (first
    | (go_at_call 7; (with_reducible refine hf1.mono ?_); rintro e w0 ⟨rfl, hw0⟩; obtain rfl := hw0.symm; clear hf1)
    | (go_at_call 7; (with_reducible refine hf2.mono ?_); rintro e w0 ⟨rfl, hw0⟩; obtain rfl := hw0.symm; clear hf2)
    | (go_at_call 8; refine (awake15_any _).mono ?_; rintro e w9 ⟨rfl, hb9⟩; replace Hb := Lib.hid (Hb.out.trans (hb9.mono Hb.out.size)); clear hb9))
  go_ret
  exact ⟨rfl, Hb.out⟩
set_option maxHeartbeats 2000000 in
theorem recordRows_far3 (a b : List Rc) (A B : Option Addr) (n m c d : Nat) (hn : a.length = n) (hm : b.length = m) (w : World) (h1 : fewF a = true) (h2 : fewF b = true) (n0 : n ≠ 0) (m0 : m = 0) (hr : Reads w w.heap.size 3 A n (rcs a)) (hs : Reads w w.heap.size 3 B m (rcs b)) :
    Calls Try.prog 6 #[.slice A n c, .slice B m d] w fun e w' => e = .returned (.bool true) ∧ Below w.heap.size w w' := by
  have Hb := Lib.hid (Below.refl w.heap.size w)
  have hf1 := few_any a A n c w hn hr
  rw [h1] at hf1
  have hf2 := few_any b B m d w hm hs
  rw [h2] at hf2
  have k0 : ((n : Int) == 0) = false := beq_eq_false_iff_ne.2 (by omega)
  subst m0
  go_enter Try.func6, Try.ntmps6
  go_wp2_with (first
    | (go_at_call 7; (with_reducible refine hf1.mono ?_); rintro e w0 ⟨rfl, hw0⟩; obtain rfl := hw0.symm; clear hf1)
    | (go_at_call 7; (with_reducible refine hf2.mono ?_); rintro e w0 ⟨rfl, hw0⟩; obtain rfl := hw0.symm; clear hf2)
    | (go_at_call 8; refine (awake15_any _).mono ?_; rintro e w9 ⟨rfl, hb9⟩; replace Hb := Lib.hid (Hb.out.trans (hb9.mono Hb.out.size)); clear hb9))
  go_ret
  exact ⟨rfl, Hb.out⟩
theorem rcs_one : ∀ (l : List Rc), ∀ u ∈ rcs l, u.oneCell' = true
  | [], u, hu => by cases hu
  | r :: l, u, hu => by
    rw [rcs_cons] at hu
    simp only [List.mem_cons] at hu
    rcases hu with rfl | rfl | rfl | hu
    · rfl
    · rfl
    · rfl
    · exact rcs_one l u hu
structure REnds (w : World) (a b : List Rc) (A B : Option Addr) (p : Nat) (x1 x2 y1 y2 : Int) : Prop where
  last : ∀ h : p < a.length, a[p].1 = x1 ∧ a[p].2.1 = x2
  first : ∀ h : 0 < b.length, b[0].1 = y1 ∧ b[0].2.1 = y2
  cell1 : ∃ g o, A = some ⟨g, o, none⟩ ∧ w.cell? ⟨g, o + p * 3, none⟩ = some (.int .i64 x1) ∧ w.cell? ⟨g, o + p * 3 + 1, none⟩ = some (.int .i64 x2)
  cell2 : ∃ g o, B = some ⟨g, o, none⟩ ∧ w.cell? ⟨g, o, none⟩ = some (.int .i64 y1) ∧ w.cell? ⟨g, o + 1, none⟩ = some (.int .i64 y2)
theorem rends_of {w : World} {a b : List Rc} {A B : Option Addr} {n m p : Nat} (hn : a.length = n) (hm : b.length = m) (hp : p + 1 = n) (m0 : m ≠ 0) (hr : Reads w w.heap.size 3 A n (rcs a)) (hs : Reads w w.heap.size 3 B m (rcs b)) : ∃ x1 x2 y1 y2, REnds w a b A B p x1 x2 y1 y2 ∧ (x1 = (a[p]'(by omega)).1 ∧ x2 = (a[p]'(by omega)).2.1 ∧ y1 = (b[0]'(by omega)).1 ∧ y2 = (b[0]'(by omega)).2.1) := by
  obtain ⟨g, o, hA, _, hc⟩ := rec_cells hr hn p (by omega)
  obtain ⟨g2, o2, hB, _, hd⟩ := rec_cells hs hm 0 (by omega)
  have q0 := hc p (by omega)
  have q1 := hd 0 (by omega)
  rw [Nat.zero_mul, Nat.add_zero] at q1
  exact ⟨_, _, _, _, ⟨fun _ => ⟨rfl, rfl⟩, fun _ => ⟨rfl, rfl⟩, ⟨g, o, hA, q0.1, q0.2.1⟩, ⟨g2, o2, hB, q1.1, q1.2.1⟩⟩, rfl, rfl, rfl, rfl⟩
set_option maxRecDepth 100000 in
set_option maxHeartbeats 8000000 in
theorem recordRows_A1 (a b : List Rc) (A B : Option Addr) (n m c d : Nat) (hn : a.length = n) (hm : b.length = m) (w : World) (h1 : fewF a = true) (h2 : fewF b = true) (p : Nat) (hp : p + 1 = n) (m0 : m ≠ 0) (x1 x2 y1 y2 : Int) (hE : REnds w a b A B p x1 x2 y1 y2) (hy : y1 < 9223372036854775808) (o1 : ¬ 1 < y1) (r1 : rrowF a ≠ 0) (g0 : (rjoinF (a ++ b)).2 ≠ 0) (hr : Reads w w.heap.size 3 A n (rcs a)) (hs : Reads w w.heap.size 3 B m (rcs b)) :
    Calls Try.prog 6 #[.slice A n c, .slice B m d] w fun e w' => e = .returned (.bool true) ∧ Below w.heap.size w w' := by
  have hf1 := few_any a A n c w hn hr
  rw [h1] at hf1
  have hf2 := few_any b B m d w hm hs
  rw [h2] at hf2
  have l1 := few_len h1
  have l2 := few_len h2
  have nl : n ≤ 200 ∧ m ≤ 200 := by omega
  have Q1 := fun W (hb : Below w.heap.size w W) => p_rrow_any a A n c W hn (by omega) ((hr.below hb).more hb.size)
  have Q2 := fun W (hb : Below w.heap.size w W) => p_rrow_any b B m d W hm (by omega) ((hs.below hb).more hb.size)
  have Q3 := fun A2 c2 W (h : Reads W W.heap.size 3 A2 (n + m) (rcs (a ++ b))) => p_rrow_any (a ++ b) A2 (n + m) c2 W (by rw [List.length_append, hn, hm]) (by omega) h
  have J1 := fun W (hb : Below w.heap.size w W) => p_rjoin_any a A n c W hn (by omega) ((hr.below hb).more hb.size)
  have J2 := fun W (hb : Below w.heap.size w W) => p_rjoin_any b B m d W hm (by omega) ((hs.below hb).more hb.size)
  have J3 := fun A2 c2 W (h : Reads W W.heap.size 3 A2 (n + m) (rcs (a ++ b))) => p_rjoin_any (a ++ b) A2 (n + m) c2 W (by rw [List.length_append, hn, hm]) (by omega) h
  have hcc := rcs_app a b
  obtain ⟨i0, hi, hz0, hz1, hz2⟩ := info_parts rec_info
  obtain ⟨ga, oa, rfl, ca1, ca2⟩ := hE.cell1
  obtain ⟨gb, ob, rfl, cb1, cb2⟩ := hE.cell2
  have hsub : (n : Int) - 1 = (p : Int) := by omega
  have hsub1 : IntKind.i64.wrap ((n : Int) - 1) = (p : Int) := by rw [IntKind.wrap_i64]; omega
  have hsub2 : IntKind.i64.wrap (p : Int) = (p : Int) := by rw [IntKind.wrap_i64]; omega
  have hpn : (0 : Int) ≤ (p : Int) ∧ (p : Int) < (n : Int) := by omega
  have hm1 : (0 : Int) < (m : Int) := by omega
  have k1 : ((n : Int) == 0) = false := beq_eq_false_iff_ne.2 (by omega)
  have k2 : ((m : Int) == 0) = false := beq_eq_false_iff_ne.2 (by omega)
  have t1 : decide ((1 : Int) < y1) = false := decide_eq_false o1
  have u1 : (rrowF a == 0) = false := beq_eq_false_iff_ne.2 r1
  have u4 : ((rjoinF (a ++ b)).2 == 0) = false := beq_eq_false_iff_ne.2 g0
  have Hr := Lib.hid hr
  have Hs := Lib.hid hs
  replace Q1 := Lib.hid Q1
  replace Q2 := Lib.hid Q2
  replace Q3 := Lib.hid Q3
  replace J1 := Lib.hid J1
  replace J2 := Lib.hid J2
  replace J3 := Lib.hid J3
  clear hr hs hE h1 h2 r1 g0
  generalize (rjoinF (a ++ b)).1 = X3 at *
  generalize (rjoinF (a ++ b)).2 = E3 at *
  generalize rrowF (a ++ b) = F3 at *
  have HC : Hid (rcs (a ++ b) = rcs a ++ rcs b) := Lib.hid hcc
  clear hcc hn hm
  generalize rcs (a ++ b) = CC at *
  have o1a := rcs_one a
  have o1b := rcs_one b
  generalize rcs a = CA at *
  generalize rcs b = CB at *
  generalize (rjoinF a).1 = X1 at *
  generalize (rjoinF a).2 = E1 at *
  generalize (rjoinF b).1 = X2 at *
  generalize (rjoinF b).2 = E2 at *
  generalize rrowF a = F1 at *
  generalize rrowF b = F2 at *
  go_enter Try.func6, Try.ntmps6
  go_wp2_with (first
    | (go_at_call 7; (with_reducible refine hf1.mono ?_); rintro e w0 ⟨rfl, hw0⟩; obtain rfl := hw0.symm; clear hf1)
    | (go_at_call 7; (with_reducible refine hf2.mono ?_); rintro e w0 ⟨rfl, hw0⟩; obtain rfl := hw0.symm; clear hf2)
    | fail)
  go_quiet (fail)
  go_wp2_with (at_builtin; refine wpList_append_any _ rfl _ _ 25 rfl w.heap.size 23 i0 (.agg #[.int .i64 0, .int .i64 0, .string ⟨#[]⟩]) 3 32 Try.underlying25 hi hz0 hz1 hz2 rfl (by decide) _ 0 [] rfl ?o1 (some ⟨ga, oa, none⟩) n c w.heap.size CA rfl ?r1 o1a ?c1 ?c2 ?c3 ?_)
  case o1 => exact World.ownsRow_lit _ #[] 0 (Nat.le_refl _) (by decide) rfl
  case r1 => exact Hr.out.below ((below_drewN (Below.refl _ _) _).alloc (Nat.le_refl _) _)
  case c1 => unfold maxLen; omega
  case c2 => omega
  case c3 => simp
  intro v3 w3 hown3 hgrow3
  have Hb3 : Hid (Below w.heap.size w w3) := Lib.hid (((below_drewN (Below.refl _ _) _).alloc (Nat.le_refl _) _).grown hgrow3 (by simp) (fun g hg => by simp [Value.ownBlock] at hg; subst hg; exact Nat.le_refl _))
  have Hown3 := Lib.hid hown3
  clear hown3 hgrow3
  go_wp2_with (at_builtin; refine wpList_append_any _ rfl _ _ 25 rfl w.heap.size 23 i0 (.agg #[.int .i64 0, .int .i64 0, .string ⟨#[]⟩]) 3 32 Try.underlying25 hi hz0 hz1 hz2 rfl (by decide) _ _ _ rfl Hown3.out (some ⟨gb, ob, none⟩) m d w.heap.size CB rfl ?r1 o1b ?c1 ?c2 ?c3 ?_)
  case r1 => exact Hs.out.below Hb3.out
  case c1 => unfold maxLen; omega
  case c2 => omega
  case c3 => exact Hb3.out.size
  intro v4 w4 hown4 hgrow4
  have HbE : Hid (Below w.heap.size w w4) := Lib.hid (Hb3.out.grown hgrow4 Hb3.out.size (fun g hg => (Hown3.out.lt g hg).1))
  have hown4' : w4.ownsRow w.heap.size 23 3 v4 (n + m) CC := by
    rw [HC.out]
    simpa using hown4
  obtain ⟨A4, c4, hv4, _, hR4⟩ := owns_cells hown4'
  rw [hv4]
  have HR4 := Lib.hid hR4
  clear hown4 hown4' hgrow4 Hown3 hR4 hv4
  go_wp2_with (first
    | (go_at_call 21; (with_reducible refine (Q1.out _ HbE.out).mono ?_); rintro e w5 ⟨rfl, hb5⟩; replace HR4 := Lib.hid (HR4.out.on15 hb5); replace HbE := Lib.hid (HbE.out.trans (hb5.mono HbE.out.size)); clear hb5 Q1)
    | (go_at_call 17; (with_reducible refine (J1.out _ HbE.out).mono ?_); rintro e w8 ⟨rfl, hb8⟩; replace HR4 := Lib.hid (HR4.out.on15 hb8); replace HbE := Lib.hid (HbE.out.trans (hb8.mono HbE.out.size)); clear hb8 J1)
    | (go_at_call 17; (with_reducible refine (J2.out _ HbE.out).mono ?_); rintro e w10 ⟨rfl, hb10⟩; replace HR4 := Lib.hid (HR4.out.on15 hb10); replace HbE := Lib.hid (HbE.out.trans (hb10.mono HbE.out.size)); clear hb10 J2)
    | (go_at_call 17; (with_reducible refine (J3.out A4 c4 _ HR4.out).mono ?_); rintro e w11 ⟨rfl, hb11⟩; replace HbE := Lib.hid (HbE.out.trans (hb11.mono HbE.out.size)); clear hb11 J3)
    | (go_at_call 8; refine (awake15_any _).mono ?_; rintro e w9 ⟨rfl, hb9⟩; replace HbE := Lib.hid (HbE.out.trans (hb9.mono HbE.out.size)); clear hb9))
  go_ret
  exact ⟨rfl, HbE.out⟩
set_option maxRecDepth 100000 in
set_option maxHeartbeats 8000000 in
theorem recordRows_B1 (a b : List Rc) (A B : Option Addr) (n m c d : Nat) (hn : a.length = n) (hm : b.length = m) (w : World) (h1 : fewF a = true) (h2 : fewF b = true) (p : Nat) (hp : p + 1 = n) (m0 : m ≠ 0) (x1 x2 y1 y2 : Int) (hE : REnds w a b A B p x1 x2 y1 y2) (hy : y1 < 9223372036854775808) (o1 : ¬ 1 < y1) (r1 : rrowF a = 0) (r2 : rrowF b ≠ 0) (g0 : (rjoinF (a ++ b)).2 ≠ 0) (hr : Reads w w.heap.size 3 A n (rcs a)) (hs : Reads w w.heap.size 3 B m (rcs b)) :
    Calls Try.prog 6 #[.slice A n c, .slice B m d] w fun e w' => e = .returned (.bool true) ∧ Below w.heap.size w w' := by
  have hf1 := few_any a A n c w hn hr
  rw [h1] at hf1
  have hf2 := few_any b B m d w hm hs
  rw [h2] at hf2
  have l1 := few_len h1
  have l2 := few_len h2
  have nl : n ≤ 200 ∧ m ≤ 200 := by omega
  have Q1 := fun W (hb : Below w.heap.size w W) => p_rrow_any a A n c W hn (by omega) ((hr.below hb).more hb.size)
  have Q2 := fun W (hb : Below w.heap.size w W) => p_rrow_any b B m d W hm (by omega) ((hs.below hb).more hb.size)
  have Q3 := fun A2 c2 W (h : Reads W W.heap.size 3 A2 (n + m) (rcs (a ++ b))) => p_rrow_any (a ++ b) A2 (n + m) c2 W (by rw [List.length_append, hn, hm]) (by omega) h
  have J1 := fun W (hb : Below w.heap.size w W) => p_rjoin_any a A n c W hn (by omega) ((hr.below hb).more hb.size)
  have J2 := fun W (hb : Below w.heap.size w W) => p_rjoin_any b B m d W hm (by omega) ((hs.below hb).more hb.size)
  have J3 := fun A2 c2 W (h : Reads W W.heap.size 3 A2 (n + m) (rcs (a ++ b))) => p_rjoin_any (a ++ b) A2 (n + m) c2 W (by rw [List.length_append, hn, hm]) (by omega) h
  have hcc := rcs_app a b
  obtain ⟨i0, hi, hz0, hz1, hz2⟩ := info_parts rec_info
  obtain ⟨ga, oa, rfl, ca1, ca2⟩ := hE.cell1
  obtain ⟨gb, ob, rfl, cb1, cb2⟩ := hE.cell2
  have hsub : (n : Int) - 1 = (p : Int) := by omega
  have hsub1 : IntKind.i64.wrap ((n : Int) - 1) = (p : Int) := by rw [IntKind.wrap_i64]; omega
  have hsub2 : IntKind.i64.wrap (p : Int) = (p : Int) := by rw [IntKind.wrap_i64]; omega
  have hpn : (0 : Int) ≤ (p : Int) ∧ (p : Int) < (n : Int) := by omega
  have hm1 : (0 : Int) < (m : Int) := by omega
  have k1 : ((n : Int) == 0) = false := beq_eq_false_iff_ne.2 (by omega)
  have k2 : ((m : Int) == 0) = false := beq_eq_false_iff_ne.2 (by omega)
  have t1 : decide ((1 : Int) < y1) = false := decide_eq_false o1
  rw [r1] at Q1
  have u2 : (rrowF b == 0) = false := beq_eq_false_iff_ne.2 r2
  have u4 : ((rjoinF (a ++ b)).2 == 0) = false := beq_eq_false_iff_ne.2 g0
  have Hr := Lib.hid hr
  have Hs := Lib.hid hs
  replace Q1 := Lib.hid Q1
  replace Q2 := Lib.hid Q2
  replace Q3 := Lib.hid Q3
  replace J1 := Lib.hid J1
  replace J2 := Lib.hid J2
  replace J3 := Lib.hid J3
  clear hr hs hE h1 h2 r1 r2 g0
  generalize (rjoinF (a ++ b)).1 = X3 at *
  generalize (rjoinF (a ++ b)).2 = E3 at *
  generalize rrowF (a ++ b) = F3 at *
  have HC : Hid (rcs (a ++ b) = rcs a ++ rcs b) := Lib.hid hcc
  clear hcc hn hm
  generalize rcs (a ++ b) = CC at *
  have o1a := rcs_one a
  have o1b := rcs_one b
  generalize rcs a = CA at *
  generalize rcs b = CB at *
  generalize (rjoinF a).1 = X1 at *
  generalize (rjoinF a).2 = E1 at *
  generalize (rjoinF b).1 = X2 at *
  generalize (rjoinF b).2 = E2 at *
  generalize rrowF a = F1 at *
  generalize rrowF b = F2 at *
  go_enter Try.func6, Try.ntmps6
  go_wp2_with (first
    | (go_at_call 7; (with_reducible refine hf1.mono ?_); rintro e w0 ⟨rfl, hw0⟩; obtain rfl := hw0.symm; clear hf1)
    | (go_at_call 7; (with_reducible refine hf2.mono ?_); rintro e w0 ⟨rfl, hw0⟩; obtain rfl := hw0.symm; clear hf2)
    | fail)
  go_quiet (fail)
  go_wp2_with (at_builtin; refine wpList_append_any _ rfl _ _ 25 rfl w.heap.size 23 i0 (.agg #[.int .i64 0, .int .i64 0, .string ⟨#[]⟩]) 3 32 Try.underlying25 hi hz0 hz1 hz2 rfl (by decide) _ 0 [] rfl ?o1 (some ⟨ga, oa, none⟩) n c w.heap.size CA rfl ?r1 o1a ?c1 ?c2 ?c3 ?_)
  case o1 => exact World.ownsRow_lit _ #[] 0 (Nat.le_refl _) (by decide) rfl
  case r1 => exact Hr.out.below ((below_drewN (Below.refl _ _) _).alloc (Nat.le_refl _) _)
  case c1 => unfold maxLen; omega
  case c2 => omega
  case c3 => simp
  intro v3 w3 hown3 hgrow3
  have Hb3 : Hid (Below w.heap.size w w3) := Lib.hid (((below_drewN (Below.refl _ _) _).alloc (Nat.le_refl _) _).grown hgrow3 (by simp) (fun g hg => by simp [Value.ownBlock] at hg; subst hg; exact Nat.le_refl _))
  have Hown3 := Lib.hid hown3
  clear hown3 hgrow3
  go_wp2_with (at_builtin; refine wpList_append_any _ rfl _ _ 25 rfl w.heap.size 23 i0 (.agg #[.int .i64 0, .int .i64 0, .string ⟨#[]⟩]) 3 32 Try.underlying25 hi hz0 hz1 hz2 rfl (by decide) _ _ _ rfl Hown3.out (some ⟨gb, ob, none⟩) m d w.heap.size CB rfl ?r1 o1b ?c1 ?c2 ?c3 ?_)
  case r1 => exact Hs.out.below Hb3.out
  case c1 => unfold maxLen; omega
  case c2 => omega
  case c3 => exact Hb3.out.size
  intro v4 w4 hown4 hgrow4
  have HbE : Hid (Below w.heap.size w w4) := Lib.hid (Hb3.out.grown hgrow4 Hb3.out.size (fun g hg => (Hown3.out.lt g hg).1))
  have hown4' : w4.ownsRow w.heap.size 23 3 v4 (n + m) CC := by
    rw [HC.out]
    simpa using hown4
  obtain ⟨A4, c4, hv4, _, hR4⟩ := owns_cells hown4'
  rw [hv4]
  have HR4 := Lib.hid hR4
  clear hown4 hown4' hgrow4 Hown3 hR4 hv4
  go_wp2_with (first
    | (go_at_call 21; (with_reducible refine (Q1.out _ HbE.out).mono ?_); rintro e w5 ⟨rfl, hb5⟩; replace HR4 := Lib.hid (HR4.out.on15 hb5); replace HbE := Lib.hid (HbE.out.trans (hb5.mono HbE.out.size)); clear hb5 Q1)
    | (go_at_call 21; (with_reducible refine (Q2.out _ HbE.out).mono ?_); rintro e w6 ⟨rfl, hb6⟩; replace HR4 := Lib.hid (HR4.out.on15 hb6); replace HbE := Lib.hid (HbE.out.trans (hb6.mono HbE.out.size)); clear hb6 Q2)
    | (go_at_call 17; (with_reducible refine (J1.out _ HbE.out).mono ?_); rintro e w8 ⟨rfl, hb8⟩; replace HR4 := Lib.hid (HR4.out.on15 hb8); replace HbE := Lib.hid (HbE.out.trans (hb8.mono HbE.out.size)); clear hb8 J1)
    | (go_at_call 17; (with_reducible refine (J2.out _ HbE.out).mono ?_); rintro e w10 ⟨rfl, hb10⟩; replace HR4 := Lib.hid (HR4.out.on15 hb10); replace HbE := Lib.hid (HbE.out.trans (hb10.mono HbE.out.size)); clear hb10 J2)
    | (go_at_call 17; (with_reducible refine (J3.out A4 c4 _ HR4.out).mono ?_); rintro e w11 ⟨rfl, hb11⟩; replace HbE := Lib.hid (HbE.out.trans (hb11.mono HbE.out.size)); clear hb11 J3)
    | (go_at_call 8; refine (awake15_any _).mono ?_; rintro e w9 ⟨rfl, hb9⟩; replace HbE := Lib.hid (HbE.out.trans (hb9.mono HbE.out.size)); clear hb9))
  go_ret
  exact ⟨rfl, HbE.out⟩
set_option maxRecDepth 100000 in
set_option maxHeartbeats 8000000 in
theorem recordRows_C1 (a b : List Rc) (A B : Option Addr) (n m c d : Nat) (hn : a.length = n) (hm : b.length = m) (w : World) (h1 : fewF a = true) (h2 : fewF b = true) (p : Nat) (hp : p + 1 = n) (m0 : m ≠ 0) (x1 x2 y1 y2 : Int) (hE : REnds w a b A B p x1 x2 y1 y2) (hy : y1 < 9223372036854775808) (o1 : ¬ 1 < y1) (r1 : rrowF a = 0) (r2 : rrowF b = 0) (r3 : rrowF (a ++ b) ≠ 0) (g0 : (rjoinF (a ++ b)).2 ≠ 0) (hr : Reads w w.heap.size 3 A n (rcs a)) (hs : Reads w w.heap.size 3 B m (rcs b)) :
    Calls Try.prog 6 #[.slice A n c, .slice B m d] w fun e w' => e = .returned (.bool true) ∧ Below w.heap.size w w' := by
  have hf1 := few_any a A n c w hn hr
  rw [h1] at hf1
  have hf2 := few_any b B m d w hm hs
  rw [h2] at hf2
  have l1 := few_len h1
  have l2 := few_len h2
  have nl : n ≤ 200 ∧ m ≤ 200 := by omega
  have Q1 := fun W (hb : Below w.heap.size w W) => p_rrow_any a A n c W hn (by omega) ((hr.below hb).more hb.size)
  have Q2 := fun W (hb : Below w.heap.size w W) => p_rrow_any b B m d W hm (by omega) ((hs.below hb).more hb.size)
  have Q3 := fun A2 c2 W (h : Reads W W.heap.size 3 A2 (n + m) (rcs (a ++ b))) => p_rrow_any (a ++ b) A2 (n + m) c2 W (by rw [List.length_append, hn, hm]) (by omega) h
  have J1 := fun W (hb : Below w.heap.size w W) => p_rjoin_any a A n c W hn (by omega) ((hr.below hb).more hb.size)
  have J2 := fun W (hb : Below w.heap.size w W) => p_rjoin_any b B m d W hm (by omega) ((hs.below hb).more hb.size)
  have J3 := fun A2 c2 W (h : Reads W W.heap.size 3 A2 (n + m) (rcs (a ++ b))) => p_rjoin_any (a ++ b) A2 (n + m) c2 W (by rw [List.length_append, hn, hm]) (by omega) h
  have hcc := rcs_app a b
  obtain ⟨i0, hi, hz0, hz1, hz2⟩ := info_parts rec_info
  obtain ⟨ga, oa, rfl, ca1, ca2⟩ := hE.cell1
  obtain ⟨gb, ob, rfl, cb1, cb2⟩ := hE.cell2
  have hsub : (n : Int) - 1 = (p : Int) := by omega
  have hsub1 : IntKind.i64.wrap ((n : Int) - 1) = (p : Int) := by rw [IntKind.wrap_i64]; omega
  have hsub2 : IntKind.i64.wrap (p : Int) = (p : Int) := by rw [IntKind.wrap_i64]; omega
  have hpn : (0 : Int) ≤ (p : Int) ∧ (p : Int) < (n : Int) := by omega
  have hm1 : (0 : Int) < (m : Int) := by omega
  have k1 : ((n : Int) == 0) = false := beq_eq_false_iff_ne.2 (by omega)
  have k2 : ((m : Int) == 0) = false := beq_eq_false_iff_ne.2 (by omega)
  have t1 : decide ((1 : Int) < y1) = false := decide_eq_false o1
  rw [r1] at Q1
  rw [r2] at Q2
  have u3 : (rrowF (a ++ b) == 0) = false := beq_eq_false_iff_ne.2 r3
  have u4 : ((rjoinF (a ++ b)).2 == 0) = false := beq_eq_false_iff_ne.2 g0
  have Hr := Lib.hid hr
  have Hs := Lib.hid hs
  replace Q1 := Lib.hid Q1
  replace Q2 := Lib.hid Q2
  replace Q3 := Lib.hid Q3
  replace J1 := Lib.hid J1
  replace J2 := Lib.hid J2
  replace J3 := Lib.hid J3
  clear hr hs hE h1 h2 r1 r2 r3 g0
  generalize (rjoinF (a ++ b)).1 = X3 at *
  generalize (rjoinF (a ++ b)).2 = E3 at *
  generalize rrowF (a ++ b) = F3 at *
  have HC : Hid (rcs (a ++ b) = rcs a ++ rcs b) := Lib.hid hcc
  clear hcc hn hm
  generalize rcs (a ++ b) = CC at *
  have o1a := rcs_one a
  have o1b := rcs_one b
  generalize rcs a = CA at *
  generalize rcs b = CB at *
  generalize (rjoinF a).1 = X1 at *
  generalize (rjoinF a).2 = E1 at *
  generalize (rjoinF b).1 = X2 at *
  generalize (rjoinF b).2 = E2 at *
  generalize rrowF a = F1 at *
  generalize rrowF b = F2 at *
  go_enter Try.func6, Try.ntmps6
  go_wp2_with (first
    | (go_at_call 7; (with_reducible refine hf1.mono ?_); rintro e w0 ⟨rfl, hw0⟩; obtain rfl := hw0.symm; clear hf1)
    | (go_at_call 7; (with_reducible refine hf2.mono ?_); rintro e w0 ⟨rfl, hw0⟩; obtain rfl := hw0.symm; clear hf2)
    | fail)
  go_quiet (fail)
  go_wp2_with (at_builtin; refine wpList_append_any _ rfl _ _ 25 rfl w.heap.size 23 i0 (.agg #[.int .i64 0, .int .i64 0, .string ⟨#[]⟩]) 3 32 Try.underlying25 hi hz0 hz1 hz2 rfl (by decide) _ 0 [] rfl ?o1 (some ⟨ga, oa, none⟩) n c w.heap.size CA rfl ?r1 o1a ?c1 ?c2 ?c3 ?_)
  case o1 => exact World.ownsRow_lit _ #[] 0 (Nat.le_refl _) (by decide) rfl
  case r1 => exact Hr.out.below ((below_drewN (Below.refl _ _) _).alloc (Nat.le_refl _) _)
  case c1 => unfold maxLen; omega
  case c2 => omega
  case c3 => simp
  intro v3 w3 hown3 hgrow3
  have Hb3 : Hid (Below w.heap.size w w3) := Lib.hid (((below_drewN (Below.refl _ _) _).alloc (Nat.le_refl _) _).grown hgrow3 (by simp) (fun g hg => by simp [Value.ownBlock] at hg; subst hg; exact Nat.le_refl _))
  have Hown3 := Lib.hid hown3
  clear hown3 hgrow3
  go_wp2_with (at_builtin; refine wpList_append_any _ rfl _ _ 25 rfl w.heap.size 23 i0 (.agg #[.int .i64 0, .int .i64 0, .string ⟨#[]⟩]) 3 32 Try.underlying25 hi hz0 hz1 hz2 rfl (by decide) _ _ _ rfl Hown3.out (some ⟨gb, ob, none⟩) m d w.heap.size CB rfl ?r1 o1b ?c1 ?c2 ?c3 ?_)
  case r1 => exact Hs.out.below Hb3.out
  case c1 => unfold maxLen; omega
  case c2 => omega
  case c3 => exact Hb3.out.size
  intro v4 w4 hown4 hgrow4
  have HbE : Hid (Below w.heap.size w w4) := Lib.hid (Hb3.out.grown hgrow4 Hb3.out.size (fun g hg => (Hown3.out.lt g hg).1))
  have hown4' : w4.ownsRow w.heap.size 23 3 v4 (n + m) CC := by
    rw [HC.out]
    simpa using hown4
  obtain ⟨A4, c4, hv4, _, hR4⟩ := owns_cells hown4'
  rw [hv4]
  have HR4 := Lib.hid hR4
  clear hown4 hown4' hgrow4 Hown3 hR4 hv4
  go_wp2_with (first
    | (go_at_call 21; (with_reducible refine (Q1.out _ HbE.out).mono ?_); rintro e w5 ⟨rfl, hb5⟩; replace HR4 := Lib.hid (HR4.out.on15 hb5); replace HbE := Lib.hid (HbE.out.trans (hb5.mono HbE.out.size)); clear hb5 Q1)
    | (go_at_call 21; (with_reducible refine (Q2.out _ HbE.out).mono ?_); rintro e w6 ⟨rfl, hb6⟩; replace HR4 := Lib.hid (HR4.out.on15 hb6); replace HbE := Lib.hid (HbE.out.trans (hb6.mono HbE.out.size)); clear hb6 Q2)
    | (go_at_call 21; (with_reducible refine (Q3.out A4 c4 _ HR4.out).mono ?_); rintro e w7 ⟨rfl, hb7⟩; replace HR4 := Lib.hid (HR4.out.on15 hb7); replace HbE := Lib.hid (HbE.out.trans (hb7.mono HbE.out.size)); clear hb7 Q3)
    | (go_at_call 17; (with_reducible refine (J1.out _ HbE.out).mono ?_); rintro e w8 ⟨rfl, hb8⟩; replace HR4 := Lib.hid (HR4.out.on15 hb8); replace HbE := Lib.hid (HbE.out.trans (hb8.mono HbE.out.size)); clear hb8 J1)
    | (go_at_call 17; (with_reducible refine (J2.out _ HbE.out).mono ?_); rintro e w10 ⟨rfl, hb10⟩; replace HR4 := Lib.hid (HR4.out.on15 hb10); replace HbE := Lib.hid (HbE.out.trans (hb10.mono HbE.out.size)); clear hb10 J2)
    | (go_at_call 17; (with_reducible refine (J3.out A4 c4 _ HR4.out).mono ?_); rintro e w11 ⟨rfl, hb11⟩; replace HbE := Lib.hid (HbE.out.trans (hb11.mono HbE.out.size)); clear hb11 J3)
    | (go_at_call 8; refine (awake15_any _).mono ?_; rintro e w9 ⟨rfl, hb9⟩; replace HbE := Lib.hid (HbE.out.trans (hb9.mono HbE.out.size)); clear hb9))
  go_ret
  exact ⟨rfl, HbE.out⟩
set_option maxRecDepth 100000 in
set_option maxHeartbeats 8000000 in
theorem recordRows_A2 (a b : List Rc) (A B : Option Addr) (n m c d : Nat) (hn : a.length = n) (hm : b.length = m) (w : World) (h1 : fewF a = true) (h2 : fewF b = true) (p : Nat) (hp : p + 1 = n) (m0 : m ≠ 0) (x1 x2 y1 y2 : Int) (hE : REnds w a b A B p x1 x2 y1 y2) (hy : y1 < 9223372036854775808) (o1 : 1 < y1) (o2 : x1 ≠ y1 - 1) (r1 : rrowF a ≠ 0) (g0 : (rjoinF (a ++ b)).2 ≠ 0) (hr : Reads w w.heap.size 3 A n (rcs a)) (hs : Reads w w.heap.size 3 B m (rcs b)) :
    Calls Try.prog 6 #[.slice A n c, .slice B m d] w fun e w' => e = .returned (.bool true) ∧ Below w.heap.size w w' := by
  have hf1 := few_any a A n c w hn hr
  rw [h1] at hf1
  have hf2 := few_any b B m d w hm hs
  rw [h2] at hf2
  have l1 := few_len h1
  have l2 := few_len h2
  have nl : n ≤ 200 ∧ m ≤ 200 := by omega
  have Q1 := fun W (hb : Below w.heap.size w W) => p_rrow_any a A n c W hn (by omega) ((hr.below hb).more hb.size)
  have Q2 := fun W (hb : Below w.heap.size w W) => p_rrow_any b B m d W hm (by omega) ((hs.below hb).more hb.size)
  have Q3 := fun A2 c2 W (h : Reads W W.heap.size 3 A2 (n + m) (rcs (a ++ b))) => p_rrow_any (a ++ b) A2 (n + m) c2 W (by rw [List.length_append, hn, hm]) (by omega) h
  have J1 := fun W (hb : Below w.heap.size w W) => p_rjoin_any a A n c W hn (by omega) ((hr.below hb).more hb.size)
  have J2 := fun W (hb : Below w.heap.size w W) => p_rjoin_any b B m d W hm (by omega) ((hs.below hb).more hb.size)
  have J3 := fun A2 c2 W (h : Reads W W.heap.size 3 A2 (n + m) (rcs (a ++ b))) => p_rjoin_any (a ++ b) A2 (n + m) c2 W (by rw [List.length_append, hn, hm]) (by omega) h
  have hcc := rcs_app a b
  obtain ⟨i0, hi, hz0, hz1, hz2⟩ := info_parts rec_info
  obtain ⟨ga, oa, rfl, ca1, ca2⟩ := hE.cell1
  obtain ⟨gb, ob, rfl, cb1, cb2⟩ := hE.cell2
  have hsub : (n : Int) - 1 = (p : Int) := by omega
  have hsub1 : IntKind.i64.wrap ((n : Int) - 1) = (p : Int) := by rw [IntKind.wrap_i64]; omega
  have hsub2 : IntKind.i64.wrap (p : Int) = (p : Int) := by rw [IntKind.wrap_i64]; omega
  have hpn : (0 : Int) ≤ (p : Int) ∧ (p : Int) < (n : Int) := by omega
  have hm1 : (0 : Int) < (m : Int) := by omega
  have k1 : ((n : Int) == 0) = false := beq_eq_false_iff_ne.2 (by omega)
  have k2 : ((m : Int) == 0) = false := beq_eq_false_iff_ne.2 (by omega)
  have hyw : IntKind.i64.wrap (y1 - 1) = y1 - 1 := by rw [IntKind.wrap_i64]; omega
  have t1 : decide ((1 : Int) < y1) = true := decide_eq_true o1
  have t2 : (x1 == y1 - 1) = false := beq_eq_false_iff_ne.2 o2
  have u1 : (rrowF a == 0) = false := beq_eq_false_iff_ne.2 r1
  have u4 : ((rjoinF (a ++ b)).2 == 0) = false := beq_eq_false_iff_ne.2 g0
  have Hr := Lib.hid hr
  have Hs := Lib.hid hs
  replace Q1 := Lib.hid Q1
  replace Q2 := Lib.hid Q2
  replace Q3 := Lib.hid Q3
  replace J1 := Lib.hid J1
  replace J2 := Lib.hid J2
  replace J3 := Lib.hid J3
  clear hr hs hE h1 h2 r1 g0
  generalize (rjoinF (a ++ b)).1 = X3 at *
  generalize (rjoinF (a ++ b)).2 = E3 at *
  generalize rrowF (a ++ b) = F3 at *
  have HC : Hid (rcs (a ++ b) = rcs a ++ rcs b) := Lib.hid hcc
  clear hcc hn hm
  generalize rcs (a ++ b) = CC at *
  have o1a := rcs_one a
  have o1b := rcs_one b
  generalize rcs a = CA at *
  generalize rcs b = CB at *
  generalize (rjoinF a).1 = X1 at *
  generalize (rjoinF a).2 = E1 at *
  generalize (rjoinF b).1 = X2 at *
  generalize (rjoinF b).2 = E2 at *
  generalize rrowF a = F1 at *
  generalize rrowF b = F2 at *
  go_enter Try.func6, Try.ntmps6
  go_wp2_with (first
    | (go_at_call 7; (with_reducible refine hf1.mono ?_); rintro e w0 ⟨rfl, hw0⟩; obtain rfl := hw0.symm; clear hf1)
    | (go_at_call 7; (with_reducible refine hf2.mono ?_); rintro e w0 ⟨rfl, hw0⟩; obtain rfl := hw0.symm; clear hf2)
    | fail)
  go_quiet (fail)
  go_wp2_with (at_builtin; refine wpList_append_any _ rfl _ _ 25 rfl w.heap.size 23 i0 (.agg #[.int .i64 0, .int .i64 0, .string ⟨#[]⟩]) 3 32 Try.underlying25 hi hz0 hz1 hz2 rfl (by decide) _ 0 [] rfl ?o1 (some ⟨ga, oa, none⟩) n c w.heap.size CA rfl ?r1 o1a ?c1 ?c2 ?c3 ?_)
  case o1 => exact World.ownsRow_lit _ #[] 0 (Nat.le_refl _) (by decide) rfl
  case r1 => exact Hr.out.below ((below_drewN (Below.refl _ _) _).alloc (Nat.le_refl _) _)
  case c1 => unfold maxLen; omega
  case c2 => omega
  case c3 => simp
  intro v3 w3 hown3 hgrow3
  have Hb3 : Hid (Below w.heap.size w w3) := Lib.hid (((below_drewN (Below.refl _ _) _).alloc (Nat.le_refl _) _).grown hgrow3 (by simp) (fun g hg => by simp [Value.ownBlock] at hg; subst hg; exact Nat.le_refl _))
  have Hown3 := Lib.hid hown3
  clear hown3 hgrow3
  go_wp2_with (at_builtin; refine wpList_append_any _ rfl _ _ 25 rfl w.heap.size 23 i0 (.agg #[.int .i64 0, .int .i64 0, .string ⟨#[]⟩]) 3 32 Try.underlying25 hi hz0 hz1 hz2 rfl (by decide) _ _ _ rfl Hown3.out (some ⟨gb, ob, none⟩) m d w.heap.size CB rfl ?r1 o1b ?c1 ?c2 ?c3 ?_)
  case r1 => exact Hs.out.below Hb3.out
  case c1 => unfold maxLen; omega
  case c2 => omega
  case c3 => exact Hb3.out.size
  intro v4 w4 hown4 hgrow4
  have HbE : Hid (Below w.heap.size w w4) := Lib.hid (Hb3.out.grown hgrow4 Hb3.out.size (fun g hg => (Hown3.out.lt g hg).1))
  have hown4' : w4.ownsRow w.heap.size 23 3 v4 (n + m) CC := by
    rw [HC.out]
    simpa using hown4
  obtain ⟨A4, c4, hv4, _, hR4⟩ := owns_cells hown4'
  rw [hv4]
  have HR4 := Lib.hid hR4
  clear hown4 hown4' hgrow4 Hown3 hR4 hv4
  go_wp2_with (first
    | (go_at_call 21; (with_reducible refine (Q1.out _ HbE.out).mono ?_); rintro e w5 ⟨rfl, hb5⟩; replace HR4 := Lib.hid (HR4.out.on15 hb5); replace HbE := Lib.hid (HbE.out.trans (hb5.mono HbE.out.size)); clear hb5 Q1)
    | (go_at_call 17; (with_reducible refine (J1.out _ HbE.out).mono ?_); rintro e w8 ⟨rfl, hb8⟩; replace HR4 := Lib.hid (HR4.out.on15 hb8); replace HbE := Lib.hid (HbE.out.trans (hb8.mono HbE.out.size)); clear hb8 J1)
    | (go_at_call 17; (with_reducible refine (J2.out _ HbE.out).mono ?_); rintro e w10 ⟨rfl, hb10⟩; replace HR4 := Lib.hid (HR4.out.on15 hb10); replace HbE := Lib.hid (HbE.out.trans (hb10.mono HbE.out.size)); clear hb10 J2)
    | (go_at_call 17; (with_reducible refine (J3.out A4 c4 _ HR4.out).mono ?_); rintro e w11 ⟨rfl, hb11⟩; replace HbE := Lib.hid (HbE.out.trans (hb11.mono HbE.out.size)); clear hb11 J3)
    | (go_at_call 8; refine (awake15_any _).mono ?_; rintro e w9 ⟨rfl, hb9⟩; replace HbE := Lib.hid (HbE.out.trans (hb9.mono HbE.out.size)); clear hb9))
  go_ret
  exact ⟨rfl, HbE.out⟩
set_option maxRecDepth 100000 in
set_option maxHeartbeats 8000000 in
theorem recordRows_B2 (a b : List Rc) (A B : Option Addr) (n m c d : Nat) (hn : a.length = n) (hm : b.length = m) (w : World) (h1 : fewF a = true) (h2 : fewF b = true) (p : Nat) (hp : p + 1 = n) (m0 : m ≠ 0) (x1 x2 y1 y2 : Int) (hE : REnds w a b A B p x1 x2 y1 y2) (hy : y1 < 9223372036854775808) (o1 : 1 < y1) (o2 : x1 ≠ y1 - 1) (r1 : rrowF a = 0) (r2 : rrowF b ≠ 0) (g0 : (rjoinF (a ++ b)).2 ≠ 0) (hr : Reads w w.heap.size 3 A n (rcs a)) (hs : Reads w w.heap.size 3 B m (rcs b)) :
    Calls Try.prog 6 #[.slice A n c, .slice B m d] w fun e w' => e = .returned (.bool true) ∧ Below w.heap.size w w' := by
  have hf1 := few_any a A n c w hn hr
  rw [h1] at hf1
  have hf2 := few_any b B m d w hm hs
  rw [h2] at hf2
  have l1 := few_len h1
  have l2 := few_len h2
  have nl : n ≤ 200 ∧ m ≤ 200 := by omega
  have Q1 := fun W (hb : Below w.heap.size w W) => p_rrow_any a A n c W hn (by omega) ((hr.below hb).more hb.size)
  have Q2 := fun W (hb : Below w.heap.size w W) => p_rrow_any b B m d W hm (by omega) ((hs.below hb).more hb.size)
  have Q3 := fun A2 c2 W (h : Reads W W.heap.size 3 A2 (n + m) (rcs (a ++ b))) => p_rrow_any (a ++ b) A2 (n + m) c2 W (by rw [List.length_append, hn, hm]) (by omega) h
  have J1 := fun W (hb : Below w.heap.size w W) => p_rjoin_any a A n c W hn (by omega) ((hr.below hb).more hb.size)
  have J2 := fun W (hb : Below w.heap.size w W) => p_rjoin_any b B m d W hm (by omega) ((hs.below hb).more hb.size)
  have J3 := fun A2 c2 W (h : Reads W W.heap.size 3 A2 (n + m) (rcs (a ++ b))) => p_rjoin_any (a ++ b) A2 (n + m) c2 W (by rw [List.length_append, hn, hm]) (by omega) h
  have hcc := rcs_app a b
  obtain ⟨i0, hi, hz0, hz1, hz2⟩ := info_parts rec_info
  obtain ⟨ga, oa, rfl, ca1, ca2⟩ := hE.cell1
  obtain ⟨gb, ob, rfl, cb1, cb2⟩ := hE.cell2
  have hsub : (n : Int) - 1 = (p : Int) := by omega
  have hsub1 : IntKind.i64.wrap ((n : Int) - 1) = (p : Int) := by rw [IntKind.wrap_i64]; omega
  have hsub2 : IntKind.i64.wrap (p : Int) = (p : Int) := by rw [IntKind.wrap_i64]; omega
  have hpn : (0 : Int) ≤ (p : Int) ∧ (p : Int) < (n : Int) := by omega
  have hm1 : (0 : Int) < (m : Int) := by omega
  have k1 : ((n : Int) == 0) = false := beq_eq_false_iff_ne.2 (by omega)
  have k2 : ((m : Int) == 0) = false := beq_eq_false_iff_ne.2 (by omega)
  have hyw : IntKind.i64.wrap (y1 - 1) = y1 - 1 := by rw [IntKind.wrap_i64]; omega
  have t1 : decide ((1 : Int) < y1) = true := decide_eq_true o1
  have t2 : (x1 == y1 - 1) = false := beq_eq_false_iff_ne.2 o2
  rw [r1] at Q1
  have u2 : (rrowF b == 0) = false := beq_eq_false_iff_ne.2 r2
  have u4 : ((rjoinF (a ++ b)).2 == 0) = false := beq_eq_false_iff_ne.2 g0
  have Hr := Lib.hid hr
  have Hs := Lib.hid hs
  replace Q1 := Lib.hid Q1
  replace Q2 := Lib.hid Q2
  replace Q3 := Lib.hid Q3
  replace J1 := Lib.hid J1
  replace J2 := Lib.hid J2
  replace J3 := Lib.hid J3
  clear hr hs hE h1 h2 r1 r2 g0
  generalize (rjoinF (a ++ b)).1 = X3 at *
  generalize (rjoinF (a ++ b)).2 = E3 at *
  generalize rrowF (a ++ b) = F3 at *
  have HC : Hid (rcs (a ++ b) = rcs a ++ rcs b) := Lib.hid hcc
  clear hcc hn hm
  generalize rcs (a ++ b) = CC at *
  have o1a := rcs_one a
  have o1b := rcs_one b
  generalize rcs a = CA at *
  generalize rcs b = CB at *
  generalize (rjoinF a).1 = X1 at *
  generalize (rjoinF a).2 = E1 at *
  generalize (rjoinF b).1 = X2 at *
  generalize (rjoinF b).2 = E2 at *
  generalize rrowF a = F1 at *
  generalize rrowF b = F2 at *
  go_enter Try.func6, Try.ntmps6
  go_wp2_with (first
    | (go_at_call 7; (with_reducible refine hf1.mono ?_); rintro e w0 ⟨rfl, hw0⟩; obtain rfl := hw0.symm; clear hf1)
    | (go_at_call 7; (with_reducible refine hf2.mono ?_); rintro e w0 ⟨rfl, hw0⟩; obtain rfl := hw0.symm; clear hf2)
    | fail)
  go_quiet (fail)
  go_wp2_with (at_builtin; refine wpList_append_any _ rfl _ _ 25 rfl w.heap.size 23 i0 (.agg #[.int .i64 0, .int .i64 0, .string ⟨#[]⟩]) 3 32 Try.underlying25 hi hz0 hz1 hz2 rfl (by decide) _ 0 [] rfl ?o1 (some ⟨ga, oa, none⟩) n c w.heap.size CA rfl ?r1 o1a ?c1 ?c2 ?c3 ?_)
  case o1 => exact World.ownsRow_lit _ #[] 0 (Nat.le_refl _) (by decide) rfl
  case r1 => exact Hr.out.below ((below_drewN (Below.refl _ _) _).alloc (Nat.le_refl _) _)
  case c1 => unfold maxLen; omega
  case c2 => omega
  case c3 => simp
  intro v3 w3 hown3 hgrow3
  have Hb3 : Hid (Below w.heap.size w w3) := Lib.hid (((below_drewN (Below.refl _ _) _).alloc (Nat.le_refl _) _).grown hgrow3 (by simp) (fun g hg => by simp [Value.ownBlock] at hg; subst hg; exact Nat.le_refl _))
  have Hown3 := Lib.hid hown3
  clear hown3 hgrow3
  go_wp2_with (at_builtin; refine wpList_append_any _ rfl _ _ 25 rfl w.heap.size 23 i0 (.agg #[.int .i64 0, .int .i64 0, .string ⟨#[]⟩]) 3 32 Try.underlying25 hi hz0 hz1 hz2 rfl (by decide) _ _ _ rfl Hown3.out (some ⟨gb, ob, none⟩) m d w.heap.size CB rfl ?r1 o1b ?c1 ?c2 ?c3 ?_)
  case r1 => exact Hs.out.below Hb3.out
  case c1 => unfold maxLen; omega
  case c2 => omega
  case c3 => exact Hb3.out.size
  intro v4 w4 hown4 hgrow4
  have HbE : Hid (Below w.heap.size w w4) := Lib.hid (Hb3.out.grown hgrow4 Hb3.out.size (fun g hg => (Hown3.out.lt g hg).1))
  have hown4' : w4.ownsRow w.heap.size 23 3 v4 (n + m) CC := by
    rw [HC.out]
    simpa using hown4
  obtain ⟨A4, c4, hv4, _, hR4⟩ := owns_cells hown4'
  rw [hv4]
  have HR4 := Lib.hid hR4
  clear hown4 hown4' hgrow4 Hown3 hR4 hv4
  go_wp2_with (first
    | (go_at_call 21; (with_reducible refine (Q1.out _ HbE.out).mono ?_); rintro e w5 ⟨rfl, hb5⟩; replace HR4 := Lib.hid (HR4.out.on15 hb5); replace HbE := Lib.hid (HbE.out.trans (hb5.mono HbE.out.size)); clear hb5 Q1)
    | (go_at_call 21; (with_reducible refine (Q2.out _ HbE.out).mono ?_); rintro e w6 ⟨rfl, hb6⟩; replace HR4 := Lib.hid (HR4.out.on15 hb6); replace HbE := Lib.hid (HbE.out.trans (hb6.mono HbE.out.size)); clear hb6 Q2)
    | (go_at_call 17; (with_reducible refine (J1.out _ HbE.out).mono ?_); rintro e w8 ⟨rfl, hb8⟩; replace HR4 := Lib.hid (HR4.out.on15 hb8); replace HbE := Lib.hid (HbE.out.trans (hb8.mono HbE.out.size)); clear hb8 J1)
    | (go_at_call 17; (with_reducible refine (J2.out _ HbE.out).mono ?_); rintro e w10 ⟨rfl, hb10⟩; replace HR4 := Lib.hid (HR4.out.on15 hb10); replace HbE := Lib.hid (HbE.out.trans (hb10.mono HbE.out.size)); clear hb10 J2)
    | (go_at_call 17; (with_reducible refine (J3.out A4 c4 _ HR4.out).mono ?_); rintro e w11 ⟨rfl, hb11⟩; replace HbE := Lib.hid (HbE.out.trans (hb11.mono HbE.out.size)); clear hb11 J3)
    | (go_at_call 8; refine (awake15_any _).mono ?_; rintro e w9 ⟨rfl, hb9⟩; replace HbE := Lib.hid (HbE.out.trans (hb9.mono HbE.out.size)); clear hb9))
  go_ret
  exact ⟨rfl, HbE.out⟩
set_option maxRecDepth 100000 in
set_option maxHeartbeats 8000000 in
theorem recordRows_C2 (a b : List Rc) (A B : Option Addr) (n m c d : Nat) (hn : a.length = n) (hm : b.length = m) (w : World) (h1 : fewF a = true) (h2 : fewF b = true) (p : Nat) (hp : p + 1 = n) (m0 : m ≠ 0) (x1 x2 y1 y2 : Int) (hE : REnds w a b A B p x1 x2 y1 y2) (hy : y1 < 9223372036854775808) (o1 : 1 < y1) (o2 : x1 ≠ y1 - 1) (r1 : rrowF a = 0) (r2 : rrowF b = 0) (r3 : rrowF (a ++ b) ≠ 0) (g0 : (rjoinF (a ++ b)).2 ≠ 0) (hr : Reads w w.heap.size 3 A n (rcs a)) (hs : Reads w w.heap.size 3 B m (rcs b)) :
    Calls Try.prog 6 #[.slice A n c, .slice B m d] w fun e w' => e = .returned (.bool true) ∧ Below w.heap.size w w' := by
  have hf1 := few_any a A n c w hn hr
  rw [h1] at hf1
  have hf2 := few_any b B m d w hm hs
  rw [h2] at hf2
  have l1 := few_len h1
  have l2 := few_len h2
  have nl : n ≤ 200 ∧ m ≤ 200 := by omega
  have Q1 := fun W (hb : Below w.heap.size w W) => p_rrow_any a A n c W hn (by omega) ((hr.below hb).more hb.size)
  have Q2 := fun W (hb : Below w.heap.size w W) => p_rrow_any b B m d W hm (by omega) ((hs.below hb).more hb.size)
  have Q3 := fun A2 c2 W (h : Reads W W.heap.size 3 A2 (n + m) (rcs (a ++ b))) => p_rrow_any (a ++ b) A2 (n + m) c2 W (by rw [List.length_append, hn, hm]) (by omega) h
  have J1 := fun W (hb : Below w.heap.size w W) => p_rjoin_any a A n c W hn (by omega) ((hr.below hb).more hb.size)
  have J2 := fun W (hb : Below w.heap.size w W) => p_rjoin_any b B m d W hm (by omega) ((hs.below hb).more hb.size)
  have J3 := fun A2 c2 W (h : Reads W W.heap.size 3 A2 (n + m) (rcs (a ++ b))) => p_rjoin_any (a ++ b) A2 (n + m) c2 W (by rw [List.length_append, hn, hm]) (by omega) h
  have hcc := rcs_app a b
  obtain ⟨i0, hi, hz0, hz1, hz2⟩ := info_parts rec_info
  obtain ⟨ga, oa, rfl, ca1, ca2⟩ := hE.cell1
  obtain ⟨gb, ob, rfl, cb1, cb2⟩ := hE.cell2
  have hsub : (n : Int) - 1 = (p : Int) := by omega
  have hsub1 : IntKind.i64.wrap ((n : Int) - 1) = (p : Int) := by rw [IntKind.wrap_i64]; omega
  have hsub2 : IntKind.i64.wrap (p : Int) = (p : Int) := by rw [IntKind.wrap_i64]; omega
  have hpn : (0 : Int) ≤ (p : Int) ∧ (p : Int) < (n : Int) := by omega
  have hm1 : (0 : Int) < (m : Int) := by omega
  have k1 : ((n : Int) == 0) = false := beq_eq_false_iff_ne.2 (by omega)
  have k2 : ((m : Int) == 0) = false := beq_eq_false_iff_ne.2 (by omega)
  have hyw : IntKind.i64.wrap (y1 - 1) = y1 - 1 := by rw [IntKind.wrap_i64]; omega
  have t1 : decide ((1 : Int) < y1) = true := decide_eq_true o1
  have t2 : (x1 == y1 - 1) = false := beq_eq_false_iff_ne.2 o2
  rw [r1] at Q1
  rw [r2] at Q2
  have u3 : (rrowF (a ++ b) == 0) = false := beq_eq_false_iff_ne.2 r3
  have u4 : ((rjoinF (a ++ b)).2 == 0) = false := beq_eq_false_iff_ne.2 g0
  have Hr := Lib.hid hr
  have Hs := Lib.hid hs
  replace Q1 := Lib.hid Q1
  replace Q2 := Lib.hid Q2
  replace Q3 := Lib.hid Q3
  replace J1 := Lib.hid J1
  replace J2 := Lib.hid J2
  replace J3 := Lib.hid J3
  clear hr hs hE h1 h2 r1 r2 r3 g0
  generalize (rjoinF (a ++ b)).1 = X3 at *
  generalize (rjoinF (a ++ b)).2 = E3 at *
  generalize rrowF (a ++ b) = F3 at *
  have HC : Hid (rcs (a ++ b) = rcs a ++ rcs b) := Lib.hid hcc
  clear hcc hn hm
  generalize rcs (a ++ b) = CC at *
  have o1a := rcs_one a
  have o1b := rcs_one b
  generalize rcs a = CA at *
  generalize rcs b = CB at *
  generalize (rjoinF a).1 = X1 at *
  generalize (rjoinF a).2 = E1 at *
  generalize (rjoinF b).1 = X2 at *
  generalize (rjoinF b).2 = E2 at *
  generalize rrowF a = F1 at *
  generalize rrowF b = F2 at *
  go_enter Try.func6, Try.ntmps6
  go_wp2_with (first
    | (go_at_call 7; (with_reducible refine hf1.mono ?_); rintro e w0 ⟨rfl, hw0⟩; obtain rfl := hw0.symm; clear hf1)
    | (go_at_call 7; (with_reducible refine hf2.mono ?_); rintro e w0 ⟨rfl, hw0⟩; obtain rfl := hw0.symm; clear hf2)
    | fail)
  go_quiet (fail)
  go_wp2_with (at_builtin; refine wpList_append_any _ rfl _ _ 25 rfl w.heap.size 23 i0 (.agg #[.int .i64 0, .int .i64 0, .string ⟨#[]⟩]) 3 32 Try.underlying25 hi hz0 hz1 hz2 rfl (by decide) _ 0 [] rfl ?o1 (some ⟨ga, oa, none⟩) n c w.heap.size CA rfl ?r1 o1a ?c1 ?c2 ?c3 ?_)
  case o1 => exact World.ownsRow_lit _ #[] 0 (Nat.le_refl _) (by decide) rfl
  case r1 => exact Hr.out.below ((below_drewN (Below.refl _ _) _).alloc (Nat.le_refl _) _)
  case c1 => unfold maxLen; omega
  case c2 => omega
  case c3 => simp
  intro v3 w3 hown3 hgrow3
  have Hb3 : Hid (Below w.heap.size w w3) := Lib.hid (((below_drewN (Below.refl _ _) _).alloc (Nat.le_refl _) _).grown hgrow3 (by simp) (fun g hg => by simp [Value.ownBlock] at hg; subst hg; exact Nat.le_refl _))
  have Hown3 := Lib.hid hown3
  clear hown3 hgrow3
  go_wp2_with (at_builtin; refine wpList_append_any _ rfl _ _ 25 rfl w.heap.size 23 i0 (.agg #[.int .i64 0, .int .i64 0, .string ⟨#[]⟩]) 3 32 Try.underlying25 hi hz0 hz1 hz2 rfl (by decide) _ _ _ rfl Hown3.out (some ⟨gb, ob, none⟩) m d w.heap.size CB rfl ?r1 o1b ?c1 ?c2 ?c3 ?_)
  case r1 => exact Hs.out.below Hb3.out
  case c1 => unfold maxLen; omega
  case c2 => omega
  case c3 => exact Hb3.out.size
  intro v4 w4 hown4 hgrow4
  have HbE : Hid (Below w.heap.size w w4) := Lib.hid (Hb3.out.grown hgrow4 Hb3.out.size (fun g hg => (Hown3.out.lt g hg).1))
  have hown4' : w4.ownsRow w.heap.size 23 3 v4 (n + m) CC := by
    rw [HC.out]
    simpa using hown4
  obtain ⟨A4, c4, hv4, _, hR4⟩ := owns_cells hown4'
  rw [hv4]
  have HR4 := Lib.hid hR4
  clear hown4 hown4' hgrow4 Hown3 hR4 hv4
  go_wp2_with (first
    | (go_at_call 21; (with_reducible refine (Q1.out _ HbE.out).mono ?_); rintro e w5 ⟨rfl, hb5⟩; replace HR4 := Lib.hid (HR4.out.on15 hb5); replace HbE := Lib.hid (HbE.out.trans (hb5.mono HbE.out.size)); clear hb5 Q1)
    | (go_at_call 21; (with_reducible refine (Q2.out _ HbE.out).mono ?_); rintro e w6 ⟨rfl, hb6⟩; replace HR4 := Lib.hid (HR4.out.on15 hb6); replace HbE := Lib.hid (HbE.out.trans (hb6.mono HbE.out.size)); clear hb6 Q2)
    | (go_at_call 21; (with_reducible refine (Q3.out A4 c4 _ HR4.out).mono ?_); rintro e w7 ⟨rfl, hb7⟩; replace HR4 := Lib.hid (HR4.out.on15 hb7); replace HbE := Lib.hid (HbE.out.trans (hb7.mono HbE.out.size)); clear hb7 Q3)
    | (go_at_call 17; (with_reducible refine (J1.out _ HbE.out).mono ?_); rintro e w8 ⟨rfl, hb8⟩; replace HR4 := Lib.hid (HR4.out.on15 hb8); replace HbE := Lib.hid (HbE.out.trans (hb8.mono HbE.out.size)); clear hb8 J1)
    | (go_at_call 17; (with_reducible refine (J2.out _ HbE.out).mono ?_); rintro e w10 ⟨rfl, hb10⟩; replace HR4 := Lib.hid (HR4.out.on15 hb10); replace HbE := Lib.hid (HbE.out.trans (hb10.mono HbE.out.size)); clear hb10 J2)
    | (go_at_call 17; (with_reducible refine (J3.out A4 c4 _ HR4.out).mono ?_); rintro e w11 ⟨rfl, hb11⟩; replace HbE := Lib.hid (HbE.out.trans (hb11.mono HbE.out.size)); clear hb11 J3)
    | (go_at_call 8; refine (awake15_any _).mono ?_; rintro e w9 ⟨rfl, hb9⟩; replace HbE := Lib.hid (HbE.out.trans (hb9.mono HbE.out.size)); clear hb9))
  go_ret
  exact ⟨rfl, HbE.out⟩
set_option maxRecDepth 100000 in
set_option maxHeartbeats 8000000 in
theorem recordRows_A3 (a b : List Rc) (A B : Option Addr) (n m c d : Nat) (hn : a.length = n) (hm : b.length = m) (w : World) (h1 : fewF a = true) (h2 : fewF b = true) (p : Nat) (hp : p + 1 = n) (m0 : m ≠ 0) (x1 x2 y1 y2 : Int) (hE : REnds w a b A B p x1 x2 y1 y2) (hy : y1 < 9223372036854775808) (o1 : 1 < y1) (o2 : x1 = y1 - 1) (o3 : ¬ x2 ≤ y2) (r1 : rrowF a ≠ 0) (g0 : (rjoinF (a ++ b)).2 ≠ 0) (hr : Reads w w.heap.size 3 A n (rcs a)) (hs : Reads w w.heap.size 3 B m (rcs b)) :
    Calls Try.prog 6 #[.slice A n c, .slice B m d] w fun e w' => e = .returned (.bool true) ∧ Below w.heap.size w w' := by
  have hf1 := few_any a A n c w hn hr
  rw [h1] at hf1
  have hf2 := few_any b B m d w hm hs
  rw [h2] at hf2
  have l1 := few_len h1
  have l2 := few_len h2
  have nl : n ≤ 200 ∧ m ≤ 200 := by omega
  have Q1 := fun W (hb : Below w.heap.size w W) => p_rrow_any a A n c W hn (by omega) ((hr.below hb).more hb.size)
  have Q2 := fun W (hb : Below w.heap.size w W) => p_rrow_any b B m d W hm (by omega) ((hs.below hb).more hb.size)
  have Q3 := fun A2 c2 W (h : Reads W W.heap.size 3 A2 (n + m) (rcs (a ++ b))) => p_rrow_any (a ++ b) A2 (n + m) c2 W (by rw [List.length_append, hn, hm]) (by omega) h
  have J1 := fun W (hb : Below w.heap.size w W) => p_rjoin_any a A n c W hn (by omega) ((hr.below hb).more hb.size)
  have J2 := fun W (hb : Below w.heap.size w W) => p_rjoin_any b B m d W hm (by omega) ((hs.below hb).more hb.size)
  have J3 := fun A2 c2 W (h : Reads W W.heap.size 3 A2 (n + m) (rcs (a ++ b))) => p_rjoin_any (a ++ b) A2 (n + m) c2 W (by rw [List.length_append, hn, hm]) (by omega) h
  have hcc := rcs_app a b
  obtain ⟨i0, hi, hz0, hz1, hz2⟩ := info_parts rec_info
  obtain ⟨ga, oa, rfl, ca1, ca2⟩ := hE.cell1
  obtain ⟨gb, ob, rfl, cb1, cb2⟩ := hE.cell2
  have hsub : (n : Int) - 1 = (p : Int) := by omega
  have hsub1 : IntKind.i64.wrap ((n : Int) - 1) = (p : Int) := by rw [IntKind.wrap_i64]; omega
  have hsub2 : IntKind.i64.wrap (p : Int) = (p : Int) := by rw [IntKind.wrap_i64]; omega
  have hpn : (0 : Int) ≤ (p : Int) ∧ (p : Int) < (n : Int) := by omega
  have hm1 : (0 : Int) < (m : Int) := by omega
  have k1 : ((n : Int) == 0) = false := beq_eq_false_iff_ne.2 (by omega)
  have k2 : ((m : Int) == 0) = false := beq_eq_false_iff_ne.2 (by omega)
  have hyw : IntKind.i64.wrap (y1 - 1) = y1 - 1 := by rw [IntKind.wrap_i64]; omega
  have t1 : decide ((1 : Int) < y1) = true := decide_eq_true o1
  have t3 : decide (x2 ≤ y2) = false := decide_eq_false o3
  have u1 : (rrowF a == 0) = false := beq_eq_false_iff_ne.2 r1
  have u4 : ((rjoinF (a ++ b)).2 == 0) = false := beq_eq_false_iff_ne.2 g0
  have Hr := Lib.hid hr
  have Hs := Lib.hid hs
  replace Q1 := Lib.hid Q1
  replace Q2 := Lib.hid Q2
  replace Q3 := Lib.hid Q3
  replace J1 := Lib.hid J1
  replace J2 := Lib.hid J2
  replace J3 := Lib.hid J3
  clear hr hs hE h1 h2 r1 g0
  generalize (rjoinF (a ++ b)).1 = X3 at *
  generalize (rjoinF (a ++ b)).2 = E3 at *
  generalize rrowF (a ++ b) = F3 at *
  have HC : Hid (rcs (a ++ b) = rcs a ++ rcs b) := Lib.hid hcc
  clear hcc hn hm
  generalize rcs (a ++ b) = CC at *
  have o1a := rcs_one a
  have o1b := rcs_one b
  generalize rcs a = CA at *
  generalize rcs b = CB at *
  generalize (rjoinF a).1 = X1 at *
  generalize (rjoinF a).2 = E1 at *
  generalize (rjoinF b).1 = X2 at *
  generalize (rjoinF b).2 = E2 at *
  generalize rrowF a = F1 at *
  generalize rrowF b = F2 at *
  go_enter Try.func6, Try.ntmps6
  go_wp2_with (first
    | (go_at_call 7; (with_reducible refine hf1.mono ?_); rintro e w0 ⟨rfl, hw0⟩; obtain rfl := hw0.symm; clear hf1)
    | (go_at_call 7; (with_reducible refine hf2.mono ?_); rintro e w0 ⟨rfl, hw0⟩; obtain rfl := hw0.symm; clear hf2)
    | fail)
  go_quiet (fail)
  go_wp2_with (at_builtin; refine wpList_append_any _ rfl _ _ 25 rfl w.heap.size 23 i0 (.agg #[.int .i64 0, .int .i64 0, .string ⟨#[]⟩]) 3 32 Try.underlying25 hi hz0 hz1 hz2 rfl (by decide) _ 0 [] rfl ?o1 (some ⟨ga, oa, none⟩) n c w.heap.size CA rfl ?r1 o1a ?c1 ?c2 ?c3 ?_)
  case o1 => exact World.ownsRow_lit _ #[] 0 (Nat.le_refl _) (by decide) rfl
  case r1 => exact Hr.out.below ((below_drewN (Below.refl _ _) _).alloc (Nat.le_refl _) _)
  case c1 => unfold maxLen; omega
  case c2 => omega
  case c3 => simp
  intro v3 w3 hown3 hgrow3
  have Hb3 : Hid (Below w.heap.size w w3) := Lib.hid (((below_drewN (Below.refl _ _) _).alloc (Nat.le_refl _) _).grown hgrow3 (by simp) (fun g hg => by simp [Value.ownBlock] at hg; subst hg; exact Nat.le_refl _))
  have Hown3 := Lib.hid hown3
  clear hown3 hgrow3
  go_wp2_with (at_builtin; refine wpList_append_any _ rfl _ _ 25 rfl w.heap.size 23 i0 (.agg #[.int .i64 0, .int .i64 0, .string ⟨#[]⟩]) 3 32 Try.underlying25 hi hz0 hz1 hz2 rfl (by decide) _ _ _ rfl Hown3.out (some ⟨gb, ob, none⟩) m d w.heap.size CB rfl ?r1 o1b ?c1 ?c2 ?c3 ?_)
  case r1 => exact Hs.out.below Hb3.out
  case c1 => unfold maxLen; omega
  case c2 => omega
  case c3 => exact Hb3.out.size
  intro v4 w4 hown4 hgrow4
  have HbE : Hid (Below w.heap.size w w4) := Lib.hid (Hb3.out.grown hgrow4 Hb3.out.size (fun g hg => (Hown3.out.lt g hg).1))
  have hown4' : w4.ownsRow w.heap.size 23 3 v4 (n + m) CC := by
    rw [HC.out]
    simpa using hown4
  obtain ⟨A4, c4, hv4, _, hR4⟩ := owns_cells hown4'
  rw [hv4]
  have HR4 := Lib.hid hR4
  clear hown4 hown4' hgrow4 Hown3 hR4 hv4
  go_wp2_with (first
    | (go_at_call 21; (with_reducible refine (Q1.out _ HbE.out).mono ?_); rintro e w5 ⟨rfl, hb5⟩; replace HR4 := Lib.hid (HR4.out.on15 hb5); replace HbE := Lib.hid (HbE.out.trans (hb5.mono HbE.out.size)); clear hb5 Q1)
    | (go_at_call 17; (with_reducible refine (J1.out _ HbE.out).mono ?_); rintro e w8 ⟨rfl, hb8⟩; replace HR4 := Lib.hid (HR4.out.on15 hb8); replace HbE := Lib.hid (HbE.out.trans (hb8.mono HbE.out.size)); clear hb8 J1)
    | (go_at_call 17; (with_reducible refine (J2.out _ HbE.out).mono ?_); rintro e w10 ⟨rfl, hb10⟩; replace HR4 := Lib.hid (HR4.out.on15 hb10); replace HbE := Lib.hid (HbE.out.trans (hb10.mono HbE.out.size)); clear hb10 J2)
    | (go_at_call 17; (with_reducible refine (J3.out A4 c4 _ HR4.out).mono ?_); rintro e w11 ⟨rfl, hb11⟩; replace HbE := Lib.hid (HbE.out.trans (hb11.mono HbE.out.size)); clear hb11 J3)
    | (go_at_call 8; refine (awake15_any _).mono ?_; rintro e w9 ⟨rfl, hb9⟩; replace HbE := Lib.hid (HbE.out.trans (hb9.mono HbE.out.size)); clear hb9))
  go_ret
  exact ⟨rfl, HbE.out⟩
set_option maxRecDepth 100000 in
set_option maxHeartbeats 8000000 in
theorem recordRows_B3 (a b : List Rc) (A B : Option Addr) (n m c d : Nat) (hn : a.length = n) (hm : b.length = m) (w : World) (h1 : fewF a = true) (h2 : fewF b = true) (p : Nat) (hp : p + 1 = n) (m0 : m ≠ 0) (x1 x2 y1 y2 : Int) (hE : REnds w a b A B p x1 x2 y1 y2) (hy : y1 < 9223372036854775808) (o1 : 1 < y1) (o2 : x1 = y1 - 1) (o3 : ¬ x2 ≤ y2) (r1 : rrowF a = 0) (r2 : rrowF b ≠ 0) (g0 : (rjoinF (a ++ b)).2 ≠ 0) (hr : Reads w w.heap.size 3 A n (rcs a)) (hs : Reads w w.heap.size 3 B m (rcs b)) :
    Calls Try.prog 6 #[.slice A n c, .slice B m d] w fun e w' => e = .returned (.bool true) ∧ Below w.heap.size w w' := by
  have hf1 := few_any a A n c w hn hr
  rw [h1] at hf1
  have hf2 := few_any b B m d w hm hs
  rw [h2] at hf2
  have l1 := few_len h1
  have l2 := few_len h2
  have nl : n ≤ 200 ∧ m ≤ 200 := by omega
  have Q1 := fun W (hb : Below w.heap.size w W) => p_rrow_any a A n c W hn (by omega) ((hr.below hb).more hb.size)
  have Q2 := fun W (hb : Below w.heap.size w W) => p_rrow_any b B m d W hm (by omega) ((hs.below hb).more hb.size)
  have Q3 := fun A2 c2 W (h : Reads W W.heap.size 3 A2 (n + m) (rcs (a ++ b))) => p_rrow_any (a ++ b) A2 (n + m) c2 W (by rw [List.length_append, hn, hm]) (by omega) h
  have J1 := fun W (hb : Below w.heap.size w W) => p_rjoin_any a A n c W hn (by omega) ((hr.below hb).more hb.size)
  have J2 := fun W (hb : Below w.heap.size w W) => p_rjoin_any b B m d W hm (by omega) ((hs.below hb).more hb.size)
  have J3 := fun A2 c2 W (h : Reads W W.heap.size 3 A2 (n + m) (rcs (a ++ b))) => p_rjoin_any (a ++ b) A2 (n + m) c2 W (by rw [List.length_append, hn, hm]) (by omega) h
  have hcc := rcs_app a b
  obtain ⟨i0, hi, hz0, hz1, hz2⟩ := info_parts rec_info
  obtain ⟨ga, oa, rfl, ca1, ca2⟩ := hE.cell1
  obtain ⟨gb, ob, rfl, cb1, cb2⟩ := hE.cell2
  have hsub : (n : Int) - 1 = (p : Int) := by omega
  have hsub1 : IntKind.i64.wrap ((n : Int) - 1) = (p : Int) := by rw [IntKind.wrap_i64]; omega
  have hsub2 : IntKind.i64.wrap (p : Int) = (p : Int) := by rw [IntKind.wrap_i64]; omega
  have hpn : (0 : Int) ≤ (p : Int) ∧ (p : Int) < (n : Int) := by omega
  have hm1 : (0 : Int) < (m : Int) := by omega
  have k1 : ((n : Int) == 0) = false := beq_eq_false_iff_ne.2 (by omega)
  have k2 : ((m : Int) == 0) = false := beq_eq_false_iff_ne.2 (by omega)
  have hyw : IntKind.i64.wrap (y1 - 1) = y1 - 1 := by rw [IntKind.wrap_i64]; omega
  have t1 : decide ((1 : Int) < y1) = true := decide_eq_true o1
  have t3 : decide (x2 ≤ y2) = false := decide_eq_false o3
  rw [r1] at Q1
  have u2 : (rrowF b == 0) = false := beq_eq_false_iff_ne.2 r2
  have u4 : ((rjoinF (a ++ b)).2 == 0) = false := beq_eq_false_iff_ne.2 g0
  have Hr := Lib.hid hr
  have Hs := Lib.hid hs
  replace Q1 := Lib.hid Q1
  replace Q2 := Lib.hid Q2
  replace Q3 := Lib.hid Q3
  replace J1 := Lib.hid J1
  replace J2 := Lib.hid J2
  replace J3 := Lib.hid J3
  clear hr hs hE h1 h2 r1 r2 g0
  generalize (rjoinF (a ++ b)).1 = X3 at *
  generalize (rjoinF (a ++ b)).2 = E3 at *
  generalize rrowF (a ++ b) = F3 at *
  have HC : Hid (rcs (a ++ b) = rcs a ++ rcs b) := Lib.hid hcc
  clear hcc hn hm
  generalize rcs (a ++ b) = CC at *
  have o1a := rcs_one a
  have o1b := rcs_one b
  generalize rcs a = CA at *
  generalize rcs b = CB at *
  generalize (rjoinF a).1 = X1 at *
  generalize (rjoinF a).2 = E1 at *
  generalize (rjoinF b).1 = X2 at *
  generalize (rjoinF b).2 = E2 at *
  generalize rrowF a = F1 at *
  generalize rrowF b = F2 at *
  go_enter Try.func6, Try.ntmps6
  go_wp2_with (first
    | (go_at_call 7; (with_reducible refine hf1.mono ?_); rintro e w0 ⟨rfl, hw0⟩; obtain rfl := hw0.symm; clear hf1)
    | (go_at_call 7; (with_reducible refine hf2.mono ?_); rintro e w0 ⟨rfl, hw0⟩; obtain rfl := hw0.symm; clear hf2)
    | fail)
  go_quiet (fail)
  go_wp2_with (at_builtin; refine wpList_append_any _ rfl _ _ 25 rfl w.heap.size 23 i0 (.agg #[.int .i64 0, .int .i64 0, .string ⟨#[]⟩]) 3 32 Try.underlying25 hi hz0 hz1 hz2 rfl (by decide) _ 0 [] rfl ?o1 (some ⟨ga, oa, none⟩) n c w.heap.size CA rfl ?r1 o1a ?c1 ?c2 ?c3 ?_)
  case o1 => exact World.ownsRow_lit _ #[] 0 (Nat.le_refl _) (by decide) rfl
  case r1 => exact Hr.out.below ((below_drewN (Below.refl _ _) _).alloc (Nat.le_refl _) _)
  case c1 => unfold maxLen; omega
  case c2 => omega
  case c3 => simp
  intro v3 w3 hown3 hgrow3
  have Hb3 : Hid (Below w.heap.size w w3) := Lib.hid (((below_drewN (Below.refl _ _) _).alloc (Nat.le_refl _) _).grown hgrow3 (by simp) (fun g hg => by simp [Value.ownBlock] at hg; subst hg; exact Nat.le_refl _))
  have Hown3 := Lib.hid hown3
  clear hown3 hgrow3
  go_wp2_with (at_builtin; refine wpList_append_any _ rfl _ _ 25 rfl w.heap.size 23 i0 (.agg #[.int .i64 0, .int .i64 0, .string ⟨#[]⟩]) 3 32 Try.underlying25 hi hz0 hz1 hz2 rfl (by decide) _ _ _ rfl Hown3.out (some ⟨gb, ob, none⟩) m d w.heap.size CB rfl ?r1 o1b ?c1 ?c2 ?c3 ?_)
  case r1 => exact Hs.out.below Hb3.out
  case c1 => unfold maxLen; omega
  case c2 => omega
  case c3 => exact Hb3.out.size
  intro v4 w4 hown4 hgrow4
  have HbE : Hid (Below w.heap.size w w4) := Lib.hid (Hb3.out.grown hgrow4 Hb3.out.size (fun g hg => (Hown3.out.lt g hg).1))
  have hown4' : w4.ownsRow w.heap.size 23 3 v4 (n + m) CC := by
    rw [HC.out]
    simpa using hown4
  obtain ⟨A4, c4, hv4, _, hR4⟩ := owns_cells hown4'
  rw [hv4]
  have HR4 := Lib.hid hR4
  clear hown4 hown4' hgrow4 Hown3 hR4 hv4
  go_wp2_with (first
    | (go_at_call 21; (with_reducible refine (Q1.out _ HbE.out).mono ?_); rintro e w5 ⟨rfl, hb5⟩; replace HR4 := Lib.hid (HR4.out.on15 hb5); replace HbE := Lib.hid (HbE.out.trans (hb5.mono HbE.out.size)); clear hb5 Q1)
    | (go_at_call 21; (with_reducible refine (Q2.out _ HbE.out).mono ?_); rintro e w6 ⟨rfl, hb6⟩; replace HR4 := Lib.hid (HR4.out.on15 hb6); replace HbE := Lib.hid (HbE.out.trans (hb6.mono HbE.out.size)); clear hb6 Q2)
    | (go_at_call 17; (with_reducible refine (J1.out _ HbE.out).mono ?_); rintro e w8 ⟨rfl, hb8⟩; replace HR4 := Lib.hid (HR4.out.on15 hb8); replace HbE := Lib.hid (HbE.out.trans (hb8.mono HbE.out.size)); clear hb8 J1)
    | (go_at_call 17; (with_reducible refine (J2.out _ HbE.out).mono ?_); rintro e w10 ⟨rfl, hb10⟩; replace HR4 := Lib.hid (HR4.out.on15 hb10); replace HbE := Lib.hid (HbE.out.trans (hb10.mono HbE.out.size)); clear hb10 J2)
    | (go_at_call 17; (with_reducible refine (J3.out A4 c4 _ HR4.out).mono ?_); rintro e w11 ⟨rfl, hb11⟩; replace HbE := Lib.hid (HbE.out.trans (hb11.mono HbE.out.size)); clear hb11 J3)
    | (go_at_call 8; refine (awake15_any _).mono ?_; rintro e w9 ⟨rfl, hb9⟩; replace HbE := Lib.hid (HbE.out.trans (hb9.mono HbE.out.size)); clear hb9))
  go_ret
  exact ⟨rfl, HbE.out⟩
set_option maxRecDepth 100000 in
set_option maxHeartbeats 8000000 in
theorem recordRows_C3 (a b : List Rc) (A B : Option Addr) (n m c d : Nat) (hn : a.length = n) (hm : b.length = m) (w : World) (h1 : fewF a = true) (h2 : fewF b = true) (p : Nat) (hp : p + 1 = n) (m0 : m ≠ 0) (x1 x2 y1 y2 : Int) (hE : REnds w a b A B p x1 x2 y1 y2) (hy : y1 < 9223372036854775808) (o1 : 1 < y1) (o2 : x1 = y1 - 1) (o3 : ¬ x2 ≤ y2) (r1 : rrowF a = 0) (r2 : rrowF b = 0) (r3 : rrowF (a ++ b) ≠ 0) (g0 : (rjoinF (a ++ b)).2 ≠ 0) (hr : Reads w w.heap.size 3 A n (rcs a)) (hs : Reads w w.heap.size 3 B m (rcs b)) :
    Calls Try.prog 6 #[.slice A n c, .slice B m d] w fun e w' => e = .returned (.bool true) ∧ Below w.heap.size w w' := by
  have hf1 := few_any a A n c w hn hr
  rw [h1] at hf1
  have hf2 := few_any b B m d w hm hs
  rw [h2] at hf2
  have l1 := few_len h1
  have l2 := few_len h2
  have nl : n ≤ 200 ∧ m ≤ 200 := by omega
  have Q1 := fun W (hb : Below w.heap.size w W) => p_rrow_any a A n c W hn (by omega) ((hr.below hb).more hb.size)
  have Q2 := fun W (hb : Below w.heap.size w W) => p_rrow_any b B m d W hm (by omega) ((hs.below hb).more hb.size)
  have Q3 := fun A2 c2 W (h : Reads W W.heap.size 3 A2 (n + m) (rcs (a ++ b))) => p_rrow_any (a ++ b) A2 (n + m) c2 W (by rw [List.length_append, hn, hm]) (by omega) h
  have J1 := fun W (hb : Below w.heap.size w W) => p_rjoin_any a A n c W hn (by omega) ((hr.below hb).more hb.size)
  have J2 := fun W (hb : Below w.heap.size w W) => p_rjoin_any b B m d W hm (by omega) ((hs.below hb).more hb.size)
  have J3 := fun A2 c2 W (h : Reads W W.heap.size 3 A2 (n + m) (rcs (a ++ b))) => p_rjoin_any (a ++ b) A2 (n + m) c2 W (by rw [List.length_append, hn, hm]) (by omega) h
  have hcc := rcs_app a b
  obtain ⟨i0, hi, hz0, hz1, hz2⟩ := info_parts rec_info
  obtain ⟨ga, oa, rfl, ca1, ca2⟩ := hE.cell1
  obtain ⟨gb, ob, rfl, cb1, cb2⟩ := hE.cell2
  have hsub : (n : Int) - 1 = (p : Int) := by omega
  have hsub1 : IntKind.i64.wrap ((n : Int) - 1) = (p : Int) := by rw [IntKind.wrap_i64]; omega
  have hsub2 : IntKind.i64.wrap (p : Int) = (p : Int) := by rw [IntKind.wrap_i64]; omega
  have hpn : (0 : Int) ≤ (p : Int) ∧ (p : Int) < (n : Int) := by omega
  have hm1 : (0 : Int) < (m : Int) := by omega
  have k1 : ((n : Int) == 0) = false := beq_eq_false_iff_ne.2 (by omega)
  have k2 : ((m : Int) == 0) = false := beq_eq_false_iff_ne.2 (by omega)
  have hyw : IntKind.i64.wrap (y1 - 1) = y1 - 1 := by rw [IntKind.wrap_i64]; omega
  have t1 : decide ((1 : Int) < y1) = true := decide_eq_true o1
  have t3 : decide (x2 ≤ y2) = false := decide_eq_false o3
  rw [r1] at Q1
  rw [r2] at Q2
  have u3 : (rrowF (a ++ b) == 0) = false := beq_eq_false_iff_ne.2 r3
  have u4 : ((rjoinF (a ++ b)).2 == 0) = false := beq_eq_false_iff_ne.2 g0
  have Hr := Lib.hid hr
  have Hs := Lib.hid hs
  replace Q1 := Lib.hid Q1
  replace Q2 := Lib.hid Q2
  replace Q3 := Lib.hid Q3
  replace J1 := Lib.hid J1
  replace J2 := Lib.hid J2
  replace J3 := Lib.hid J3
  clear hr hs hE h1 h2 r1 r2 r3 g0
  generalize (rjoinF (a ++ b)).1 = X3 at *
  generalize (rjoinF (a ++ b)).2 = E3 at *
  generalize rrowF (a ++ b) = F3 at *
  have HC : Hid (rcs (a ++ b) = rcs a ++ rcs b) := Lib.hid hcc
  clear hcc hn hm
  generalize rcs (a ++ b) = CC at *
  have o1a := rcs_one a
  have o1b := rcs_one b
  generalize rcs a = CA at *
  generalize rcs b = CB at *
  generalize (rjoinF a).1 = X1 at *
  generalize (rjoinF a).2 = E1 at *
  generalize (rjoinF b).1 = X2 at *
  generalize (rjoinF b).2 = E2 at *
  generalize rrowF a = F1 at *
  generalize rrowF b = F2 at *
  go_enter Try.func6, Try.ntmps6
  go_wp2_with (first
    | (go_at_call 7; (with_reducible refine hf1.mono ?_); rintro e w0 ⟨rfl, hw0⟩; obtain rfl := hw0.symm; clear hf1)
    | (go_at_call 7; (with_reducible refine hf2.mono ?_); rintro e w0 ⟨rfl, hw0⟩; obtain rfl := hw0.symm; clear hf2)
    | fail)
  go_quiet (fail)
  go_wp2_with (at_builtin; refine wpList_append_any _ rfl _ _ 25 rfl w.heap.size 23 i0 (.agg #[.int .i64 0, .int .i64 0, .string ⟨#[]⟩]) 3 32 Try.underlying25 hi hz0 hz1 hz2 rfl (by decide) _ 0 [] rfl ?o1 (some ⟨ga, oa, none⟩) n c w.heap.size CA rfl ?r1 o1a ?c1 ?c2 ?c3 ?_)
  case o1 => exact World.ownsRow_lit _ #[] 0 (Nat.le_refl _) (by decide) rfl
  case r1 => exact Hr.out.below ((below_drewN (Below.refl _ _) _).alloc (Nat.le_refl _) _)
  case c1 => unfold maxLen; omega
  case c2 => omega
  case c3 => simp
  intro v3 w3 hown3 hgrow3
  have Hb3 : Hid (Below w.heap.size w w3) := Lib.hid (((below_drewN (Below.refl _ _) _).alloc (Nat.le_refl _) _).grown hgrow3 (by simp) (fun g hg => by simp [Value.ownBlock] at hg; subst hg; exact Nat.le_refl _))
  have Hown3 := Lib.hid hown3
  clear hown3 hgrow3
  go_wp2_with (at_builtin; refine wpList_append_any _ rfl _ _ 25 rfl w.heap.size 23 i0 (.agg #[.int .i64 0, .int .i64 0, .string ⟨#[]⟩]) 3 32 Try.underlying25 hi hz0 hz1 hz2 rfl (by decide) _ _ _ rfl Hown3.out (some ⟨gb, ob, none⟩) m d w.heap.size CB rfl ?r1 o1b ?c1 ?c2 ?c3 ?_)
  case r1 => exact Hs.out.below Hb3.out
  case c1 => unfold maxLen; omega
  case c2 => omega
  case c3 => exact Hb3.out.size
  intro v4 w4 hown4 hgrow4
  have HbE : Hid (Below w.heap.size w w4) := Lib.hid (Hb3.out.grown hgrow4 Hb3.out.size (fun g hg => (Hown3.out.lt g hg).1))
  have hown4' : w4.ownsRow w.heap.size 23 3 v4 (n + m) CC := by
    rw [HC.out]
    simpa using hown4
  obtain ⟨A4, c4, hv4, _, hR4⟩ := owns_cells hown4'
  rw [hv4]
  have HR4 := Lib.hid hR4
  clear hown4 hown4' hgrow4 Hown3 hR4 hv4
  go_wp2_with (first
    | (go_at_call 21; (with_reducible refine (Q1.out _ HbE.out).mono ?_); rintro e w5 ⟨rfl, hb5⟩; replace HR4 := Lib.hid (HR4.out.on15 hb5); replace HbE := Lib.hid (HbE.out.trans (hb5.mono HbE.out.size)); clear hb5 Q1)
    | (go_at_call 21; (with_reducible refine (Q2.out _ HbE.out).mono ?_); rintro e w6 ⟨rfl, hb6⟩; replace HR4 := Lib.hid (HR4.out.on15 hb6); replace HbE := Lib.hid (HbE.out.trans (hb6.mono HbE.out.size)); clear hb6 Q2)
    | (go_at_call 21; (with_reducible refine (Q3.out A4 c4 _ HR4.out).mono ?_); rintro e w7 ⟨rfl, hb7⟩; replace HR4 := Lib.hid (HR4.out.on15 hb7); replace HbE := Lib.hid (HbE.out.trans (hb7.mono HbE.out.size)); clear hb7 Q3)
    | (go_at_call 17; (with_reducible refine (J1.out _ HbE.out).mono ?_); rintro e w8 ⟨rfl, hb8⟩; replace HR4 := Lib.hid (HR4.out.on15 hb8); replace HbE := Lib.hid (HbE.out.trans (hb8.mono HbE.out.size)); clear hb8 J1)
    | (go_at_call 17; (with_reducible refine (J2.out _ HbE.out).mono ?_); rintro e w10 ⟨rfl, hb10⟩; replace HR4 := Lib.hid (HR4.out.on15 hb10); replace HbE := Lib.hid (HbE.out.trans (hb10.mono HbE.out.size)); clear hb10 J2)
    | (go_at_call 17; (with_reducible refine (J3.out A4 c4 _ HR4.out).mono ?_); rintro e w11 ⟨rfl, hb11⟩; replace HbE := Lib.hid (HbE.out.trans (hb11.mono HbE.out.size)); clear hb11 J3)
    | (go_at_call 8; refine (awake15_any _).mono ?_; rintro e w9 ⟨rfl, hb9⟩; replace HbE := Lib.hid (HbE.out.trans (hb9.mono HbE.out.size)); clear hb9))
  go_ret
  exact ⟨rfl, HbE.out⟩
set_option maxRecDepth 100000 in
set_option maxHeartbeats 8000000 in
theorem recordRows_A4 (a b : List Rc) (A B : Option Addr) (n m c d : Nat) (hn : a.length = n) (hm : b.length = m) (w : World) (h1 : fewF a = true) (h2 : fewF b = true) (p : Nat) (hp : p + 1 = n) (m0 : m ≠ 0) (x1 x2 y1 y2 : Int) (hE : REnds w a b A B p x1 x2 y1 y2) (hy : y1 < 9223372036854775808) (o1 : 1 < y1) (o2 : x1 = y1 - 1) (o3 : x2 ≤ y2) (r1 : rrowF a ≠ 0) (g0 : (rjoinF (a ++ b)).2 ≠ 0) (hr : Reads w w.heap.size 3 A n (rcs a)) (hs : Reads w w.heap.size 3 B m (rcs b)) :
    Calls Try.prog 6 #[.slice A n c, .slice B m d] w fun e w' => e = .returned (.bool true) ∧ Below w.heap.size w w' := by
  have hf1 := few_any a A n c w hn hr
  rw [h1] at hf1
  have hf2 := few_any b B m d w hm hs
  rw [h2] at hf2
  have l1 := few_len h1
  have l2 := few_len h2
  have nl : n ≤ 200 ∧ m ≤ 200 := by omega
  have Q1 := fun W (hb : Below w.heap.size w W) => p_rrow_any a A n c W hn (by omega) ((hr.below hb).more hb.size)
  have Q2 := fun W (hb : Below w.heap.size w W) => p_rrow_any b B m d W hm (by omega) ((hs.below hb).more hb.size)
  have Q3 := fun A2 c2 W (h : Reads W W.heap.size 3 A2 (n + m) (rcs (a ++ b))) => p_rrow_any (a ++ b) A2 (n + m) c2 W (by rw [List.length_append, hn, hm]) (by omega) h
  have J1 := fun W (hb : Below w.heap.size w W) => p_rjoin_any a A n c W hn (by omega) ((hr.below hb).more hb.size)
  have J2 := fun W (hb : Below w.heap.size w W) => p_rjoin_any b B m d W hm (by omega) ((hs.below hb).more hb.size)
  have J3 := fun A2 c2 W (h : Reads W W.heap.size 3 A2 (n + m) (rcs (a ++ b))) => p_rjoin_any (a ++ b) A2 (n + m) c2 W (by rw [List.length_append, hn, hm]) (by omega) h
  have hcc := rcs_app a b
  obtain ⟨i0, hi, hz0, hz1, hz2⟩ := info_parts rec_info
  obtain ⟨ga, oa, rfl, ca1, ca2⟩ := hE.cell1
  obtain ⟨gb, ob, rfl, cb1, cb2⟩ := hE.cell2
  have hsub : (n : Int) - 1 = (p : Int) := by omega
  have hsub1 : IntKind.i64.wrap ((n : Int) - 1) = (p : Int) := by rw [IntKind.wrap_i64]; omega
  have hsub2 : IntKind.i64.wrap (p : Int) = (p : Int) := by rw [IntKind.wrap_i64]; omega
  have hpn : (0 : Int) ≤ (p : Int) ∧ (p : Int) < (n : Int) := by omega
  have hm1 : (0 : Int) < (m : Int) := by omega
  have k1 : ((n : Int) == 0) = false := beq_eq_false_iff_ne.2 (by omega)
  have k2 : ((m : Int) == 0) = false := beq_eq_false_iff_ne.2 (by omega)
  have hyw : IntKind.i64.wrap (y1 - 1) = y1 - 1 := by rw [IntKind.wrap_i64]; omega
  have t1 : decide ((1 : Int) < y1) = true := decide_eq_true o1
  have t3 : decide (x2 ≤ y2) = true := decide_eq_true o3
  have u1 : (rrowF a == 0) = false := beq_eq_false_iff_ne.2 r1
  have u4 : ((rjoinF (a ++ b)).2 == 0) = false := beq_eq_false_iff_ne.2 g0
  have Hr := Lib.hid hr
  have Hs := Lib.hid hs
  replace Q1 := Lib.hid Q1
  replace Q2 := Lib.hid Q2
  replace Q3 := Lib.hid Q3
  replace J1 := Lib.hid J1
  replace J2 := Lib.hid J2
  replace J3 := Lib.hid J3
  clear hr hs hE h1 h2 r1 g0
  generalize (rjoinF (a ++ b)).1 = X3 at *
  generalize (rjoinF (a ++ b)).2 = E3 at *
  generalize rrowF (a ++ b) = F3 at *
  have HC : Hid (rcs (a ++ b) = rcs a ++ rcs b) := Lib.hid hcc
  clear hcc hn hm
  generalize rcs (a ++ b) = CC at *
  have o1a := rcs_one a
  have o1b := rcs_one b
  generalize rcs a = CA at *
  generalize rcs b = CB at *
  generalize (rjoinF a).1 = X1 at *
  generalize (rjoinF a).2 = E1 at *
  generalize (rjoinF b).1 = X2 at *
  generalize (rjoinF b).2 = E2 at *
  generalize rrowF a = F1 at *
  generalize rrowF b = F2 at *
  go_enter Try.func6, Try.ntmps6
  go_wp2_with (first
    | (go_at_call 7; (with_reducible refine hf1.mono ?_); rintro e w0 ⟨rfl, hw0⟩; obtain rfl := hw0.symm; clear hf1)
    | (go_at_call 7; (with_reducible refine hf2.mono ?_); rintro e w0 ⟨rfl, hw0⟩; obtain rfl := hw0.symm; clear hf2)
    | fail)
  go_quiet (fail)
  go_wp2_with (at_builtin; refine wpList_append_any _ rfl _ _ 25 rfl w.heap.size 23 i0 (.agg #[.int .i64 0, .int .i64 0, .string ⟨#[]⟩]) 3 32 Try.underlying25 hi hz0 hz1 hz2 rfl (by decide) _ 0 [] rfl ?o1 (some ⟨ga, oa, none⟩) n c w.heap.size CA rfl ?r1 o1a ?c1 ?c2 ?c3 ?_)
  case o1 => exact World.ownsRow_lit _ #[] 0 (Nat.le_refl _) (by decide) rfl
  case r1 => exact Hr.out.below ((below_drewN (Below.refl _ _) _).alloc (Nat.le_refl _) _)
  case c1 => unfold maxLen; omega
  case c2 => omega
  case c3 => simp
  intro v3 w3 hown3 hgrow3
  have Hb3 : Hid (Below w.heap.size w w3) := Lib.hid (((below_drewN (Below.refl _ _) _).alloc (Nat.le_refl _) _).grown hgrow3 (by simp) (fun g hg => by simp [Value.ownBlock] at hg; subst hg; exact Nat.le_refl _))
  have Hown3 := Lib.hid hown3
  clear hown3 hgrow3
  go_wp2_with (at_builtin; refine wpList_append_any _ rfl _ _ 25 rfl w.heap.size 23 i0 (.agg #[.int .i64 0, .int .i64 0, .string ⟨#[]⟩]) 3 32 Try.underlying25 hi hz0 hz1 hz2 rfl (by decide) _ _ _ rfl Hown3.out (some ⟨gb, ob, none⟩) m d w.heap.size CB rfl ?r1 o1b ?c1 ?c2 ?c3 ?_)
  case r1 => exact Hs.out.below Hb3.out
  case c1 => unfold maxLen; omega
  case c2 => omega
  case c3 => exact Hb3.out.size
  intro v4 w4 hown4 hgrow4
  have HbE : Hid (Below w.heap.size w w4) := Lib.hid (Hb3.out.grown hgrow4 Hb3.out.size (fun g hg => (Hown3.out.lt g hg).1))
  have hown4' : w4.ownsRow w.heap.size 23 3 v4 (n + m) CC := by
    rw [HC.out]
    simpa using hown4
  obtain ⟨A4, c4, hv4, _, hR4⟩ := owns_cells hown4'
  rw [hv4]
  have HR4 := Lib.hid hR4
  clear hown4 hown4' hgrow4 Hown3 hR4 hv4
  go_wp2_with (first
    | (go_at_call 21; (with_reducible refine (Q1.out _ HbE.out).mono ?_); rintro e w5 ⟨rfl, hb5⟩; replace HR4 := Lib.hid (HR4.out.on15 hb5); replace HbE := Lib.hid (HbE.out.trans (hb5.mono HbE.out.size)); clear hb5 Q1)
    | (go_at_call 17; (with_reducible refine (J1.out _ HbE.out).mono ?_); rintro e w8 ⟨rfl, hb8⟩; replace HR4 := Lib.hid (HR4.out.on15 hb8); replace HbE := Lib.hid (HbE.out.trans (hb8.mono HbE.out.size)); clear hb8 J1)
    | (go_at_call 17; (with_reducible refine (J2.out _ HbE.out).mono ?_); rintro e w10 ⟨rfl, hb10⟩; replace HR4 := Lib.hid (HR4.out.on15 hb10); replace HbE := Lib.hid (HbE.out.trans (hb10.mono HbE.out.size)); clear hb10 J2)
    | (go_at_call 17; (with_reducible refine (J3.out A4 c4 _ HR4.out).mono ?_); rintro e w11 ⟨rfl, hb11⟩; replace HbE := Lib.hid (HbE.out.trans (hb11.mono HbE.out.size)); clear hb11 J3)
    | (go_at_call 8; refine (awake15_any _).mono ?_; rintro e w9 ⟨rfl, hb9⟩; replace HbE := Lib.hid (HbE.out.trans (hb9.mono HbE.out.size)); clear hb9))
  go_ret
  exact ⟨rfl, HbE.out⟩
set_option maxRecDepth 100000 in
set_option maxHeartbeats 8000000 in
theorem recordRows_B4 (a b : List Rc) (A B : Option Addr) (n m c d : Nat) (hn : a.length = n) (hm : b.length = m) (w : World) (h1 : fewF a = true) (h2 : fewF b = true) (p : Nat) (hp : p + 1 = n) (m0 : m ≠ 0) (x1 x2 y1 y2 : Int) (hE : REnds w a b A B p x1 x2 y1 y2) (hy : y1 < 9223372036854775808) (o1 : 1 < y1) (o2 : x1 = y1 - 1) (o3 : x2 ≤ y2) (r1 : rrowF a = 0) (r2 : rrowF b ≠ 0) (g0 : (rjoinF (a ++ b)).2 ≠ 0) (hr : Reads w w.heap.size 3 A n (rcs a)) (hs : Reads w w.heap.size 3 B m (rcs b)) :
    Calls Try.prog 6 #[.slice A n c, .slice B m d] w fun e w' => e = .returned (.bool true) ∧ Below w.heap.size w w' := by
  have hf1 := few_any a A n c w hn hr
  rw [h1] at hf1
  have hf2 := few_any b B m d w hm hs
  rw [h2] at hf2
  have l1 := few_len h1
  have l2 := few_len h2
  have nl : n ≤ 200 ∧ m ≤ 200 := by omega
  have Q1 := fun W (hb : Below w.heap.size w W) => p_rrow_any a A n c W hn (by omega) ((hr.below hb).more hb.size)
  have Q2 := fun W (hb : Below w.heap.size w W) => p_rrow_any b B m d W hm (by omega) ((hs.below hb).more hb.size)
  have Q3 := fun A2 c2 W (h : Reads W W.heap.size 3 A2 (n + m) (rcs (a ++ b))) => p_rrow_any (a ++ b) A2 (n + m) c2 W (by rw [List.length_append, hn, hm]) (by omega) h
  have J1 := fun W (hb : Below w.heap.size w W) => p_rjoin_any a A n c W hn (by omega) ((hr.below hb).more hb.size)
  have J2 := fun W (hb : Below w.heap.size w W) => p_rjoin_any b B m d W hm (by omega) ((hs.below hb).more hb.size)
  have J3 := fun A2 c2 W (h : Reads W W.heap.size 3 A2 (n + m) (rcs (a ++ b))) => p_rjoin_any (a ++ b) A2 (n + m) c2 W (by rw [List.length_append, hn, hm]) (by omega) h
  have hcc := rcs_app a b
  obtain ⟨i0, hi, hz0, hz1, hz2⟩ := info_parts rec_info
  obtain ⟨ga, oa, rfl, ca1, ca2⟩ := hE.cell1
  obtain ⟨gb, ob, rfl, cb1, cb2⟩ := hE.cell2
  have hsub : (n : Int) - 1 = (p : Int) := by omega
  have hsub1 : IntKind.i64.wrap ((n : Int) - 1) = (p : Int) := by rw [IntKind.wrap_i64]; omega
  have hsub2 : IntKind.i64.wrap (p : Int) = (p : Int) := by rw [IntKind.wrap_i64]; omega
  have hpn : (0 : Int) ≤ (p : Int) ∧ (p : Int) < (n : Int) := by omega
  have hm1 : (0 : Int) < (m : Int) := by omega
  have k1 : ((n : Int) == 0) = false := beq_eq_false_iff_ne.2 (by omega)
  have k2 : ((m : Int) == 0) = false := beq_eq_false_iff_ne.2 (by omega)
  have hyw : IntKind.i64.wrap (y1 - 1) = y1 - 1 := by rw [IntKind.wrap_i64]; omega
  have t1 : decide ((1 : Int) < y1) = true := decide_eq_true o1
  have t3 : decide (x2 ≤ y2) = true := decide_eq_true o3
  rw [r1] at Q1
  have u2 : (rrowF b == 0) = false := beq_eq_false_iff_ne.2 r2
  have u4 : ((rjoinF (a ++ b)).2 == 0) = false := beq_eq_false_iff_ne.2 g0
  have Hr := Lib.hid hr
  have Hs := Lib.hid hs
  replace Q1 := Lib.hid Q1
  replace Q2 := Lib.hid Q2
  replace Q3 := Lib.hid Q3
  replace J1 := Lib.hid J1
  replace J2 := Lib.hid J2
  replace J3 := Lib.hid J3
  clear hr hs hE h1 h2 r1 r2 g0
  generalize (rjoinF (a ++ b)).1 = X3 at *
  generalize (rjoinF (a ++ b)).2 = E3 at *
  generalize rrowF (a ++ b) = F3 at *
  have HC : Hid (rcs (a ++ b) = rcs a ++ rcs b) := Lib.hid hcc
  clear hcc hn hm
  generalize rcs (a ++ b) = CC at *
  have o1a := rcs_one a
  have o1b := rcs_one b
  generalize rcs a = CA at *
  generalize rcs b = CB at *
  generalize (rjoinF a).1 = X1 at *
  generalize (rjoinF a).2 = E1 at *
  generalize (rjoinF b).1 = X2 at *
  generalize (rjoinF b).2 = E2 at *
  generalize rrowF a = F1 at *
  generalize rrowF b = F2 at *
  go_enter Try.func6, Try.ntmps6
  go_wp2_with (first
    | (go_at_call 7; (with_reducible refine hf1.mono ?_); rintro e w0 ⟨rfl, hw0⟩; obtain rfl := hw0.symm; clear hf1)
    | (go_at_call 7; (with_reducible refine hf2.mono ?_); rintro e w0 ⟨rfl, hw0⟩; obtain rfl := hw0.symm; clear hf2)
    | fail)
  go_quiet (fail)
  go_wp2_with (at_builtin; refine wpList_append_any _ rfl _ _ 25 rfl w.heap.size 23 i0 (.agg #[.int .i64 0, .int .i64 0, .string ⟨#[]⟩]) 3 32 Try.underlying25 hi hz0 hz1 hz2 rfl (by decide) _ 0 [] rfl ?o1 (some ⟨ga, oa, none⟩) n c w.heap.size CA rfl ?r1 o1a ?c1 ?c2 ?c3 ?_)
  case o1 => exact World.ownsRow_lit _ #[] 0 (Nat.le_refl _) (by decide) rfl
  case r1 => exact Hr.out.below ((below_drewN (Below.refl _ _) _).alloc (Nat.le_refl _) _)
  case c1 => unfold maxLen; omega
  case c2 => omega
  case c3 => simp
  intro v3 w3 hown3 hgrow3
  have Hb3 : Hid (Below w.heap.size w w3) := Lib.hid (((below_drewN (Below.refl _ _) _).alloc (Nat.le_refl _) _).grown hgrow3 (by simp) (fun g hg => by simp [Value.ownBlock] at hg; subst hg; exact Nat.le_refl _))
  have Hown3 := Lib.hid hown3
  clear hown3 hgrow3
  go_wp2_with (at_builtin; refine wpList_append_any _ rfl _ _ 25 rfl w.heap.size 23 i0 (.agg #[.int .i64 0, .int .i64 0, .string ⟨#[]⟩]) 3 32 Try.underlying25 hi hz0 hz1 hz2 rfl (by decide) _ _ _ rfl Hown3.out (some ⟨gb, ob, none⟩) m d w.heap.size CB rfl ?r1 o1b ?c1 ?c2 ?c3 ?_)
  case r1 => exact Hs.out.below Hb3.out
  case c1 => unfold maxLen; omega
  case c2 => omega
  case c3 => exact Hb3.out.size
  intro v4 w4 hown4 hgrow4
  have HbE : Hid (Below w.heap.size w w4) := Lib.hid (Hb3.out.grown hgrow4 Hb3.out.size (fun g hg => (Hown3.out.lt g hg).1))
  have hown4' : w4.ownsRow w.heap.size 23 3 v4 (n + m) CC := by
    rw [HC.out]
    simpa using hown4
  obtain ⟨A4, c4, hv4, _, hR4⟩ := owns_cells hown4'
  rw [hv4]
  have HR4 := Lib.hid hR4
  clear hown4 hown4' hgrow4 Hown3 hR4 hv4
  go_wp2_with (first
    | (go_at_call 21; (with_reducible refine (Q1.out _ HbE.out).mono ?_); rintro e w5 ⟨rfl, hb5⟩; replace HR4 := Lib.hid (HR4.out.on15 hb5); replace HbE := Lib.hid (HbE.out.trans (hb5.mono HbE.out.size)); clear hb5 Q1)
    | (go_at_call 21; (with_reducible refine (Q2.out _ HbE.out).mono ?_); rintro e w6 ⟨rfl, hb6⟩; replace HR4 := Lib.hid (HR4.out.on15 hb6); replace HbE := Lib.hid (HbE.out.trans (hb6.mono HbE.out.size)); clear hb6 Q2)
    | (go_at_call 17; (with_reducible refine (J1.out _ HbE.out).mono ?_); rintro e w8 ⟨rfl, hb8⟩; replace HR4 := Lib.hid (HR4.out.on15 hb8); replace HbE := Lib.hid (HbE.out.trans (hb8.mono HbE.out.size)); clear hb8 J1)
    | (go_at_call 17; (with_reducible refine (J2.out _ HbE.out).mono ?_); rintro e w10 ⟨rfl, hb10⟩; replace HR4 := Lib.hid (HR4.out.on15 hb10); replace HbE := Lib.hid (HbE.out.trans (hb10.mono HbE.out.size)); clear hb10 J2)
    | (go_at_call 17; (with_reducible refine (J3.out A4 c4 _ HR4.out).mono ?_); rintro e w11 ⟨rfl, hb11⟩; replace HbE := Lib.hid (HbE.out.trans (hb11.mono HbE.out.size)); clear hb11 J3)
    | (go_at_call 8; refine (awake15_any _).mono ?_; rintro e w9 ⟨rfl, hb9⟩; replace HbE := Lib.hid (HbE.out.trans (hb9.mono HbE.out.size)); clear hb9))
  go_ret
  exact ⟨rfl, HbE.out⟩
set_option maxRecDepth 100000 in
set_option maxHeartbeats 8000000 in
theorem recordRows_D4 (a b : List Rc) (A B : Option Addr) (n m c d : Nat) (hn : a.length = n) (hm : b.length = m) (w : World) (h1 : fewF a = true) (h2 : fewF b = true) (p : Nat) (hp : p + 1 = n) (m0 : m ≠ 0) (x1 x2 y1 y2 : Int) (hE : REnds w a b A B p x1 x2 y1 y2) (hy : y1 < 9223372036854775808) (o1 : 1 < y1) (o2 : x1 = y1 - 1) (o3 : x2 ≤ y2) (r1 : rrowF a = 0) (r2 : rrowF b = 0) (r3 : rrowF (a ++ b) = 0) (g0 : rjoinF (a ++ b) = ((rjoinF a).1 ++ (rjoinF b).1, 0)) (g1 : (rjoinF a).2 = 0) (g2 : (rjoinF b).2 = 0) (g3 : (rjoinF a).1.length + (rjoinF b).1.length ≤ 20000) (hr : Reads w w.heap.size 3 A n (rcs a)) (hs : Reads w w.heap.size 3 B m (rcs b)) :
    Calls Try.prog 6 #[.slice A n c, .slice B m d] w fun e w' => e = .returned (.bool true) ∧ Below w.heap.size w w' := by
  have hf1 := few_any a A n c w hn hr
  rw [h1] at hf1
  have hf2 := few_any b B m d w hm hs
  rw [h2] at hf2
  have l1 := few_len h1
  have l2 := few_len h2
  have nl : n ≤ 200 ∧ m ≤ 200 := by omega
  have Q1 := fun W (hb : Below w.heap.size w W) => p_rrow_any a A n c W hn (by omega) ((hr.below hb).more hb.size)
  have Q2 := fun W (hb : Below w.heap.size w W) => p_rrow_any b B m d W hm (by omega) ((hs.below hb).more hb.size)
  have Q3 := fun A2 c2 W (h : Reads W W.heap.size 3 A2 (n + m) (rcs (a ++ b))) => p_rrow_any (a ++ b) A2 (n + m) c2 W (by rw [List.length_append, hn, hm]) (by omega) h
  have J1 := fun W (hb : Below w.heap.size w W) => p_rjoin_any a A n c W hn (by omega) ((hr.below hb).more hb.size)
  have J2 := fun W (hb : Below w.heap.size w W) => p_rjoin_any b B m d W hm (by omega) ((hs.below hb).more hb.size)
  have J3 := fun A2 c2 W (h : Reads W W.heap.size 3 A2 (n + m) (rcs (a ++ b))) => p_rjoin_any (a ++ b) A2 (n + m) c2 W (by rw [List.length_append, hn, hm]) (by omega) h
  have hcc := rcs_app a b
  obtain ⟨i0, hi, hz0, hz1, hz2⟩ := info_parts rec_info
  obtain ⟨ga, oa, rfl, ca1, ca2⟩ := hE.cell1
  obtain ⟨gb, ob, rfl, cb1, cb2⟩ := hE.cell2
  have hsub : (n : Int) - 1 = (p : Int) := by omega
  have hsub1 : IntKind.i64.wrap ((n : Int) - 1) = (p : Int) := by rw [IntKind.wrap_i64]; omega
  have hsub2 : IntKind.i64.wrap (p : Int) = (p : Int) := by rw [IntKind.wrap_i64]; omega
  have hpn : (0 : Int) ≤ (p : Int) ∧ (p : Int) < (n : Int) := by omega
  have hm1 : (0 : Int) < (m : Int) := by omega
  have k1 : ((n : Int) == 0) = false := beq_eq_false_iff_ne.2 (by omega)
  have k2 : ((m : Int) == 0) = false := beq_eq_false_iff_ne.2 (by omega)
  have hyw : IntKind.i64.wrap (y1 - 1) = y1 - 1 := by rw [IntKind.wrap_i64]; omega
  have t1 : decide ((1 : Int) < y1) = true := decide_eq_true o1
  have t3 : decide (x2 ≤ y2) = true := decide_eq_true o3
  rw [r1] at Q1
  rw [r2] at Q2
  rw [r3] at Q3
  rw [g0] at J3
  rw [g1] at J1
  rw [g2] at J2
  have hz := fun W => rstr_add (rjoinF a).1 (rjoinF b).1 (by omega) W
  dsimp only at J3
  have Hr := Lib.hid hr
  have Hs := Lib.hid hs
  replace Q1 := Lib.hid Q1
  replace Q2 := Lib.hid Q2
  replace Q3 := Lib.hid Q3
  replace J1 := Lib.hid J1
  replace J2 := Lib.hid J2
  replace J3 := Lib.hid J3
  clear hr hs hE h1 h2 r1 r2 r3 g0 g1 g2 g3
  generalize rrowF (a ++ b) = F3 at *
  have HC : Hid (rcs (a ++ b) = rcs a ++ rcs b) := Lib.hid hcc
  clear hcc hn hm
  generalize rcs (a ++ b) = CC at *
  have o1a := rcs_one a
  have o1b := rcs_one b
  generalize rcs a = CA at *
  generalize rcs b = CB at *
  generalize (rjoinF a).1 ++ (rjoinF b).1 = X4 at *
  generalize (rjoinF a).1 = X1 at *
  generalize (rjoinF a).2 = E1 at *
  generalize (rjoinF b).1 = X2 at *
  generalize (rjoinF b).2 = E2 at *
  generalize rrowF a = F1 at *
  generalize rrowF b = F2 at *
  go_enter Try.func6, Try.ntmps6
  go_wp2_with (first
    | (go_at_call 7; (with_reducible refine hf1.mono ?_); rintro e w0 ⟨rfl, hw0⟩; obtain rfl := hw0.symm; clear hf1)
    | (go_at_call 7; (with_reducible refine hf2.mono ?_); rintro e w0 ⟨rfl, hw0⟩; obtain rfl := hw0.symm; clear hf2)
    | fail)
  go_quiet (fail)
  go_wp2_with (at_builtin; refine wpList_append_any _ rfl _ _ 25 rfl w.heap.size 23 i0 (.agg #[.int .i64 0, .int .i64 0, .string ⟨#[]⟩]) 3 32 Try.underlying25 hi hz0 hz1 hz2 rfl (by decide) _ 0 [] rfl ?o1 (some ⟨ga, oa, none⟩) n c w.heap.size CA rfl ?r1 o1a ?c1 ?c2 ?c3 ?_)
  case o1 => exact World.ownsRow_lit _ #[] 0 (Nat.le_refl _) (by decide) rfl
  case r1 => exact Hr.out.below ((below_drewN (Below.refl _ _) _).alloc (Nat.le_refl _) _)
  case c1 => unfold maxLen; omega
  case c2 => omega
  case c3 => simp
  intro v3 w3 hown3 hgrow3
  have Hb3 : Hid (Below w.heap.size w w3) := Lib.hid (((below_drewN (Below.refl _ _) _).alloc (Nat.le_refl _) _).grown hgrow3 (by simp) (fun g hg => by simp [Value.ownBlock] at hg; subst hg; exact Nat.le_refl _))
  have Hown3 := Lib.hid hown3
  clear hown3 hgrow3
  go_wp2_with (at_builtin; refine wpList_append_any _ rfl _ _ 25 rfl w.heap.size 23 i0 (.agg #[.int .i64 0, .int .i64 0, .string ⟨#[]⟩]) 3 32 Try.underlying25 hi hz0 hz1 hz2 rfl (by decide) _ _ _ rfl Hown3.out (some ⟨gb, ob, none⟩) m d w.heap.size CB rfl ?r1 o1b ?c1 ?c2 ?c3 ?_)
  case r1 => exact Hs.out.below Hb3.out
  case c1 => unfold maxLen; omega
  case c2 => omega
  case c3 => exact Hb3.out.size
  intro v4 w4 hown4 hgrow4
  have HbE : Hid (Below w.heap.size w w4) := Lib.hid (Hb3.out.grown hgrow4 Hb3.out.size (fun g hg => (Hown3.out.lt g hg).1))
  have hown4' : w4.ownsRow w.heap.size 23 3 v4 (n + m) CC := by
    rw [HC.out]
    simpa using hown4
  obtain ⟨A4, c4, hv4, _, hR4⟩ := owns_cells hown4'
  rw [hv4]
  have HR4 := Lib.hid hR4
  clear hown4 hown4' hgrow4 Hown3 hR4 hv4
  go_wp2_with (first
    | (go_at_call 21; (with_reducible refine (Q1.out _ HbE.out).mono ?_); rintro e w5 ⟨rfl, hb5⟩; replace HR4 := Lib.hid (HR4.out.on15 hb5); replace HbE := Lib.hid (HbE.out.trans (hb5.mono HbE.out.size)); clear hb5 Q1)
    | (go_at_call 21; (with_reducible refine (Q2.out _ HbE.out).mono ?_); rintro e w6 ⟨rfl, hb6⟩; replace HR4 := Lib.hid (HR4.out.on15 hb6); replace HbE := Lib.hid (HbE.out.trans (hb6.mono HbE.out.size)); clear hb6 Q2)
    | (go_at_call 21; (with_reducible refine (Q3.out A4 c4 _ HR4.out).mono ?_); rintro e w7 ⟨rfl, hb7⟩; replace HR4 := Lib.hid (HR4.out.on15 hb7); replace HbE := Lib.hid (HbE.out.trans (hb7.mono HbE.out.size)); clear hb7 Q3)
    | (go_at_call 17; (with_reducible refine (J1.out _ HbE.out).mono ?_); rintro e w8 ⟨rfl, hb8⟩; replace HR4 := Lib.hid (HR4.out.on15 hb8); replace HbE := Lib.hid (HbE.out.trans (hb8.mono HbE.out.size)); clear hb8 J1)
    | (go_at_call 17; (with_reducible refine (J2.out _ HbE.out).mono ?_); rintro e w10 ⟨rfl, hb10⟩; replace HR4 := Lib.hid (HR4.out.on15 hb10); replace HbE := Lib.hid (HbE.out.trans (hb10.mono HbE.out.size)); clear hb10 J2)
    | (go_at_call 17; (with_reducible refine (J3.out A4 c4 _ HR4.out).mono ?_); rintro e w11 ⟨rfl, hb11⟩; replace HbE := Lib.hid (HbE.out.trans (hb11.mono HbE.out.size)); clear hb11 J3)
    | (go_at_call 8; refine (awake15_any _).mono ?_; rintro e w9 ⟨rfl, hb9⟩; replace HbE := Lib.hid (HbE.out.trans (hb9.mono HbE.out.size)); clear hb9))
  go_ret
  exact ⟨rfl, HbE.out⟩
set_option maxRecDepth 100000 in
set_option maxHeartbeats 8000000 in
theorem recordRows_E4 (a b : List Rc) (A B : Option Addr) (n m c d : Nat) (hn : a.length = n) (hm : b.length = m) (w : World) (h1 : fewF a = true) (h2 : fewF b = true) (p : Nat) (hp : p + 1 = n) (m0 : m ≠ 0) (x1 x2 y1 y2 : Int) (hE : REnds w a b A B p x1 x2 y1 y2) (hy : y1 < 9223372036854775808) (o1 : 1 < y1) (o2 : x1 = y1 - 1) (o3 : x2 ≤ y2) (r1 : rrowF a = 0) (r2 : rrowF b = 0) (r3 : rrowF (a ++ b) = 0) (g0 : (rjoinF (a ++ b)).2 = 3) (g1 : (rjoinF a).2 ≠ 0) (hr : Reads w w.heap.size 3 A n (rcs a)) (hs : Reads w w.heap.size 3 B m (rcs b)) :
    Calls Try.prog 6 #[.slice A n c, .slice B m d] w fun e w' => e = .returned (.bool true) ∧ Below w.heap.size w w' := by
  have hf1 := few_any a A n c w hn hr
  rw [h1] at hf1
  have hf2 := few_any b B m d w hm hs
  rw [h2] at hf2
  have l1 := few_len h1
  have l2 := few_len h2
  have nl : n ≤ 200 ∧ m ≤ 200 := by omega
  have Q1 := fun W (hb : Below w.heap.size w W) => p_rrow_any a A n c W hn (by omega) ((hr.below hb).more hb.size)
  have Q2 := fun W (hb : Below w.heap.size w W) => p_rrow_any b B m d W hm (by omega) ((hs.below hb).more hb.size)
  have Q3 := fun A2 c2 W (h : Reads W W.heap.size 3 A2 (n + m) (rcs (a ++ b))) => p_rrow_any (a ++ b) A2 (n + m) c2 W (by rw [List.length_append, hn, hm]) (by omega) h
  have J1 := fun W (hb : Below w.heap.size w W) => p_rjoin_any a A n c W hn (by omega) ((hr.below hb).more hb.size)
  have J2 := fun W (hb : Below w.heap.size w W) => p_rjoin_any b B m d W hm (by omega) ((hs.below hb).more hb.size)
  have J3 := fun A2 c2 W (h : Reads W W.heap.size 3 A2 (n + m) (rcs (a ++ b))) => p_rjoin_any (a ++ b) A2 (n + m) c2 W (by rw [List.length_append, hn, hm]) (by omega) h
  have hcc := rcs_app a b
  obtain ⟨i0, hi, hz0, hz1, hz2⟩ := info_parts rec_info
  obtain ⟨ga, oa, rfl, ca1, ca2⟩ := hE.cell1
  obtain ⟨gb, ob, rfl, cb1, cb2⟩ := hE.cell2
  have hsub : (n : Int) - 1 = (p : Int) := by omega
  have hsub1 : IntKind.i64.wrap ((n : Int) - 1) = (p : Int) := by rw [IntKind.wrap_i64]; omega
  have hsub2 : IntKind.i64.wrap (p : Int) = (p : Int) := by rw [IntKind.wrap_i64]; omega
  have hpn : (0 : Int) ≤ (p : Int) ∧ (p : Int) < (n : Int) := by omega
  have hm1 : (0 : Int) < (m : Int) := by omega
  have k1 : ((n : Int) == 0) = false := beq_eq_false_iff_ne.2 (by omega)
  have k2 : ((m : Int) == 0) = false := beq_eq_false_iff_ne.2 (by omega)
  have hyw : IntKind.i64.wrap (y1 - 1) = y1 - 1 := by rw [IntKind.wrap_i64]; omega
  have t1 : decide ((1 : Int) < y1) = true := decide_eq_true o1
  have t3 : decide (x2 ≤ y2) = true := decide_eq_true o3
  rw [r1] at Q1
  rw [r2] at Q2
  rw [r3] at Q3
  rw [g0] at J3
  have u5 : ((rjoinF a).2 != 0) = true := by simpa using g1
  have Hr := Lib.hid hr
  have Hs := Lib.hid hs
  replace Q1 := Lib.hid Q1
  replace Q2 := Lib.hid Q2
  replace Q3 := Lib.hid Q3
  replace J1 := Lib.hid J1
  replace J2 := Lib.hid J2
  replace J3 := Lib.hid J3
  clear hr hs hE h1 h2 r1 r2 r3 g0 g1
  generalize (rjoinF (a ++ b)).1 = X3 at *
  generalize (rjoinF (a ++ b)).2 = E3 at *
  generalize rrowF (a ++ b) = F3 at *
  have HC : Hid (rcs (a ++ b) = rcs a ++ rcs b) := Lib.hid hcc
  clear hcc hn hm
  generalize rcs (a ++ b) = CC at *
  have o1a := rcs_one a
  have o1b := rcs_one b
  generalize rcs a = CA at *
  generalize rcs b = CB at *
  generalize (rjoinF a).1 = X1 at *
  generalize (rjoinF a).2 = E1 at *
  generalize (rjoinF b).1 = X2 at *
  generalize (rjoinF b).2 = E2 at *
  generalize rrowF a = F1 at *
  generalize rrowF b = F2 at *
  go_enter Try.func6, Try.ntmps6
  go_wp2_with (first
    | (go_at_call 7; (with_reducible refine hf1.mono ?_); rintro e w0 ⟨rfl, hw0⟩; obtain rfl := hw0.symm; clear hf1)
    | (go_at_call 7; (with_reducible refine hf2.mono ?_); rintro e w0 ⟨rfl, hw0⟩; obtain rfl := hw0.symm; clear hf2)
    | fail)
  go_quiet (fail)
  go_wp2_with (at_builtin; refine wpList_append_any _ rfl _ _ 25 rfl w.heap.size 23 i0 (.agg #[.int .i64 0, .int .i64 0, .string ⟨#[]⟩]) 3 32 Try.underlying25 hi hz0 hz1 hz2 rfl (by decide) _ 0 [] rfl ?o1 (some ⟨ga, oa, none⟩) n c w.heap.size CA rfl ?r1 o1a ?c1 ?c2 ?c3 ?_)
  case o1 => exact World.ownsRow_lit _ #[] 0 (Nat.le_refl _) (by decide) rfl
  case r1 => exact Hr.out.below ((below_drewN (Below.refl _ _) _).alloc (Nat.le_refl _) _)
  case c1 => unfold maxLen; omega
  case c2 => omega
  case c3 => simp
  intro v3 w3 hown3 hgrow3
  have Hb3 : Hid (Below w.heap.size w w3) := Lib.hid (((below_drewN (Below.refl _ _) _).alloc (Nat.le_refl _) _).grown hgrow3 (by simp) (fun g hg => by simp [Value.ownBlock] at hg; subst hg; exact Nat.le_refl _))
  have Hown3 := Lib.hid hown3
  clear hown3 hgrow3
  go_wp2_with (at_builtin; refine wpList_append_any _ rfl _ _ 25 rfl w.heap.size 23 i0 (.agg #[.int .i64 0, .int .i64 0, .string ⟨#[]⟩]) 3 32 Try.underlying25 hi hz0 hz1 hz2 rfl (by decide) _ _ _ rfl Hown3.out (some ⟨gb, ob, none⟩) m d w.heap.size CB rfl ?r1 o1b ?c1 ?c2 ?c3 ?_)
  case r1 => exact Hs.out.below Hb3.out
  case c1 => unfold maxLen; omega
  case c2 => omega
  case c3 => exact Hb3.out.size
  intro v4 w4 hown4 hgrow4
  have HbE : Hid (Below w.heap.size w w4) := Lib.hid (Hb3.out.grown hgrow4 Hb3.out.size (fun g hg => (Hown3.out.lt g hg).1))
  have hown4' : w4.ownsRow w.heap.size 23 3 v4 (n + m) CC := by
    rw [HC.out]
    simpa using hown4
  obtain ⟨A4, c4, hv4, _, hR4⟩ := owns_cells hown4'
  rw [hv4]
  have HR4 := Lib.hid hR4
  clear hown4 hown4' hgrow4 Hown3 hR4 hv4
  go_wp2_with (first
    | (go_at_call 21; (with_reducible refine (Q1.out _ HbE.out).mono ?_); rintro e w5 ⟨rfl, hb5⟩; replace HR4 := Lib.hid (HR4.out.on15 hb5); replace HbE := Lib.hid (HbE.out.trans (hb5.mono HbE.out.size)); clear hb5 Q1)
    | (go_at_call 21; (with_reducible refine (Q2.out _ HbE.out).mono ?_); rintro e w6 ⟨rfl, hb6⟩; replace HR4 := Lib.hid (HR4.out.on15 hb6); replace HbE := Lib.hid (HbE.out.trans (hb6.mono HbE.out.size)); clear hb6 Q2)
    | (go_at_call 21; (with_reducible refine (Q3.out A4 c4 _ HR4.out).mono ?_); rintro e w7 ⟨rfl, hb7⟩; replace HR4 := Lib.hid (HR4.out.on15 hb7); replace HbE := Lib.hid (HbE.out.trans (hb7.mono HbE.out.size)); clear hb7 Q3)
    | (go_at_call 17; (with_reducible refine (J1.out _ HbE.out).mono ?_); rintro e w8 ⟨rfl, hb8⟩; replace HR4 := Lib.hid (HR4.out.on15 hb8); replace HbE := Lib.hid (HbE.out.trans (hb8.mono HbE.out.size)); clear hb8 J1)
    | (go_at_call 17; (with_reducible refine (J2.out _ HbE.out).mono ?_); rintro e w10 ⟨rfl, hb10⟩; replace HR4 := Lib.hid (HR4.out.on15 hb10); replace HbE := Lib.hid (HbE.out.trans (hb10.mono HbE.out.size)); clear hb10 J2)
    | (go_at_call 17; (with_reducible refine (J3.out A4 c4 _ HR4.out).mono ?_); rintro e w11 ⟨rfl, hb11⟩; replace HbE := Lib.hid (HbE.out.trans (hb11.mono HbE.out.size)); clear hb11 J3)
    | (go_at_call 8; refine (awake15_any _).mono ?_; rintro e w9 ⟨rfl, hb9⟩; replace HbE := Lib.hid (HbE.out.trans (hb9.mono HbE.out.size)); clear hb9))
  go_ret
  exact ⟨rfl, HbE.out⟩
set_option maxRecDepth 100000 in
set_option maxHeartbeats 8000000 in
theorem recordRows_F4 (a b : List Rc) (A B : Option Addr) (n m c d : Nat) (hn : a.length = n) (hm : b.length = m) (w : World) (h1 : fewF a = true) (h2 : fewF b = true) (p : Nat) (hp : p + 1 = n) (m0 : m ≠ 0) (x1 x2 y1 y2 : Int) (hE : REnds w a b A B p x1 x2 y1 y2) (hy : y1 < 9223372036854775808) (o1 : 1 < y1) (o2 : x1 = y1 - 1) (o3 : x2 ≤ y2) (r1 : rrowF a = 0) (r2 : rrowF b = 0) (r3 : rrowF (a ++ b) = 0) (g0 : (rjoinF (a ++ b)).2 = 3) (g1 : (rjoinF a).2 = 0) (g2 : (rjoinF b).2 ≠ 0) (hr : Reads w w.heap.size 3 A n (rcs a)) (hs : Reads w w.heap.size 3 B m (rcs b)) :
    Calls Try.prog 6 #[.slice A n c, .slice B m d] w fun e w' => e = .returned (.bool true) ∧ Below w.heap.size w w' := by
  have hf1 := few_any a A n c w hn hr
  rw [h1] at hf1
  have hf2 := few_any b B m d w hm hs
  rw [h2] at hf2
  have l1 := few_len h1
  have l2 := few_len h2
  have nl : n ≤ 200 ∧ m ≤ 200 := by omega
  have Q1 := fun W (hb : Below w.heap.size w W) => p_rrow_any a A n c W hn (by omega) ((hr.below hb).more hb.size)
  have Q2 := fun W (hb : Below w.heap.size w W) => p_rrow_any b B m d W hm (by omega) ((hs.below hb).more hb.size)
  have Q3 := fun A2 c2 W (h : Reads W W.heap.size 3 A2 (n + m) (rcs (a ++ b))) => p_rrow_any (a ++ b) A2 (n + m) c2 W (by rw [List.length_append, hn, hm]) (by omega) h
  have J1 := fun W (hb : Below w.heap.size w W) => p_rjoin_any a A n c W hn (by omega) ((hr.below hb).more hb.size)
  have J2 := fun W (hb : Below w.heap.size w W) => p_rjoin_any b B m d W hm (by omega) ((hs.below hb).more hb.size)
  have J3 := fun A2 c2 W (h : Reads W W.heap.size 3 A2 (n + m) (rcs (a ++ b))) => p_rjoin_any (a ++ b) A2 (n + m) c2 W (by rw [List.length_append, hn, hm]) (by omega) h
  have hcc := rcs_app a b
  obtain ⟨i0, hi, hz0, hz1, hz2⟩ := info_parts rec_info
  obtain ⟨ga, oa, rfl, ca1, ca2⟩ := hE.cell1
  obtain ⟨gb, ob, rfl, cb1, cb2⟩ := hE.cell2
  have hsub : (n : Int) - 1 = (p : Int) := by omega
  have hsub1 : IntKind.i64.wrap ((n : Int) - 1) = (p : Int) := by rw [IntKind.wrap_i64]; omega
  have hsub2 : IntKind.i64.wrap (p : Int) = (p : Int) := by rw [IntKind.wrap_i64]; omega
  have hpn : (0 : Int) ≤ (p : Int) ∧ (p : Int) < (n : Int) := by omega
  have hm1 : (0 : Int) < (m : Int) := by omega
  have k1 : ((n : Int) == 0) = false := beq_eq_false_iff_ne.2 (by omega)
  have k2 : ((m : Int) == 0) = false := beq_eq_false_iff_ne.2 (by omega)
  have hyw : IntKind.i64.wrap (y1 - 1) = y1 - 1 := by rw [IntKind.wrap_i64]; omega
  have t1 : decide ((1 : Int) < y1) = true := decide_eq_true o1
  have t3 : decide (x2 ≤ y2) = true := decide_eq_true o3
  rw [r1] at Q1
  rw [r2] at Q2
  rw [r3] at Q3
  rw [g0] at J3
  rw [g1] at J1
  have u6 : ((rjoinF b).2 != 0) = true := by simpa using g2
  have Hr := Lib.hid hr
  have Hs := Lib.hid hs
  replace Q1 := Lib.hid Q1
  replace Q2 := Lib.hid Q2
  replace Q3 := Lib.hid Q3
  replace J1 := Lib.hid J1
  replace J2 := Lib.hid J2
  replace J3 := Lib.hid J3
  clear hr hs hE h1 h2 r1 r2 r3 g0 g1 g2
  generalize (rjoinF (a ++ b)).1 = X3 at *
  generalize (rjoinF (a ++ b)).2 = E3 at *
  generalize rrowF (a ++ b) = F3 at *
  have HC : Hid (rcs (a ++ b) = rcs a ++ rcs b) := Lib.hid hcc
  clear hcc hn hm
  generalize rcs (a ++ b) = CC at *
  have o1a := rcs_one a
  have o1b := rcs_one b
  generalize rcs a = CA at *
  generalize rcs b = CB at *
  generalize (rjoinF a).1 = X1 at *
  generalize (rjoinF a).2 = E1 at *
  generalize (rjoinF b).1 = X2 at *
  generalize (rjoinF b).2 = E2 at *
  generalize rrowF a = F1 at *
  generalize rrowF b = F2 at *
  go_enter Try.func6, Try.ntmps6
  go_wp2_with (first
    | (go_at_call 7; (with_reducible refine hf1.mono ?_); rintro e w0 ⟨rfl, hw0⟩; obtain rfl := hw0.symm; clear hf1)
    | (go_at_call 7; (with_reducible refine hf2.mono ?_); rintro e w0 ⟨rfl, hw0⟩; obtain rfl := hw0.symm; clear hf2)
    | fail)
  go_quiet (fail)
  go_wp2_with (at_builtin; refine wpList_append_any _ rfl _ _ 25 rfl w.heap.size 23 i0 (.agg #[.int .i64 0, .int .i64 0, .string ⟨#[]⟩]) 3 32 Try.underlying25 hi hz0 hz1 hz2 rfl (by decide) _ 0 [] rfl ?o1 (some ⟨ga, oa, none⟩) n c w.heap.size CA rfl ?r1 o1a ?c1 ?c2 ?c3 ?_)
  case o1 => exact World.ownsRow_lit _ #[] 0 (Nat.le_refl _) (by decide) rfl
  case r1 => exact Hr.out.below ((below_drewN (Below.refl _ _) _).alloc (Nat.le_refl _) _)
  case c1 => unfold maxLen; omega
  case c2 => omega
  case c3 => simp
  intro v3 w3 hown3 hgrow3
  have Hb3 : Hid (Below w.heap.size w w3) := Lib.hid (((below_drewN (Below.refl _ _) _).alloc (Nat.le_refl _) _).grown hgrow3 (by simp) (fun g hg => by simp [Value.ownBlock] at hg; subst hg; exact Nat.le_refl _))
  have Hown3 := Lib.hid hown3
  clear hown3 hgrow3
  go_wp2_with (at_builtin; refine wpList_append_any _ rfl _ _ 25 rfl w.heap.size 23 i0 (.agg #[.int .i64 0, .int .i64 0, .string ⟨#[]⟩]) 3 32 Try.underlying25 hi hz0 hz1 hz2 rfl (by decide) _ _ _ rfl Hown3.out (some ⟨gb, ob, none⟩) m d w.heap.size CB rfl ?r1 o1b ?c1 ?c2 ?c3 ?_)
  case r1 => exact Hs.out.below Hb3.out
  case c1 => unfold maxLen; omega
  case c2 => omega
  case c3 => exact Hb3.out.size
  intro v4 w4 hown4 hgrow4
  have HbE : Hid (Below w.heap.size w w4) := Lib.hid (Hb3.out.grown hgrow4 Hb3.out.size (fun g hg => (Hown3.out.lt g hg).1))
  have hown4' : w4.ownsRow w.heap.size 23 3 v4 (n + m) CC := by
    rw [HC.out]
    simpa using hown4
  obtain ⟨A4, c4, hv4, _, hR4⟩ := owns_cells hown4'
  rw [hv4]
  have HR4 := Lib.hid hR4
  clear hown4 hown4' hgrow4 Hown3 hR4 hv4
  go_wp2_with (first
    | (go_at_call 21; (with_reducible refine (Q1.out _ HbE.out).mono ?_); rintro e w5 ⟨rfl, hb5⟩; replace HR4 := Lib.hid (HR4.out.on15 hb5); replace HbE := Lib.hid (HbE.out.trans (hb5.mono HbE.out.size)); clear hb5 Q1)
    | (go_at_call 21; (with_reducible refine (Q2.out _ HbE.out).mono ?_); rintro e w6 ⟨rfl, hb6⟩; replace HR4 := Lib.hid (HR4.out.on15 hb6); replace HbE := Lib.hid (HbE.out.trans (hb6.mono HbE.out.size)); clear hb6 Q2)
    | (go_at_call 21; (with_reducible refine (Q3.out A4 c4 _ HR4.out).mono ?_); rintro e w7 ⟨rfl, hb7⟩; replace HR4 := Lib.hid (HR4.out.on15 hb7); replace HbE := Lib.hid (HbE.out.trans (hb7.mono HbE.out.size)); clear hb7 Q3)
    | (go_at_call 17; (with_reducible refine (J1.out _ HbE.out).mono ?_); rintro e w8 ⟨rfl, hb8⟩; replace HR4 := Lib.hid (HR4.out.on15 hb8); replace HbE := Lib.hid (HbE.out.trans (hb8.mono HbE.out.size)); clear hb8 J1)
    | (go_at_call 17; (with_reducible refine (J2.out _ HbE.out).mono ?_); rintro e w10 ⟨rfl, hb10⟩; replace HR4 := Lib.hid (HR4.out.on15 hb10); replace HbE := Lib.hid (HbE.out.trans (hb10.mono HbE.out.size)); clear hb10 J2)
    | (go_at_call 17; (with_reducible refine (J3.out A4 c4 _ HR4.out).mono ?_); rintro e w11 ⟨rfl, hb11⟩; replace HbE := Lib.hid (HbE.out.trans (hb11.mono HbE.out.size)); clear hb11 J3)
    | (go_at_call 8; refine (awake15_any _).mono ?_; rintro e w9 ⟨rfl, hb9⟩; replace HbE := Lib.hid (HbE.out.trans (hb9.mono HbE.out.size)); clear hb9))
  go_ret
  exact ⟨rfl, HbE.out⟩
set_option maxRecDepth 100000 in
set_option maxHeartbeats 8000000 in
theorem recordRows_G4 (a b : List Rc) (A B : Option Addr) (n m c d : Nat) (hn : a.length = n) (hm : b.length = m) (w : World) (h1 : fewF a = true) (h2 : fewF b = true) (p : Nat) (hp : p + 1 = n) (m0 : m ≠ 0) (x1 x2 y1 y2 : Int) (hE : REnds w a b A B p x1 x2 y1 y2) (hy : y1 < 9223372036854775808) (o1 : 1 < y1) (o2 : x1 = y1 - 1) (o3 : x2 ≤ y2) (r1 : rrowF a = 0) (r2 : rrowF b = 0) (r3 : rrowF (a ++ b) = 0) (g0 : (rjoinF (a ++ b)).2 = 3) (g1 : (rjoinF a).2 = 0) (g2 : (rjoinF b).2 = 0) (g3 : 20000 < (rjoinF a).1.length + (rjoinF b).1.length) (g4 : (rjoinF a).1.length ≤ 20000 ∧ (rjoinF b).1.length ≤ 20000) (hr : Reads w w.heap.size 3 A n (rcs a)) (hs : Reads w w.heap.size 3 B m (rcs b)) :
    Calls Try.prog 6 #[.slice A n c, .slice B m d] w fun e w' => e = .returned (.bool true) ∧ Below w.heap.size w w' := by
  have hf1 := few_any a A n c w hn hr
  rw [h1] at hf1
  have hf2 := few_any b B m d w hm hs
  rw [h2] at hf2
  have l1 := few_len h1
  have l2 := few_len h2
  have nl : n ≤ 200 ∧ m ≤ 200 := by omega
  have Q1 := fun W (hb : Below w.heap.size w W) => p_rrow_any a A n c W hn (by omega) ((hr.below hb).more hb.size)
  have Q2 := fun W (hb : Below w.heap.size w W) => p_rrow_any b B m d W hm (by omega) ((hs.below hb).more hb.size)
  have Q3 := fun A2 c2 W (h : Reads W W.heap.size 3 A2 (n + m) (rcs (a ++ b))) => p_rrow_any (a ++ b) A2 (n + m) c2 W (by rw [List.length_append, hn, hm]) (by omega) h
  have J1 := fun W (hb : Below w.heap.size w W) => p_rjoin_any a A n c W hn (by omega) ((hr.below hb).more hb.size)
  have J2 := fun W (hb : Below w.heap.size w W) => p_rjoin_any b B m d W hm (by omega) ((hs.below hb).more hb.size)
  have J3 := fun A2 c2 W (h : Reads W W.heap.size 3 A2 (n + m) (rcs (a ++ b))) => p_rjoin_any (a ++ b) A2 (n + m) c2 W (by rw [List.length_append, hn, hm]) (by omega) h
  have hcc := rcs_app a b
  obtain ⟨i0, hi, hz0, hz1, hz2⟩ := info_parts rec_info
  obtain ⟨ga, oa, rfl, ca1, ca2⟩ := hE.cell1
  obtain ⟨gb, ob, rfl, cb1, cb2⟩ := hE.cell2
  have hsub : (n : Int) - 1 = (p : Int) := by omega
  have hsub1 : IntKind.i64.wrap ((n : Int) - 1) = (p : Int) := by rw [IntKind.wrap_i64]; omega
  have hsub2 : IntKind.i64.wrap (p : Int) = (p : Int) := by rw [IntKind.wrap_i64]; omega
  have hpn : (0 : Int) ≤ (p : Int) ∧ (p : Int) < (n : Int) := by omega
  have hm1 : (0 : Int) < (m : Int) := by omega
  have k1 : ((n : Int) == 0) = false := beq_eq_false_iff_ne.2 (by omega)
  have k2 : ((m : Int) == 0) = false := beq_eq_false_iff_ne.2 (by omega)
  have hyw : IntKind.i64.wrap (y1 - 1) = y1 - 1 := by rw [IntKind.wrap_i64]; omega
  have t1 : decide ((1 : Int) < y1) = true := decide_eq_true o1
  have t3 : decide (x2 ≤ y2) = true := decide_eq_true o3
  rw [r1] at Q1
  rw [r2] at Q2
  rw [r3] at Q3
  rw [g0] at J3
  rw [g1] at J1
  rw [g2] at J2
  have hsum : (20000 : Int) < ((rjoinF a).1.length : Int) + ((rjoinF b).1.length : Int) := by omega
  have hsb : ((rjoinF a).1.length : Int) ≤ 20000 ∧ ((rjoinF b).1.length : Int) ≤ 20000 := by omega
  have Hr := Lib.hid hr
  have Hs := Lib.hid hs
  replace Q1 := Lib.hid Q1
  replace Q2 := Lib.hid Q2
  replace Q3 := Lib.hid Q3
  replace J1 := Lib.hid J1
  replace J2 := Lib.hid J2
  replace J3 := Lib.hid J3
  clear hr hs hE h1 h2 r1 r2 r3 g0 g1 g2 g3 g4
  generalize (rjoinF (a ++ b)).1 = X3 at *
  generalize (rjoinF (a ++ b)).2 = E3 at *
  generalize rrowF (a ++ b) = F3 at *
  have HC : Hid (rcs (a ++ b) = rcs a ++ rcs b) := Lib.hid hcc
  clear hcc hn hm
  generalize rcs (a ++ b) = CC at *
  have o1a := rcs_one a
  have o1b := rcs_one b
  generalize rcs a = CA at *
  generalize rcs b = CB at *
  generalize (rjoinF a).1 = X1 at *
  generalize (rjoinF a).2 = E1 at *
  generalize (rjoinF b).1 = X2 at *
  generalize (rjoinF b).2 = E2 at *
  generalize rrowF a = F1 at *
  generalize rrowF b = F2 at *
  go_enter Try.func6, Try.ntmps6
  go_wp2_with (first
    | (go_at_call 7; (with_reducible refine hf1.mono ?_); rintro e w0 ⟨rfl, hw0⟩; obtain rfl := hw0.symm; clear hf1)
    | (go_at_call 7; (with_reducible refine hf2.mono ?_); rintro e w0 ⟨rfl, hw0⟩; obtain rfl := hw0.symm; clear hf2)
    | fail)
  go_quiet (fail)
  go_wp2_with (at_builtin; refine wpList_append_any _ rfl _ _ 25 rfl w.heap.size 23 i0 (.agg #[.int .i64 0, .int .i64 0, .string ⟨#[]⟩]) 3 32 Try.underlying25 hi hz0 hz1 hz2 rfl (by decide) _ 0 [] rfl ?o1 (some ⟨ga, oa, none⟩) n c w.heap.size CA rfl ?r1 o1a ?c1 ?c2 ?c3 ?_)
  case o1 => exact World.ownsRow_lit _ #[] 0 (Nat.le_refl _) (by decide) rfl
  case r1 => exact Hr.out.below ((below_drewN (Below.refl _ _) _).alloc (Nat.le_refl _) _)
  case c1 => unfold maxLen; omega
  case c2 => omega
  case c3 => simp
  intro v3 w3 hown3 hgrow3
  have Hb3 : Hid (Below w.heap.size w w3) := Lib.hid (((below_drewN (Below.refl _ _) _).alloc (Nat.le_refl _) _).grown hgrow3 (by simp) (fun g hg => by simp [Value.ownBlock] at hg; subst hg; exact Nat.le_refl _))
  have Hown3 := Lib.hid hown3
  clear hown3 hgrow3
  go_wp2_with (at_builtin; refine wpList_append_any _ rfl _ _ 25 rfl w.heap.size 23 i0 (.agg #[.int .i64 0, .int .i64 0, .string ⟨#[]⟩]) 3 32 Try.underlying25 hi hz0 hz1 hz2 rfl (by decide) _ _ _ rfl Hown3.out (some ⟨gb, ob, none⟩) m d w.heap.size CB rfl ?r1 o1b ?c1 ?c2 ?c3 ?_)
  case r1 => exact Hs.out.below Hb3.out
  case c1 => unfold maxLen; omega
  case c2 => omega
  case c3 => exact Hb3.out.size
  intro v4 w4 hown4 hgrow4
  have HbE : Hid (Below w.heap.size w w4) := Lib.hid (Hb3.out.grown hgrow4 Hb3.out.size (fun g hg => (Hown3.out.lt g hg).1))
  have hown4' : w4.ownsRow w.heap.size 23 3 v4 (n + m) CC := by
    rw [HC.out]
    simpa using hown4
  obtain ⟨A4, c4, hv4, _, hR4⟩ := owns_cells hown4'
  rw [hv4]
  have HR4 := Lib.hid hR4
  clear hown4 hown4' hgrow4 Hown3 hR4 hv4
  go_wp2_with (first
    | (go_at_call 21; (with_reducible refine (Q1.out _ HbE.out).mono ?_); rintro e w5 ⟨rfl, hb5⟩; replace HR4 := Lib.hid (HR4.out.on15 hb5); replace HbE := Lib.hid (HbE.out.trans (hb5.mono HbE.out.size)); clear hb5 Q1)
    | (go_at_call 21; (with_reducible refine (Q2.out _ HbE.out).mono ?_); rintro e w6 ⟨rfl, hb6⟩; replace HR4 := Lib.hid (HR4.out.on15 hb6); replace HbE := Lib.hid (HbE.out.trans (hb6.mono HbE.out.size)); clear hb6 Q2)
    | (go_at_call 21; (with_reducible refine (Q3.out A4 c4 _ HR4.out).mono ?_); rintro e w7 ⟨rfl, hb7⟩; replace HR4 := Lib.hid (HR4.out.on15 hb7); replace HbE := Lib.hid (HbE.out.trans (hb7.mono HbE.out.size)); clear hb7 Q3)
    | (go_at_call 17; (with_reducible refine (J1.out _ HbE.out).mono ?_); rintro e w8 ⟨rfl, hb8⟩; replace HR4 := Lib.hid (HR4.out.on15 hb8); replace HbE := Lib.hid (HbE.out.trans (hb8.mono HbE.out.size)); clear hb8 J1)
    | (go_at_call 17; (with_reducible refine (J2.out _ HbE.out).mono ?_); rintro e w10 ⟨rfl, hb10⟩; replace HR4 := Lib.hid (HR4.out.on15 hb10); replace HbE := Lib.hid (HbE.out.trans (hb10.mono HbE.out.size)); clear hb10 J2)
    | (go_at_call 17; (with_reducible refine (J3.out A4 c4 _ HR4.out).mono ?_); rintro e w11 ⟨rfl, hb11⟩; replace HbE := Lib.hid (HbE.out.trans (hb11.mono HbE.out.size)); clear hb11 J3)
    | (go_at_call 8; refine (awake15_any _).mono ?_; rintro e w9 ⟨rfl, hb9⟩; replace HbE := Lib.hid (HbE.out.trans (hb9.mono HbE.out.size)); clear hb9))
  go_ret
  exact ⟨rfl, HbE.out⟩
theorem rjoin_le {l : List Rc} (h : (rjoinF l).2 = 0) : (rjoinF l).1.length ≤ 20000 := by
  obtain ⟨_, e, h2⟩ := rback h
  rw [e]
  exact h2
theorem recordRows_near (a b : List Rc) (A B : Option Addr) (n m c d : Nat) (hn : a.length = n) (hm : b.length = m) (w : World) (h1 : fewF a = true) (h2 : fewF b = true) (p : Nat) (hp : p + 1 = n) (m0 : m ≠ 0) (x1 x2 y1 y2 : Int) (hE : REnds w a b A B p x1 x2 y1 y2) (hy : y1 < 9223372036854775808) (hd1 : ∀ r ∈ a, r.1 < 9223372036854775808) (hr : Reads w w.heap.size 3 A n (rcs a)) (hs : Reads w w.heap.size 3 B m (rcs b)) (hx : x1 = (a.getLastD rnone).1 ∧ x2 = (a.getLastD rnone).2.1 ∧ y1 = (b.headD rnone).1 ∧ y2 = (b.headD rnone).2.1) :
    Calls Try.prog 6 #[.slice A n c, .slice B m d] w fun e w' => e = .returned (.bool true) ∧ Below w.heap.size w w' := by
  have ha : a ≠ [] := fun e => by subst e; simp at hn; omega
  have hb : b ≠ [] := fun e => by subst e; simp at hm; omega
  have ea : a.getLastD rnone = a.getLast ha := by rw [List.getLastD_eq_getLast?, List.getLast?_eq_some_getLast ha]; rfl
  have eb : b.headD rnone = b.head hb := by
    cases b with
    | nil => exact absurd rfl hb
    | cons y t => rfl
  rw [ea, eb] at hx
  have hno : rrowF (a ++ b) ≠ 0 → (rjoinF (a ++ b)).2 ≠ 0 := fun h => by
    unfold rjoinF
    rw [if_pos h]
    exact h
  by_cases r1 : rrowF a = 0
  · by_cases r2 : rrowF b = 0
    · have hgo := rrow_app ha hb r1 r2
      rw [rgo_iff, ← hx.1, ← hx.2.1, ← hx.2.2.1, ← hx.2.2.2] at hgo
      have hmay := (rmay_iff _).1 (rrow_may r1 _ (List.getLast_mem ha))
      rw [← hx.1] at hmay
      by_cases o1 : 1 < y1
      · by_cases o2 : x1 = y1 - 1
        · by_cases o3 : x2 ≤ y2
          · have r3 := hgo.2 ⟨by omega, o3⟩
            by_cases g : (rjoinF (a ++ b)).2 = 0
            · obtain ⟨q1, q2, q3⟩ := rjoin_app g
              have := rjoin_le g
              rw [q3, List.length_append] at this
              exact recordRows_D4 a b A B n m c d hn hm w h1 h2 p hp m0 x1 x2 y1 y2 hE hy o1 o2 o3 r1 r2 r3 (Prod.ext q3 g) q1 q2 this hr hs
            · have g3 : (rjoinF (a ++ b)).2 = 3 := by
                unfold rjoinF at g ⊢
                rw [if_neg (by omega)] at g ⊢
                by_cases h : 20000 < (rjB (a ++ b)).length
                · rw [if_pos h]
                · rw [if_neg h] at g
                  exact absurd rfl g
              by_cases g1 : (rjoinF a).2 = 0
              · by_cases g2 : (rjoinF b).2 = 0
                · obtain ⟨_, e1, _⟩ := rback g1
                  obtain ⟨_, e2, _⟩ := rback g2
                  refine recordRows_G4 a b A B n m c d hn hm w h1 h2 p hp m0 x1 x2 y1 y2 hE hy o1 o2 o3 r1 r2 r3 g3 g1 g2 ?_ ⟨rjoin_le g1, rjoin_le g2⟩ hr hs
                  rw [e1, e2]
                  dsimp only
                  rw [← List.length_append, ← rjB_app]
                  unfold rjoinF at g
                  rw [if_neg (by omega)] at g
                  by_cases h : 20000 < (rjB (a ++ b)).length
                  · exact h
                  · rw [if_neg h] at g
                    exact absurd rfl g
                · exact recordRows_F4 a b A B n m c d hn hm w h1 h2 p hp m0 x1 x2 y1 y2 hE hy o1 o2 o3 r1 r2 r3 g3 g1 g2 hr hs
              · exact recordRows_E4 a b A B n m c d hn hm w h1 h2 p hp m0 x1 x2 y1 y2 hE hy o1 o2 o3 r1 r2 r3 g3 g1 hr hs
          · have r3 : rrowF (a ++ b) ≠ 0 := fun h => o3 (hgo.1 h).2
            exact recordRows_C3 a b A B n m c d hn hm w h1 h2 p hp m0 x1 x2 y1 y2 hE hy o1 o2 o3 r1 r2 r3 (hno r3) hr hs
        · have r3 : rrowF (a ++ b) ≠ 0 := fun h => o2 (by have := (hgo.1 h).1; omega)
          exact recordRows_C2 a b A B n m c d hn hm w h1 h2 p hp m0 x1 x2 y1 y2 hE hy o1 o2 r1 r2 r3 (hno r3) hr hs
      · have r3 : rrowF (a ++ b) ≠ 0 := fun h => o1 (by have := (hgo.1 h).1; omega)
        exact recordRows_C1 a b A B n m c d hn hm w h1 h2 p hp m0 x1 x2 y1 y2 hE hy o1 r1 r2 r3 (hno r3) hr hs
    · have g0 := hno fun h => r2 (rrow_part h).2
      by_cases o1 : 1 < y1
      · by_cases o2 : x1 = y1 - 1
        · by_cases o3 : x2 ≤ y2
          · exact recordRows_B4 a b A B n m c d hn hm w h1 h2 p hp m0 x1 x2 y1 y2 hE hy o1 o2 o3 r1 r2 g0 hr hs
          · exact recordRows_B3 a b A B n m c d hn hm w h1 h2 p hp m0 x1 x2 y1 y2 hE hy o1 o2 o3 r1 r2 g0 hr hs
        · exact recordRows_B2 a b A B n m c d hn hm w h1 h2 p hp m0 x1 x2 y1 y2 hE hy o1 o2 r1 r2 g0 hr hs
      · exact recordRows_B1 a b A B n m c d hn hm w h1 h2 p hp m0 x1 x2 y1 y2 hE hy o1 r1 r2 g0 hr hs
  · have g0 := hno fun h => r1 (rrow_part h).1
    by_cases o1 : 1 < y1
    · by_cases o2 : x1 = y1 - 1
      · by_cases o3 : x2 ≤ y2
        · exact recordRows_A4 a b A B n m c d hn hm w h1 h2 p hp m0 x1 x2 y1 y2 hE hy o1 o2 o3 r1 g0 hr hs
        · exact recordRows_A3 a b A B n m c d hn hm w h1 h2 p hp m0 x1 x2 y1 y2 hE hy o1 o2 o3 r1 g0 hr hs
      · exact recordRows_A2 a b A B n m c d hn hm w h1 h2 p hp m0 x1 x2 y1 y2 hE hy o1 o2 r1 g0 hr hs
    · exact recordRows_A1 a b A B n m c d hn hm w h1 h2 p hp m0 x1 x2 y1 y2 hE hy o1 r1 g0 hr hs
theorem recordRows_walk (a b : List Rc) (A B : Option Addr) (n m c d : Nat) (hn : a.length = n) (hm : b.length = m) (w : World) (hd1 : ∀ r ∈ a, r.1 < 9223372036854775808) (hd2 : ∀ r ∈ b, r.1 < 9223372036854775808) (hr : Reads w w.heap.size 3 A n (rcs a)) (hs : Reads w w.heap.size 3 B m (rcs b)) :
    Calls Try.prog 6 #[.slice A n c, .slice B m d] w fun e w' => e = .returned (.bool true) ∧ Below w.heap.size w w' := by
  cases h1 : fewF a with
  | false => exact recordRows_far0 a b A B n m c d hn hm w h1 hr hs
  | true =>
    cases h2 : fewF b with
    | false => exact recordRows_far1 a b A B n m c d hn hm w h1 h2 hr hs
    | true =>
      by_cases n0 : n = 0
      · exact recordRows_far2 a b A B n m c d hn hm w h1 h2 n0 hr hs
      · by_cases m0 : m = 0
        · exact recordRows_far3 a b A B n m c d hn hm w h1 h2 n0 m0 hr hs
        · obtain ⟨p, hp⟩ : ∃ p, p + 1 = n := ⟨n - 1, by omega⟩
          obtain ⟨x1, x2, y1, y2, hE, k1, k2, k3, k4⟩ := rends_of hn hm hp m0 hr hs
          have la : a.getLastD rnone = a[p]'(by omega) := by
            have := rlast_at a p (by omega)
            rw [List.take_of_length_le (by omega)] at this
            rw [List.getLastD_eq_getLast?]
            exact this
          have lb : b.headD rnone = b[0]'(by omega) := by
            cases b with
            | nil => simp at hm; omega
            | cons y t => rfl
          refine recordRows_near a b A B n m c d hn hm w h1 h2 p hp m0 x1 x2 y1 y2 hE ?_ hd1 hr hs ⟨by rw [la]; exact k1, by rw [la]; exact k2, by rw [lb]; exact k3, by rw [lb]; exact k4⟩
          rw [k3]
          exact hd2 _ (List.getElem_mem _)
namespace RecordRows
set_option maxRecDepth 100000 in
theorem lifted (os : Os) (started : os.Started) (H : Type) (enc : TypeId × Value → H) :
    ReturnsInHanded {} Try.checked os 6 .any (Rows.recordRowsSpec.pre6 enc Try.prog Try.f6 Rows.recordRowsRow.domain false) (Rows.recordRowsSpec.post enc Try.prog Try.f6 false true false false) := by
  refine law_sized (C := Try.checked) (tb := 4) ownP started (by kernel_rfl) Try.func6
    (ChangeSpec.witness6 (enc := enc) (C := Try.checked) false ⟨#[], #[.slice none 0 0, .slice none 0 0], []⟩ 8 (by kernel_rfl) (by kernel_rfl) (by kernel_rfl) (by kernel_rfl))
    laidP (by kernel_rfl) rfl (by kernel_rfl) Try.underlying4 (by intro ds h; match ds, h with | [_, _], _ => rfl) ?_
  intro W base args ds p hval0 hA0 hlt _
  have hval : ∀ (j : Nat) t v, Try.f6.params[j]? = some t → args[j]? = some v → Value.okWide Try.prog W .any base t v := hval0
  have hA : DataW.TrodAll enc Try.prog W 0 (fun _ => true) true Try.f6.params.toList args.toList ds p := hA0
  rw [Try.params6] at hA hval
  obtain ⟨v0, v1, d0, d1, p0, p1, rfl, rfl, rfl, h0, h1⟩ := trodAll_two hA
  obtain ⟨Aa, na, ca, a, rfl, ea, hna, hma, hra, hba⟩ := open_recs Try.underlying25 Try.underlying23 (by kernel_rfl) (by kernel_rfl) Try.underlying3 Try.underlying3 Try.underlying9 (hval 0 25 v0 rfl rfl) h0
  obtain ⟨Ab, nb, cb, b, rfl, eb, hnb, hmb, hrb, hbb⟩ := open_recs Try.underlying25 Try.underlying23 (by kernel_rfl) (by kernel_rfl) Try.underlying3 Try.underlying3 Try.underlying9 (hval 1 25 v1 rfl rfl) h1
  exact recordRows_walk a b Aa Ab na nb ca cb ea eb W (fun r hr => (hba r hr).1) (fun r hr => (hbb r hr).1) hra hrb
theorem holds : Rows.RecordRowsSaid :=
  OpenClaim.holds_of_wide 6 Try.f6 rfl rfl rfl rfl rfl rfl rfl ⟨rfl, rfl, rfl, rfl, rfl⟩ rfl rfl rfl rfl rfl (by kernel_rfl) Try.func6 (by kernel_rfl)
    (of_decide_eq_true (by kernel_rfl)) (by unfold Func.isWrapper; first | (rw [if_pos (by decide +kernel)]; kernel_rfl) | (rw [if_neg (by decide +kernel)]; exact ⟨rfl, rfl⟩))
    (fun os started H enc _ => lifted os started H enc)
end RecordRows
end Go.Proofs.Ytckengcphaaohaa
