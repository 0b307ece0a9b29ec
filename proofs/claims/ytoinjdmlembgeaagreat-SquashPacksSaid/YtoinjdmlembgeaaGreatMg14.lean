/-
 What the law of the last of these texts stands on, part 14.
-/
import Derived.Test.YtoinjdmlembgeaaGreatMg09
namespace Go.Proofs.YtoinjdmlembgeaaGreat
set_option linter.unusedSimpArgs false
set_option linter.unusedVariables false
open Go.ChangeShapes Go.WideShapes Go.ChangeAt Go.RowKit Go.Joins Go.Deep Go.Shelf Go.Lib
open Go.Sort (SWO swp size_swp HoldsK)
section
variable {P0 : Program} {k : Nat} {α : Type} [Inhabited α] {enc : α → List Value} {w0 : World} {blk off : Nat} {d0 : Array α} {cf : α → α → Int} {no : α → Nat}
def SymmAt (P0 : Program) (k : Nat) (enc : α → List Value) (w0 : World) (blk off : Nat) (cf : α → α → Int) (no : α → Nat) (g : Nat) (cb : Array Value) (len cap : Nat) (sz : Nat) : Prop :=
 ∀ (P X Y Q : List α) (a m b : Nat) (w : World), X.length + Y.length ≤ sz → 0 < X.length → 0 < Y.length → Both (ltOf cf) no P X Y Q (P ++ (X ++ (Y ++ Q))).toArray a m b len → SWK enc k w0 blk off (P ++ (X ++ (Y ++ Q))).toArray w →
  Calls P0 162 #[.slice (some ⟨blk, off, none⟩) len cap, .int .i64 a, .int .i64 m, .int .i64 b, .func (.func g) #[] cb] w fun e w' =>
   e = .returned (.tuple #[]) ∧ ∃ Z, Z.Perm (X ++ Y) ∧ Z.Pairwise (sord (ltOf cf) no) ∧ SWK enc k w0 blk off (P ++ (Z ++ Q)).toArray w'
set_option maxHeartbeats 8000000 in
set_option maxRecDepth 1000000 in
theorem symm_step (L : ydU P0 k) (hO : SWO (ltOf cf)) (g : Nat) (cb : Array Value) (len cap : Nat) (eg : ∀ args w, (callFunc g args).run P0 w = .ok (.enter g args) w) (hC : CmpLays P0 g cb enc k cf blk off len w0)
  (hsz : len < 4611686018427387904) (R : RowK enc k w0 blk off d0) (hd : d0.size = len) (sz : Nat) (ih : SymmAt P0 k enc w0 blk off cf no g cb len cap sz)
  (P X Y Q : List α) (a m b : Nat) (w : World) (hz : X.length + Y.length ≤ sz + 1) (hX0 : 1 < X.length) (hY0 : 1 < Y.length) (hA : Both (ltOf cf) no P X Y Q (P ++ (X ++ (Y ++ Q))).toArray a m b len) (S : SWK enc k w0 blk off (P ++ (X ++ (Y ++ Q))).toArray w) :
  Calls P0 162 #[.slice (some ⟨blk, off, none⟩) len cap, .int .i64 a, .int .i64 m, .int .i64 b, .func (.func g) #[] cb] w fun e w' =>
   e = .returned (.tuple #[]) ∧ ∃ Z, Z.Perm (X ++ Y) ∧ Z.Pairwise (sord (ltOf cf) no) ∧ SWK enc k w0 blk off (P ++ (Z ++ Q)).toArray w' := by
 have HL := Lib.hid L
 have IH := Lib.hid ih
 have HA := Lib.hid hA
 have Hd := Lib.hid hd
 have HO := Lib.hid hO
 have Hz : Hid (X.length + Y.length ≤ sz + 1) := hz
 have HR : Aside (RowK enc k w0 blk off d0) := R
 have HC : Aside (CmpLays P0 g cb enc k cf blk off len w0) := hC
 obtain ⟨dk, hdk⟩ : ∃ dk, dk = (P ++ (X ++ (Y ++ Q))).toArray := ⟨_, rfl⟩
 have S0 : Aside (SWK enc k w0 blk off dk w) := by rw [hdk]; exact S
 have Hdk := Lib.hid hdk
 have Hs : Hid (dk.size = len) := Lib.hid (by rw [hdk]; exact hA.hlen)
 have hnum : a + 1 < m ∧ m + 1 < b ∧ b ≤ len := by have h1 := hA.size; have h2 := hA.hX; have h3 := hA.hY; omega
 clear hdk S hC R hd hO ih hz hX0 hY0
 have mixed := L.mixed; have aE := L.aE; have zE := L.zE; have t0 := L.t0; have a0 := L.a0; have z0 := L.z0; have v0 := L.v0; have t3 := L.t3; have a3 := L.a3; have z3 := L.z3; have v3 := L.v3; have t4 := L.t4; have a4 := L.a4; have z4 := L.z4; have v4 := L.v4; have tS := L.tS; have aS := L.aS; have zS := L.zS; have vS := L.vS; have tF := L.tF; have aF := L.aF; have zF := L.zF; have vF := L.vF; have tU := L.tU; have aU := L.aU; have zU := L.zU; have vU := L.vU
 have uS := run_underlying L.tS; have uU := run_underlying L.tU; have u3 := run_underlying L.t3
 have esy : ∀ args w, (callFunc 162 args).run P0 w = .ok (.enter 162 args) w := enters_of L.fsy (by kernel_rfl) rfl
 have ero : ∀ args w, (callFunc 165 args).run P0 w = .ok (.enter 165 args) w := enters_of L.fro (by kernel_rfl) rfl
 have FG := L.fsy
 clear L
 obtain ⟨hma, hmb, hbl⟩ := hnum
 have q1 : (((m : Int) - (a : Int)) == 1) = false := by simp; omega
 have q2 : (((b : Int) - (m : Int)) == 1) = false := by simp; omega
 obtain ⟨mid, hmid⟩ : ∃ mid, (a + b) / 2 = mid := ⟨_, rfl⟩
 have zmid : ((a : Int) + (b : Int)) / 2 = (mid : Int) := by omega
 have hm1 : 2 * mid ≤ a + b := by omega
 have hm2 : a + b ≤ 2 * mid + 1 := by omega
 clear hmid
 obtain ⟨n, hn⟩ : ∃ n, mid + m = n := ⟨_, rfl⟩
 have zn : (mid : Int) + (m : Int) = (n : Int) := by omega
 obtain ⟨pp, hpp⟩ : ∃ pp, pp + 1 = n := ⟨n - 1, by omega⟩
 have zpp : (n : Int) - 1 = (pp : Int) := by omega
 have Hturn : Hid (∀ c d, c ≤ d → a ≤ c → d < m → m ≤ pp - d → pp - c < b → ltOf cf dk[pp - d]! dk[d]! = false → ltOf cf dk[pp - c]! dk[c]! = false) := Lib.hid fun c d h1 h2 h3 h4 h5 h6 => by
  rw [Hdk.out] at *
  exact hA.turns HO.out pp c d h1 h2 h3 h4 h5 h6
 clear hA
 by_cases hgt : mid < m
 ·have hgz : (mid : Int) < (m : Int) := by omega
  obtain ⟨c0, hc0⟩ : ∃ c0, c0 + b = n := ⟨n - b, by omega⟩
  have zc0 : (n : Int) - (b : Int) = (c0 : Int) := by omega
  obtain ⟨r0, hr0⟩ : ∃ r0, r0 = mid := ⟨_, rfl⟩
  have hcase : (mid < m ∧ mid + m = c0 + b ∧ r0 = mid) ∨ (m ≤ mid ∧ c0 = a ∧ r0 = m) := Or.inl ⟨by omega, by omega, hr0⟩
  have Hcase := Lib.hid hcase
  have hc1 : a ≤ c0 ∧ c0 ≤ r0 ∧ r0 ≤ m ∧ r0 ≤ mid := by omega
  clear hcase
  go_enter FG, Tryz.ntmps162
  go_wp2
  clear q1 q2
  go_loopg [20, 21, 23] (r0 - c0) (fun gk vi vj vh wr => ∃ i j : Nat, vi = .int .i64 i ∧ vj = .int .i64 j ∧ c0 ≤ i ∧ i ≤ j ∧ j ≤ r0 ∧ j - i ≤ gk ∧ Aside (SWK enc k w0 blk off dk wr) ∧ Hid (∀ c, c0 ≤ c → c < i → ltOf cf dk[pp - c]! dk[c]! = false) ∧ Hid (∀ c, i ≤ c → j ≤ c → c < r0 → ltOf cf dk[pp - c]! dk[c]! = true))
  case atStart => exact ⟨c0, mid, rfl, rfl, by omega, by omega, by omega, by omega, S0, fun t _ _ => by omega, fun t _ _ _ => by omega⟩
  case round =>
   obtain ⟨i, j, rfl, rfl, hi, hij, hjb, hg, S1, H1, H2⟩ := hrel
   clear S0
   by_cases hlt : i < j
   ·have hlz : (i : Int) < (j : Int) := by omega
    obtain ⟨h, hh⟩ : ∃ h, (i + j) / 2 = h := ⟨_, rfl⟩
    have sh : ((i : Int) + (j : Int)) / 2 = (h : Int) := by omega
    obtain ⟨pc, hpc⟩ : ∃ pc, pc + h = pp := ⟨pp - h, by omega⟩
    have zpc : (pp : Int) - (h : Int) = (pc : Int) := by omega
    have epc : pp - h = pc := by omega
    cases hlv : ltOf cf dk[pc]! dk[h]! with
    | false =>
     have eA : ((pc : Int)).toNat = pc := by omega
     have pA : (0 : Int) ≤ (pc : Int) := by omega
     have bA : (pc : Int) < (len : Int) := by omega
     have rA : IntKind.i64.wrap ((pc : Int)) = (pc : Int) := by rw [IntKind.wrap_i64]; omega
     have eB : ((h : Int)).toNat = h := by omega
     have pB : (0 : Int) ≤ (h : Int) := by omega
     have bB : (h : Int) < (len : Int) := by omega
     have rB : IntKind.i64.wrap ((h : Int)) = (h : Int) := by rw [IntKind.wrap_i64]; omega
     obtain ⟨xv, hxv⟩ : ∃ x, x = dk[pc]! := ⟨_, rfl⟩
     obtain ⟨yv, hyv⟩ : ∃ x, x = dk[h]! := ⟨_, rfl⟩
     have lA := S1.out.ld HR.out (by have := Hd.out; have := Hs.out; omega) P0 pc (by have := Hs.out; omega)
     have lB := S1.out.ld HR.out (by have := Hd.out; have := Hs.out; omega) P0 h (by have := Hs.out; omega)
     rw [← hxv] at lA
     rw [← hyv] at lB
     have hC := S1.out.cmp HC.out Hs.out xv yv
     have hv : ¬ cf xv yv < 0 := by rw [hxv, hyv]; exact of_decide_eq_false hlv
     have hdv : decide (cf xv yv < 0) = false := decide_eq_false hv
     clear hxv hyv
     go_wp2_with fail
     go_quiet_grown (first | (go_at_fn g; refine Calls.grown_of (hC _ _)))
     have S2 : Aside (SWK enc k w0 blk off dk (Sort.grow (wr.drewN nq) osq)) := S1.out.grown nq osq
     clear lA lB hC S1
     generalize Sort.grow (wr.drewN nq) osq = wv at S2 ⊢
     clear nq osq
     go_wp2
     go_roundg (j - (h + 1))
     case measure => omega
     case rel => exact ⟨h + 1, j, by go_num, rfl, by omega, by omega, hjb, by omega, S2, fun t t1 t2 => Hturn.out t h (by omega) (by omega) (by omega) (by omega) (by omega) (by rw [epc]; exact hlv), fun c c1 c2 c3 => H2.out c (by omega) c2 c3⟩
    | true =>
     have eA : ((pc : Int)).toNat = pc := by omega
     have pA : (0 : Int) ≤ (pc : Int) := by omega
     have bA : (pc : Int) < (len : Int) := by omega
     have rA : IntKind.i64.wrap ((pc : Int)) = (pc : Int) := by rw [IntKind.wrap_i64]; omega
     have eB : ((h : Int)).toNat = h := by omega
     have pB : (0 : Int) ≤ (h : Int) := by omega
     have bB : (h : Int) < (len : Int) := by omega
     have rB : IntKind.i64.wrap ((h : Int)) = (h : Int) := by rw [IntKind.wrap_i64]; omega
     obtain ⟨xv, hxv⟩ : ∃ x, x = dk[pc]! := ⟨_, rfl⟩
     obtain ⟨yv, hyv⟩ : ∃ x, x = dk[h]! := ⟨_, rfl⟩
     have lA := S1.out.ld HR.out (by have := Hd.out; have := Hs.out; omega) P0 pc (by have := Hs.out; omega)
     have lB := S1.out.ld HR.out (by have := Hd.out; have := Hs.out; omega) P0 h (by have := Hs.out; omega)
     rw [← hxv] at lA
     rw [← hyv] at lB
     have hC := S1.out.cmp HC.out Hs.out xv yv
     have hv : cf xv yv < 0 := by rw [hxv, hyv]; exact of_decide_eq_true hlv
     have hdv : decide (cf xv yv < 0) = true := decide_eq_true hv
     clear hxv hyv
     go_wp2_with fail
     go_quiet_grown (first | (go_at_fn g; refine Calls.grown_of (hC _ _)))
     have S2 : Aside (SWK enc k w0 blk off dk (Sort.grow (wr.drewN nq) osq)) := S1.out.grown nq osq
     clear lA lB hC S1
     generalize Sort.grow (wr.drewN nq) osq = wv at S2 ⊢
     clear nq osq
     go_wp2
     go_roundg (h - i)
     case measure => omega
     case rel => exact ⟨i, h, rfl, rfl, hi, by omega, by omega, by omega, S2, H1.out, fun t t1 t2 t3 => by
      cases e : ltOf cf dk[pp - t]! dk[t]! with
      | true => rfl
      | false => have := Hturn.out h t t2 (by omega) (by omega) (by omega) (by omega) e; rw [epc, hlv] at this; cases this⟩
   ·have hlz : ¬ (i : Int) < (j : Int) := by omega
    obtain rfl : i = j := by omega
    obtain ⟨stop, hstop⟩ : ∃ stop, i + stop = n := ⟨n - i, by omega⟩
    have zstop : (n : Int) - (i : Int) = (stop : Int) := by omega
    have hst : m ≤ stop ∧ stop ≤ b := by omega
    have Hcut := Lib.hid (HA.out.cut HO.out i stop c0 r0 mid hi hjb (by omega) Hcase.out (by omega) (fun c c1 c2 => by rw [← Hdk.out, show mid + m - 1 - c = pp - c from by omega]; exact H1.out c c1 c2) (fun c c1 c2 => by rw [← Hdk.out, show mid + m - 1 - c = pp - c from by omega]; exact H2.out c c1 c1 c2))
    have hX := HA.out.hX
    have hY := HA.out.hY
    have hPl := HA.out.hP
    have hlX : (X.take (i - a)).length = i - a ∧ (X.drop (i - a)).length = m - i := by rw [List.length_take, List.length_drop]; omega
    have hlY : (Y.take (stop - m)).length = stop - m ∧ (Y.drop (stop - m)).length = b - stop := by rw [List.length_take, List.length_drop]; omega
    have eX : X.take (i - a) ++ X.drop (i - a) = X := List.take_append_drop _ _
    have eY : Y.take (stop - m) ++ Y.drop (stop - m) = Y := List.take_append_drop _ _
    generalize X.take (i - a) = X1 at *
    generalize X.drop (i - a) = X2 at *
    generalize Y.take (stop - m) = Y1 at *
    generalize Y.drop (stop - m) = Y2 at *
    subst eX eY
    have hA := HA.out
    have hsz2 := hA.size
    obtain ⟨oX1, oX2, oXX⟩ := List.pairwise_append.1 hA.oX
    obtain ⟨oY1, oY2, oYY⟩ := List.pairwise_append.1 hA.oY
    have hno := hA.hno
    have hzz := Hz.out
    simp only [List.length_append] at hX hY hzz
    have Hrot : Hid ((i < m ∧ m < stop) → Calls P0 165 #[.slice (some ⟨blk, off, none⟩) len cap, .int .i64 i, .int .i64 m, .int .i64 stop, .func (.func g) #[] cb] wr fun e w' => e = .returned (.tuple #[]) ∧ SWK enc k w0 blk off (P ++ (X1 ++ (Y1 ++ (X2 ++ (Y2 ++ Q))))).toArray w') := Lib.hid fun h => by
     have hs1 := S1.out
     rw [Hdk.out] at hs1
     have e2 : (P ++ X1) ++ (X2 ++ (Y1 ++ (Y2 ++ Q))) = P ++ ((X1 ++ X2) ++ ((Y1 ++ Y2) ++ Q)) := by simp
     refine (rotate_any HL.out g cb (P ++ X1) X2 Y1 (Y2 ++ Q) i m stop len cap wr (by rw [List.length_append]; omega) (by omega) (by omega) (by omega) (by omega) (by rw [e2]; have := hA.hlen; simpa using this) hsz HR.out Hd.out (by rw [e2]; exact hs1)).mono ?_
     rintro e w' ⟨h1, h2⟩
     exact ⟨h1, by simpa using h2⟩
    have Hnot : Hid (¬ (i < m ∧ m < stop) → SWK enc k w0 blk off (P ++ (X1 ++ (Y1 ++ (X2 ++ (Y2 ++ Q))))).toArray wr) := Lib.hid fun h => by
     have hs1 := S1.out
     rw [Hdk.out] at hs1
     have e2 : P ++ ((X1 ++ X2) ++ ((Y1 ++ Y2) ++ Q)) = P ++ (X1 ++ (Y1 ++ (X2 ++ (Y2 ++ Q)))) := by
      by_cases hx : X2.length = 0
      ·rw [List.length_eq_zero_iff.1 hx]; simp
      ·have hy : Y1.length = 0 := by omega
       rw [List.length_eq_zero_iff.1 hy]; simp
     rw [← e2]
     exact hs1
    have hlen0 : (P ++ (X1 ++ (Y1 ++ (X2 ++ (Y2 ++ Q))))).length = len := by have := hA.hlen; simp at this; simp; omega
    have Hrec1 : Hid ((a < i ∧ i < mid) → ∀ W, SWK enc k w0 blk off (P ++ (X1 ++ (Y1 ++ (X2 ++ (Y2 ++ Q))))).toArray W → Calls P0 162 #[.slice (some ⟨blk, off, none⟩) len cap, .int .i64 a, .int .i64 i, .int .i64 mid, .func (.func g) #[] cb] W fun e w' => e = .returned (.tuple #[]) ∧ ∃ A, A.Perm (X1 ++ Y1) ∧ A.Pairwise (sord (ltOf cf) no) ∧ SWK enc k w0 blk off (P ++ (A ++ (X2 ++ (Y2 ++ Q)))).toArray w') := Lib.hid fun h W hW =>
     IH.out P X1 Y1 (X2 ++ (Y2 ++ Q)) a i mid W (by omega) (by omega) (by omega) ⟨rfl, hPl, by omega, by omega, by rw [List.size_toArray]; exact hlen0, oX1, oY1, fun x hx y hy => hno x (List.mem_append_left _ hx) y (List.mem_append_left _ hy)⟩ hW
    have Hnot1 : Hid (¬ (a < i ∧ i < mid) → ∀ W, SWK enc k w0 blk off (P ++ (X1 ++ (Y1 ++ (X2 ++ (Y2 ++ Q))))).toArray W → ∃ A, A.Perm (X1 ++ Y1) ∧ A.Pairwise (sord (ltOf cf) no) ∧ SWK enc k w0 blk off (P ++ (A ++ (X2 ++ (Y2 ++ Q)))).toArray W) := Lib.hid fun h W hW => by
     refine ⟨X1 ++ Y1, List.Perm.refl _, ?_, by simpa using hW⟩
     by_cases hx : X1.length = 0
     ·rw [List.length_eq_zero_iff.1 hx]; exact oY1
     ·have hy : Y1.length = 0 := by omega
      rw [List.length_eq_zero_iff.1 hy, List.append_nil]; exact oX1
    have hfin : ∀ A B W, A.Perm (X1 ++ Y1) → A.Pairwise (sord (ltOf cf) no) → B.Perm (X2 ++ Y2) → B.Pairwise (sord (ltOf cf) no) → SWK enc k w0 blk off (P ++ (A ++ (B ++ Q))).toArray W → ∃ Z, Z.Perm ((X1 ++ X2) ++ (Y1 ++ Y2)) ∧ Z.Pairwise (sord (ltOf cf) no) ∧ SWK enc k w0 blk off (P ++ (Z ++ Q)).toArray W := fun A B W p1 s1 p2 s2 hW => by
     obtain ⟨m1, m2⟩ := merge_cut hA.oX hA.oY hno Hcut.out.1 Hcut.out.2 p1 p2 s1 s2
     exact ⟨A ++ B, m1, m2, by simpa using hW⟩
    have Hrec2 : Hid ((mid < stop ∧ stop < b) → ∀ W, (∃ A, A.Perm (X1 ++ Y1) ∧ A.Pairwise (sord (ltOf cf) no) ∧ SWK enc k w0 blk off (P ++ (A ++ (X2 ++ (Y2 ++ Q)))).toArray W) → Calls P0 162 #[.slice (some ⟨blk, off, none⟩) len cap, .int .i64 mid, .int .i64 stop, .int .i64 b, .func (.func g) #[] cb] W fun e w' => e = .returned (.tuple #[]) ∧ ∃ Z, Z.Perm ((X1 ++ X2) ++ (Y1 ++ Y2)) ∧ Z.Pairwise (sord (ltOf cf) no) ∧ SWK enc k w0 blk off (P ++ (Z ++ Q)).toArray w') := Lib.hid fun h W ⟨A, p1, s1, hW⟩ => by
     have e2 : P ++ (A ++ (X2 ++ (Y2 ++ Q))) = (P ++ A) ++ (X2 ++ (Y2 ++ Q)) := by simp
     have hAl : A.length = X1.length + Y1.length := by rw [p1.length_eq, List.length_append]
     rw [e2] at hW
     refine (IH.out (P ++ A) X2 Y2 Q mid stop b W (by omega) (by omega) (by omega) ⟨rfl, by rw [List.length_append]; omega, by omega, by omega, by simp only [List.size_toArray, List.length_append] at hlen0 ⊢; omega, oX2, oY2, fun x hx y hy => hno x (List.mem_append_right _ hx) y (List.mem_append_right _ hy)⟩ hW).mono ?_
     rintro e w' ⟨h1, B, p2, s2, hW'⟩
     exact ⟨h1, hfin A B w' p1 s1 p2 s2 (by simpa using hW')⟩
    have Hnot2 : Hid (¬ (mid < stop ∧ stop < b) → ∀ W, (∃ A, A.Perm (X1 ++ Y1) ∧ A.Pairwise (sord (ltOf cf) no) ∧ SWK enc k w0 blk off (P ++ (A ++ (X2 ++ (Y2 ++ Q)))).toArray W) → ∃ Z, Z.Perm ((X1 ++ X2) ++ (Y1 ++ Y2)) ∧ Z.Pairwise (sord (ltOf cf) no) ∧ SWK enc k w0 blk off (P ++ (Z ++ Q)).toArray W) := Lib.hid fun h W ⟨A, p1, s1, hW⟩ => by
     refine hfin A (X2 ++ Y2) W p1 s1 (List.Perm.refl _) ?_ (by simpa using hW)
     by_cases hx : X2.length = 0
     ·rw [List.length_eq_zero_iff.1 hx]; exact oY2
     ·have hy : Y2.length = 0 := by omega
      rw [List.length_eq_zero_iff.1 hy, List.append_nil]; exact oX2
    clear hA hno hzz hfin S1 H1 H2 Hturn HA Hdk Hs hlen0 oX1 oX2 oXX oY1 oY2 oYY hX hY hPl hlX hlY hsz2 Hcut Hz
    obtain ⟨Z1, hZ1⟩ : ∃ Z1, (X1 ++ X2) ++ (Y1 ++ Y2) = Z1 := ⟨_, rfl⟩
    rw [hZ1] at Hrec2 Hnot2
    have hZ2 : X1 ++ (X2 ++ (Y1 ++ Y2)) = Z1 := by rw [← hZ1]; simp
    clear hZ1
    go_wp2_with (first
     | (go_at_fn 165; refine (Hrot.out ⟨?_, ?_⟩).mono ?_; omega; omega; rintro e w1 ⟨rfl, hR1⟩; have HR1 := Lib.hid hR1; clear hR1)
     | (go_at_fn 162; with_reducible refine (Hrec1.out ⟨?_, ?_⟩ _ ?_).mono ?_; omega; omega; (first | exact HR1.out | exact Hnot.out (by omega)); rintro e w2 ⟨rfl, hR2⟩; have HR2 := Lib.hid hR2; clear hR2)
     | (go_at_fn 162; with_reducible refine (Hrec2.out ⟨?_, ?_⟩ _ ?_).mono ?_; omega; omega; (first | exact HR2.out | exact Hnot1.out (by omega) _ HR1.out | exact Hnot1.out (by omega) _ (Hnot.out (by omega))); rintro e w3 ⟨rfl, hR3⟩; have HR3 := Lib.hid hR3; clear hR3))
    all_goals
     go_end0
     refine ⟨rfl, ?_⟩
     (try rw [List.append_assoc])
     (try rw [hZ2])
     first
      | exact HR3.out
      | exact Hnot2.out (by omega) _ HR2.out
      | exact Hnot2.out (by omega) _ (Hnot1.out (by omega) _ HR1.out)
      | exact Hnot2.out (by omega) _ (Hnot1.out (by omega) _ (Hnot.out (by omega)))
 ·have hgz : ¬ (mid : Int) < (m : Int) := by omega
  have hgz2 : (m : Int) ≤ (mid : Int) := by omega
  obtain ⟨c0, hc0⟩ : ∃ c0, c0 = a := ⟨_, rfl⟩
  obtain ⟨r0, hr0⟩ : ∃ r0, r0 = m := ⟨_, rfl⟩
  have hcase : (mid < m ∧ mid + m = c0 + b ∧ r0 = mid) ∨ (m ≤ mid ∧ c0 = a ∧ r0 = m) := Or.inr ⟨by omega, hc0, hr0⟩
  have Hcase := Lib.hid hcase
  have hc1 : a ≤ c0 ∧ c0 ≤ r0 ∧ r0 ≤ m ∧ r0 ≤ mid := by omega
  clear hcase
  go_enter FG, Tryz.ntmps162
  go_wp2
  clear q1 q2
  go_loopg [20, 21, 23] (r0 - c0) (fun gk vi vj vh wr => ∃ i j : Nat, vi = .int .i64 i ∧ vj = .int .i64 j ∧ c0 ≤ i ∧ i ≤ j ∧ j ≤ r0 ∧ j - i ≤ gk ∧ Aside (SWK enc k w0 blk off dk wr) ∧ Hid (∀ c, c0 ≤ c → c < i → ltOf cf dk[pp - c]! dk[c]! = false) ∧ Hid (∀ c, i ≤ c → j ≤ c → c < r0 → ltOf cf dk[pp - c]! dk[c]! = true))
  case atStart => exact ⟨a, m, rfl, rfl, by omega, by omega, by omega, by omega, S0, fun t _ _ => by omega, fun t _ _ _ => by omega⟩
  case round =>
   obtain ⟨i, j, rfl, rfl, hi, hij, hjb, hg, S1, H1, H2⟩ := hrel
   clear S0
   by_cases hlt : i < j
   ·have hlz : (i : Int) < (j : Int) := by omega
    obtain ⟨h, hh⟩ : ∃ h, (i + j) / 2 = h := ⟨_, rfl⟩
    have sh : ((i : Int) + (j : Int)) / 2 = (h : Int) := by omega
    obtain ⟨pc, hpc⟩ : ∃ pc, pc + h = pp := ⟨pp - h, by omega⟩
    have zpc : (pp : Int) - (h : Int) = (pc : Int) := by omega
    have epc : pp - h = pc := by omega
    cases hlv : ltOf cf dk[pc]! dk[h]! with
    | false =>
     have eA : ((pc : Int)).toNat = pc := by omega
     have pA : (0 : Int) ≤ (pc : Int) := by omega
     have bA : (pc : Int) < (len : Int) := by omega
     have rA : IntKind.i64.wrap ((pc : Int)) = (pc : Int) := by rw [IntKind.wrap_i64]; omega
     have eB : ((h : Int)).toNat = h := by omega
     have pB : (0 : Int) ≤ (h : Int) := by omega
     have bB : (h : Int) < (len : Int) := by omega
     have rB : IntKind.i64.wrap ((h : Int)) = (h : Int) := by rw [IntKind.wrap_i64]; omega
     obtain ⟨xv, hxv⟩ : ∃ x, x = dk[pc]! := ⟨_, rfl⟩
     obtain ⟨yv, hyv⟩ : ∃ x, x = dk[h]! := ⟨_, rfl⟩
     have lA := S1.out.ld HR.out (by have := Hd.out; have := Hs.out; omega) P0 pc (by have := Hs.out; omega)
     have lB := S1.out.ld HR.out (by have := Hd.out; have := Hs.out; omega) P0 h (by have := Hs.out; omega)
     rw [← hxv] at lA
     rw [← hyv] at lB
     have hC := S1.out.cmp HC.out Hs.out xv yv
     have hv : ¬ cf xv yv < 0 := by rw [hxv, hyv]; exact of_decide_eq_false hlv
     have hdv : decide (cf xv yv < 0) = false := decide_eq_false hv
     clear hxv hyv
     go_wp2_with fail
     go_quiet_grown (first | (go_at_fn g; refine Calls.grown_of (hC _ _)))
     have S2 : Aside (SWK enc k w0 blk off dk (Sort.grow (wr.drewN nq) osq)) := S1.out.grown nq osq
     clear lA lB hC S1
     generalize Sort.grow (wr.drewN nq) osq = wv at S2 ⊢
     clear nq osq
     go_wp2
     go_roundg (j - (h + 1))
     case measure => omega
     case rel => exact ⟨h + 1, j, by go_num, rfl, by omega, by omega, hjb, by omega, S2, fun t t1 t2 => Hturn.out t h (by omega) (by omega) (by omega) (by omega) (by omega) (by rw [epc]; exact hlv), fun c c1 c2 c3 => H2.out c (by omega) c2 c3⟩
    | true =>
     have eA : ((pc : Int)).toNat = pc := by omega
     have pA : (0 : Int) ≤ (pc : Int) := by omega
     have bA : (pc : Int) < (len : Int) := by omega
     have rA : IntKind.i64.wrap ((pc : Int)) = (pc : Int) := by rw [IntKind.wrap_i64]; omega
     have eB : ((h : Int)).toNat = h := by omega
     have pB : (0 : Int) ≤ (h : Int) := by omega
     have bB : (h : Int) < (len : Int) := by omega
     have rB : IntKind.i64.wrap ((h : Int)) = (h : Int) := by rw [IntKind.wrap_i64]; omega
     obtain ⟨xv, hxv⟩ : ∃ x, x = dk[pc]! := ⟨_, rfl⟩
     obtain ⟨yv, hyv⟩ : ∃ x, x = dk[h]! := ⟨_, rfl⟩
     have lA := S1.out.ld HR.out (by have := Hd.out; have := Hs.out; omega) P0 pc (by have := Hs.out; omega)
     have lB := S1.out.ld HR.out (by have := Hd.out; have := Hs.out; omega) P0 h (by have := Hs.out; omega)
     rw [← hxv] at lA
     rw [← hyv] at lB
     have hC := S1.out.cmp HC.out Hs.out xv yv
     have hv : cf xv yv < 0 := by rw [hxv, hyv]; exact of_decide_eq_true hlv
     have hdv : decide (cf xv yv < 0) = true := decide_eq_true hv
     clear hxv hyv
     go_wp2_with fail
     go_quiet_grown (first | (go_at_fn g; refine Calls.grown_of (hC _ _)))
     have S2 : Aside (SWK enc k w0 blk off dk (Sort.grow (wr.drewN nq) osq)) := S1.out.grown nq osq
     clear lA lB hC S1
     generalize Sort.grow (wr.drewN nq) osq = wv at S2 ⊢
     clear nq osq
     go_wp2
     go_roundg (h - i)
     case measure => omega
     case rel => exact ⟨i, h, rfl, rfl, hi, by omega, by omega, by omega, S2, H1.out, fun t t1 t2 t3 => by
      cases e : ltOf cf dk[pp - t]! dk[t]! with
      | true => rfl
      | false => have := Hturn.out h t t2 (by omega) (by omega) (by omega) (by omega) e; rw [epc, hlv] at this; cases this⟩
   ·have hlz : ¬ (i : Int) < (j : Int) := by omega
    obtain rfl : i = j := by omega
    obtain ⟨stop, hstop⟩ : ∃ stop, i + stop = n := ⟨n - i, by omega⟩
    have zstop : (n : Int) - (i : Int) = (stop : Int) := by omega
    have hst : m ≤ stop ∧ stop ≤ b := by omega
    have Hcut := Lib.hid (HA.out.cut HO.out i stop c0 r0 mid hi hjb (by omega) Hcase.out (by omega) (fun c c1 c2 => by rw [← Hdk.out, show mid + m - 1 - c = pp - c from by omega]; exact H1.out c c1 c2) (fun c c1 c2 => by rw [← Hdk.out, show mid + m - 1 - c = pp - c from by omega]; exact H2.out c c1 c1 c2))
    have hX := HA.out.hX
    have hY := HA.out.hY
    have hPl := HA.out.hP
    have hlX : (X.take (i - a)).length = i - a ∧ (X.drop (i - a)).length = m - i := by rw [List.length_take, List.length_drop]; omega
    have hlY : (Y.take (stop - m)).length = stop - m ∧ (Y.drop (stop - m)).length = b - stop := by rw [List.length_take, List.length_drop]; omega
    have eX : X.take (i - a) ++ X.drop (i - a) = X := List.take_append_drop _ _
    have eY : Y.take (stop - m) ++ Y.drop (stop - m) = Y := List.take_append_drop _ _
    generalize X.take (i - a) = X1 at *
    generalize X.drop (i - a) = X2 at *
    generalize Y.take (stop - m) = Y1 at *
    generalize Y.drop (stop - m) = Y2 at *
    subst eX eY
    have hA := HA.out
    have hsz2 := hA.size
    obtain ⟨oX1, oX2, oXX⟩ := List.pairwise_append.1 hA.oX
    obtain ⟨oY1, oY2, oYY⟩ := List.pairwise_append.1 hA.oY
    have hno := hA.hno
    have hzz := Hz.out
    simp only [List.length_append] at hX hY hzz
    have Hrot : Hid ((i < m ∧ m < stop) → Calls P0 165 #[.slice (some ⟨blk, off, none⟩) len cap, .int .i64 i, .int .i64 m, .int .i64 stop, .func (.func g) #[] cb] wr fun e w' => e = .returned (.tuple #[]) ∧ SWK enc k w0 blk off (P ++ (X1 ++ (Y1 ++ (X2 ++ (Y2 ++ Q))))).toArray w') := Lib.hid fun h => by
     have hs1 := S1.out
     rw [Hdk.out] at hs1
     have e2 : (P ++ X1) ++ (X2 ++ (Y1 ++ (Y2 ++ Q))) = P ++ ((X1 ++ X2) ++ ((Y1 ++ Y2) ++ Q)) := by simp
     refine (rotate_any HL.out g cb (P ++ X1) X2 Y1 (Y2 ++ Q) i m stop len cap wr (by rw [List.length_append]; omega) (by omega) (by omega) (by omega) (by omega) (by rw [e2]; have := hA.hlen; simpa using this) hsz HR.out Hd.out (by rw [e2]; exact hs1)).mono ?_
     rintro e w' ⟨h1, h2⟩
     exact ⟨h1, by simpa using h2⟩
    have Hnot : Hid (¬ (i < m ∧ m < stop) → SWK enc k w0 blk off (P ++ (X1 ++ (Y1 ++ (X2 ++ (Y2 ++ Q))))).toArray wr) := Lib.hid fun h => by
     have hs1 := S1.out
     rw [Hdk.out] at hs1
     have e2 : P ++ ((X1 ++ X2) ++ ((Y1 ++ Y2) ++ Q)) = P ++ (X1 ++ (Y1 ++ (X2 ++ (Y2 ++ Q)))) := by
      by_cases hx : X2.length = 0
      ·rw [List.length_eq_zero_iff.1 hx]; simp
      ·have hy : Y1.length = 0 := by omega
       rw [List.length_eq_zero_iff.1 hy]; simp
     rw [← e2]
     exact hs1
    have hlen0 : (P ++ (X1 ++ (Y1 ++ (X2 ++ (Y2 ++ Q))))).length = len := by have := hA.hlen; simp at this; simp; omega
    have Hrec1 : Hid ((a < i ∧ i < mid) → ∀ W, SWK enc k w0 blk off (P ++ (X1 ++ (Y1 ++ (X2 ++ (Y2 ++ Q))))).toArray W → Calls P0 162 #[.slice (some ⟨blk, off, none⟩) len cap, .int .i64 a, .int .i64 i, .int .i64 mid, .func (.func g) #[] cb] W fun e w' => e = .returned (.tuple #[]) ∧ ∃ A, A.Perm (X1 ++ Y1) ∧ A.Pairwise (sord (ltOf cf) no) ∧ SWK enc k w0 blk off (P ++ (A ++ (X2 ++ (Y2 ++ Q)))).toArray w') := Lib.hid fun h W hW =>
     IH.out P X1 Y1 (X2 ++ (Y2 ++ Q)) a i mid W (by omega) (by omega) (by omega) ⟨rfl, hPl, by omega, by omega, by rw [List.size_toArray]; exact hlen0, oX1, oY1, fun x hx y hy => hno x (List.mem_append_left _ hx) y (List.mem_append_left _ hy)⟩ hW
    have Hnot1 : Hid (¬ (a < i ∧ i < mid) → ∀ W, SWK enc k w0 blk off (P ++ (X1 ++ (Y1 ++ (X2 ++ (Y2 ++ Q))))).toArray W → ∃ A, A.Perm (X1 ++ Y1) ∧ A.Pairwise (sord (ltOf cf) no) ∧ SWK enc k w0 blk off (P ++ (A ++ (X2 ++ (Y2 ++ Q)))).toArray W) := Lib.hid fun h W hW => by
     refine ⟨X1 ++ Y1, List.Perm.refl _, ?_, by simpa using hW⟩
     by_cases hx : X1.length = 0
     ·rw [List.length_eq_zero_iff.1 hx]; exact oY1
     ·have hy : Y1.length = 0 := by omega
      rw [List.length_eq_zero_iff.1 hy, List.append_nil]; exact oX1
    have hfin : ∀ A B W, A.Perm (X1 ++ Y1) → A.Pairwise (sord (ltOf cf) no) → B.Perm (X2 ++ Y2) → B.Pairwise (sord (ltOf cf) no) → SWK enc k w0 blk off (P ++ (A ++ (B ++ Q))).toArray W → ∃ Z, Z.Perm ((X1 ++ X2) ++ (Y1 ++ Y2)) ∧ Z.Pairwise (sord (ltOf cf) no) ∧ SWK enc k w0 blk off (P ++ (Z ++ Q)).toArray W := fun A B W p1 s1 p2 s2 hW => by
     obtain ⟨m1, m2⟩ := merge_cut hA.oX hA.oY hno Hcut.out.1 Hcut.out.2 p1 p2 s1 s2
     exact ⟨A ++ B, m1, m2, by simpa using hW⟩
    have Hrec2 : Hid ((mid < stop ∧ stop < b) → ∀ W, (∃ A, A.Perm (X1 ++ Y1) ∧ A.Pairwise (sord (ltOf cf) no) ∧ SWK enc k w0 blk off (P ++ (A ++ (X2 ++ (Y2 ++ Q)))).toArray W) → Calls P0 162 #[.slice (some ⟨blk, off, none⟩) len cap, .int .i64 mid, .int .i64 stop, .int .i64 b, .func (.func g) #[] cb] W fun e w' => e = .returned (.tuple #[]) ∧ ∃ Z, Z.Perm ((X1 ++ X2) ++ (Y1 ++ Y2)) ∧ Z.Pairwise (sord (ltOf cf) no) ∧ SWK enc k w0 blk off (P ++ (Z ++ Q)).toArray w') := Lib.hid fun h W ⟨A, p1, s1, hW⟩ => by
     have e2 : P ++ (A ++ (X2 ++ (Y2 ++ Q))) = (P ++ A) ++ (X2 ++ (Y2 ++ Q)) := by simp
     have hAl : A.length = X1.length + Y1.length := by rw [p1.length_eq, List.length_append]
     rw [e2] at hW
     refine (IH.out (P ++ A) X2 Y2 Q mid stop b W (by omega) (by omega) (by omega) ⟨rfl, by rw [List.length_append]; omega, by omega, by omega, by simp only [List.size_toArray, List.length_append] at hlen0 ⊢; omega, oX2, oY2, fun x hx y hy => hno x (List.mem_append_right _ hx) y (List.mem_append_right _ hy)⟩ hW).mono ?_
     rintro e w' ⟨h1, B, p2, s2, hW'⟩
     exact ⟨h1, hfin A B w' p1 s1 p2 s2 (by simpa using hW')⟩
    have Hnot2 : Hid (¬ (mid < stop ∧ stop < b) → ∀ W, (∃ A, A.Perm (X1 ++ Y1) ∧ A.Pairwise (sord (ltOf cf) no) ∧ SWK enc k w0 blk off (P ++ (A ++ (X2 ++ (Y2 ++ Q)))).toArray W) → ∃ Z, Z.Perm ((X1 ++ X2) ++ (Y1 ++ Y2)) ∧ Z.Pairwise (sord (ltOf cf) no) ∧ SWK enc k w0 blk off (P ++ (Z ++ Q)).toArray W) := Lib.hid fun h W ⟨A, p1, s1, hW⟩ => by
     refine hfin A (X2 ++ Y2) W p1 s1 (List.Perm.refl _) ?_ (by simpa using hW)
     by_cases hx : X2.length = 0
     ·rw [List.length_eq_zero_iff.1 hx]; exact oY2
     ·have hy : Y2.length = 0 := by omega
      rw [List.length_eq_zero_iff.1 hy, List.append_nil]; exact oX2
    clear hA hno hzz hfin S1 H1 H2 Hturn HA Hdk Hs hlen0 oX1 oX2 oXX oY1 oY2 oYY hX hY hPl hlX hlY hsz2 Hcut Hz
    obtain ⟨Z1, hZ1⟩ : ∃ Z1, (X1 ++ X2) ++ (Y1 ++ Y2) = Z1 := ⟨_, rfl⟩
    rw [hZ1] at Hrec2 Hnot2
    have hZ2 : X1 ++ (X2 ++ (Y1 ++ Y2)) = Z1 := by rw [← hZ1]; simp
    clear hZ1
    go_wp2_with (first
     | (go_at_fn 165; refine (Hrot.out ⟨?_, ?_⟩).mono ?_; omega; omega; rintro e w1 ⟨rfl, hR1⟩; have HR1 := Lib.hid hR1; clear hR1)
     | (go_at_fn 162; with_reducible refine (Hrec1.out ⟨?_, ?_⟩ _ ?_).mono ?_; omega; omega; (first | exact HR1.out | exact Hnot.out (by omega)); rintro e w2 ⟨rfl, hR2⟩; have HR2 := Lib.hid hR2; clear hR2)
     | (go_at_fn 162; with_reducible refine (Hrec2.out ⟨?_, ?_⟩ _ ?_).mono ?_; omega; omega; (first | exact HR2.out | exact Hnot1.out (by omega) _ HR1.out | exact Hnot1.out (by omega) _ (Hnot.out (by omega))); rintro e w3 ⟨rfl, hR3⟩; have HR3 := Lib.hid hR3; clear hR3))
    all_goals
     go_end0
     refine ⟨rfl, ?_⟩
     (try rw [List.append_assoc])
     (try rw [hZ2])
     first
      | exact HR3.out
      | exact Hnot2.out (by omega) _ HR2.out
      | exact Hnot2.out (by omega) _ (Hnot1.out (by omega) _ HR1.out)
      | exact Hnot2.out (by omega) _ (Hnot1.out (by omega) _ (Hnot.out (by omega)))
end
section
variable {P0 : Program} {k : Nat} {α : Type} [Inhabited α] {enc : α → List Value} {w0 : World} {blk off : Nat} {d0 : Array α} {cf : α → α → Int} {no : α → Nat}
theorem symm_any (L : ydU P0 k) (hO : SWO (ltOf cf)) (g : Nat) (cb : Array Value) (len cap : Nat) (eg : ∀ args w, (callFunc g args).run P0 w = .ok (.enter g args) w) (hC : CmpLays P0 g cb enc k cf blk off len w0)
  (hsz : len < 4611686018427387904) (R : RowK enc k w0 blk off d0) (hd : d0.size = len) : ∀ sz, SymmAt P0 k enc w0 blk off cf no g cb len cap sz
 | 0 => fun P X Y Q a m b w h h1 h2 _ _ => by omega
 | sz + 1 => fun P X Y Q a m b w h h1 h2 hA S => by
  by_cases e1 : X.length = 1
  ·obtain ⟨x0, hx⟩ := List.length_eq_one_iff.1 e1
   exact symm_one L hO g cb P X Y Q a m b len cap w eg hC x0 hx h2 hA hsz R hd S
  ·by_cases e2 : Y.length = 1
   ·obtain ⟨y0, hy⟩ := List.length_eq_one_iff.1 e2
    exact symm_two L hO g cb P X Y Q a m b len cap w eg hC y0 hy (by omega) hA hsz R hd S
   ·exact symm_step L hO g cb len cap eg hC hsz R hd sz (symm_any L hO g cb len cap eg hC hsz R hd sz) P X Y Q a m b w h (by omega) (by omega) hA S
theorem stLaysOf (L : ydU P0 k) : SlLaysF0.n20 P0 stRen where
 mixed := L.mixed
 f20 := ⟨Tryz.f161.name, by kernel_rfl, L.fin.trans (by kernel_rfl)⟩
 t0 := L.t0
 a0 := L.a0
 z0 := L.z0
 v0 := L.v0
 t3 := L.t3
 a3 := L.a3
 z3 := L.z3
 v3 := L.v3
 t4 := L.t4
 a4 := L.a4
 z4 := L.z4
 v4 := L.v4
 t22 := L.tS
 a22 := L.aS
 z22 := L.zS
 v22 := L.vS
 t25 := L.tF
 a25 := L.aF
 z25 := L.zF
 v25 := L.vF
theorem insert_any (L : ydU P0 k) (hO : SWO (ltOf cf)) (g : Nat) (cb : Array Value) (P U Q : List α) (a b len cap : Nat) (w : World) (eg : ∀ args w, (callFunc g args).run P0 w = .ok (.enter g args) w) (hC : CmpLays P0 g cb enc k cf blk off len w0)
  (hP : P.length = a) (hU : a + U.length = b) (hn : U.Pairwise (fun x y => no x < no y)) (hlen : (P ++ (U ++ Q)).length = len) (hsz : len < 4611686018427387904)
  (R : RowK enc k w0 blk off d0) (hd : d0.size = len) (S : SWK enc k w0 blk off (P ++ (U ++ Q)).toArray w) :
  Calls P0 161 #[.slice (some ⟨blk, off, none⟩) len cap, .int .i64 a, .int .i64 b, .func (.func g) #[] cb] w fun e w' =>
   e = .returned (.tuple #[]) ∧ ∃ Z, Z.Perm U ∧ Z.Pairwise (sord (ltOf cf) no) ∧ SWK enc k w0 blk off (P ++ (Z ++ Q)).toArray w' := by
 obtain ⟨Z, z1, z2, z3⟩ := insertion_list (lt := ltOf cf) (no := no) hO P U Q hn
 rw [hP, hU] at z3
 have hds : (P ++ (U ++ Q)).toArray.size = len := by rw [List.size_toArray]; exact hlen
 have hC2 : CmpLays P0 g cb enc k cf blk off len w := fun m os dk hdk x y => by
  obtain ⟨n0, os0, rfl⟩ := S
  rw [sortWorldK_on enc k w0 blk off n0 m (P ++ (U ++ Q)).toArray dk os0 os R.hblk (by rw [hds]; exact hdk)]
  exact hC _ _ dk hdk x y
 have hz3 : Sort.insertionSort (ltOf cf) (P ++ (U ++ Q)).toArray a b = (P ++ (Z ++ Q)).toArray := by
  rw [← List.append_assoc, z3, List.append_assoc]
 have h := AnyQ.insertionSortCmpFunc (stLaysOf L) k L.aE L.zE enc R.hk R.h1 cf g cb blk off cap a b (P ++ (U ++ Q)).toArray w eg (by rw [hds]; exact hC2) (S.holds R.hblk R.hH (by rw [hds, hd])) (S.lt R.hblk) (by omega) (by rw [hds]; simp only [List.length_append] at hlen; omega) (by rw [hds]; exact hsz)
 rw [hds] at h
 refine h.mono ?_
 rintro e w' ⟨rfl, n, os, rfl⟩
 refine ⟨rfl, Z, z1, z2, ?_⟩
 rw [hz3]
 refine S.on R.hblk n _ os ?_
 rw [hds, List.size_toArray, ← hlen]
 simp [z1.length_eq]
omit [Inhabited α] in
theorem Blks.cut {lt : α → α → Bool} {bs : Nat} {U : List α} (h : Blks lt no bs U) (hb : bs ≤ U.length) : ∃ l t, U = l ++ t ∧ l.length = bs ∧ l.Pairwise (sord lt no) ∧ (∀ x ∈ l, ∀ y ∈ t, no x < no y) ∧ Blks lt no bs t := by
 rcases Nat.eq_or_lt_of_le hb with e | e
 ·exact ⟨U, [], by simp, e.symm, h.one (by omega), by simp, .last (by simp) List.Pairwise.nil⟩
 ·exact h.more e
structure Rows2 (lt : α → α → Bool) (no : α → Nat) (l : List α) (bs : Nat) (D U : List α) : Prop where
 goes : ∀ V, Blks lt no bs V → (∀ x ∈ D, ∀ y ∈ V, no x < no y) → Blks lt no bs (D ++ V)
 cross : ∀ x ∈ D, ∀ y ∈ U, no x < no y
 perm : (D ++ U).Perm l
omit [Inhabited α] in
theorem Rows2.step {lt : α → α → Bool} {l : List α} {bs : Nat} {D W Z U : List α} (h : Rows2 lt no l bs D (W ++ U)) (hz : Z.Perm W) (ho : Z.Pairwise (sord lt no)) (hl : W.length = bs) (hc : ∀ x ∈ W, ∀ y ∈ U, no x < no y) : Rows2 lt no l bs (D ++ Z) U where
 goes V hV hx := by
  rw [List.append_assoc]
  refine h.goes (Z ++ V) (.cons (by rw [hz.length_eq, hl]) ho (fun x hx1 y hy => hx x (List.mem_append_right _ hx1) y hy) hV) ?_
  intro x hx1 y hy
  rcases List.mem_append.1 hy with hy | hy
  ·exact h.cross x hx1 y (List.mem_append_left _ (hz.subset hy))
  ·exact hx x (List.mem_append_left _ hx1) y hy
 cross x hx y hy := by
  rcases List.mem_append.1 hx with hx | hx
  ·exact h.cross x hx y (List.mem_append_right _ hy)
  ·exact hc x (hz.subset hx) y hy
 perm := by
  refine List.Perm.trans ?_ h.perm
  rw [List.append_assoc]
  exact List.Perm.append_left D (List.Perm.append_right U hz)
omit [Inhabited α] in
theorem Rows2.fin {lt : α → α → Bool} {l : List α} {bs : Nat} {D W Z : List α} (h : Rows2 lt no l bs D W) (hz : Z.Perm W) (ho : Z.Pairwise (sord lt no)) (hl : W.length ≤ bs) : Blks lt no bs (D ++ Z) ∧ (D ++ Z).Perm l :=
 ⟨h.goes Z (.last (by rw [hz.length_eq]; exact hl) ho) fun x hx y hy => h.cross x hx y (hz.subset hy), (List.Perm.append_left D hz).trans h.perm⟩
omit [Inhabited α] in
theorem Rows2.start {lt : α → α → Bool} {l l2 : List α} {bs : Nat} (h : l2.Perm l) : Rows2 lt no l bs [] l2 := ⟨fun V hV _ => by simpa using hV, by simp, by simpa using h⟩
set_option maxHeartbeats 8000000 in
set_option maxRecDepth 1000000 in
theorem stable_any (L : ydU P0 k) (hO : SWO (ltOf cf)) (g : Nat) (cb : Array Value) (l : List α) (len cap : Nat) (w : World) (eg : ∀ args w, (callFunc g args).run P0 w = .ok (.enter g args) w) (hC : CmpLays P0 g cb enc k cf blk off len w0)
  (hlen : l.length = len) (hn : l.Pairwise (fun x y => no x < no y)) (hsz : len < 1000000000000000000)
  (R : RowK enc k w0 blk off d0) (hd : d0.size = len) (S : SWK enc k w0 blk off l.toArray w) :
  Calls P0 155 #[.slice (some ⟨blk, off, none⟩) len cap, .int .i64 len, .func (.func g) #[] cb] w fun e w' =>
   e = .returned (.tuple #[]) ∧ ∃ Z : List α, Z.Perm l ∧ Z.Pairwise (sord (ltOf cf) no) ∧ SWK enc k w0 blk off Z.toArray w' := by
 have Hins := Lib.hid fun (P U Q : List α) (a b : Nat) (W : World) (h1 : P.length = a) (h2 : a + U.length = b) (h3 : U.Pairwise (fun x y => no x < no y)) (h4 : (P ++ (U ++ Q)).length = len) (h5 : SWK enc k w0 blk off (P ++ (U ++ Q)).toArray W) => insert_any (no := no) L hO g cb P U Q a b len cap W eg hC h1 h2 h3 h4 (by omega) R hd h5
 have Hsym := Lib.hid fun sz => symm_any (no := no) L hO g cb len cap eg hC (show len < 4611686018427387904 by omega) R hd sz
 have Hst : Hid (∃ D U : List α, D.length = 0 ∧ D.length + U.length = len ∧ Rows2 (ltOf cf) no l 20 D U ∧ U.Pairwise (fun x y => no x < no y) ∧ SWK enc k w0 blk off (D ++ U).toArray w) := ⟨[], l, rfl, by simpa using hlen, Rows2.start (List.Perm.refl _), hn, by simpa using S⟩
 clear hn S R hd hO hC hlen
 have mixed := L.mixed; have aE := L.aE; have zE := L.zE; have t0 := L.t0; have a0 := L.a0; have z0 := L.z0; have v0 := L.v0; have t3 := L.t3; have a3 := L.a3; have z3 := L.z3; have v3 := L.v3; have t4 := L.t4; have a4 := L.a4; have z4 := L.z4; have v4 := L.v4; have tS := L.tS; have aS := L.aS; have zS := L.zS; have vS := L.vS; have tF := L.tF; have aF := L.aF; have zF := L.zF; have vF := L.vF; have tU := L.tU; have aU := L.aU; have zU := L.zU; have vU := L.vU
 have uS := run_underlying L.tS; have uU := run_underlying L.tU; have u3 := run_underlying L.t3
 have esy : ∀ args w, (callFunc 162 args).run P0 w = .ok (.enter 162 args) w := enters_of L.fsy (by kernel_rfl) rfl
 have ein : ∀ args w, (callFunc 161 args).run P0 w = .ok (.enter 161 args) w := enters_of L.fin (by kernel_rfl) rfl
 have FG := L.fst
 clear L
 go_enter FG, Tryz.ntmps155
 go_wp2
 go_loopg [7, 8] (len + 20) (fun gk va vb wr => ∃ a : Nat, va = .int .i64 a ∧ vb = .int .i64 ((a : Int) + 20) ∧ a ≤ len ∧ len + 20 - a ≤ gk ∧ Hid (∃ D U : List α, D.length = a ∧ D.length + U.length = len ∧ Rows2 (ltOf cf) no l 20 D U ∧ U.Pairwise (fun x y => no x < no y) ∧ SWK enc k w0 blk off (D ++ U).toArray wr))
 case atStart => exact ⟨0, rfl, by simp, by omega, by omega, Hst⟩
 case round =>
  obtain ⟨a, rfl, rfl, ha, hg, Hr⟩ := hrel
  clear Hst
  by_cases hlt : a + 20 ≤ len
  ·have hlz : (a : Int) + 20 ≤ (len : Int) := by omega
   obtain ⟨b, hb⟩ : ∃ b, a + 20 = b := ⟨_, rfl⟩
   have hbz : (a : Int) + 20 = (b : Int) := by omega
   have Hcall : Hid (Calls P0 161 #[.slice (some ⟨blk, off, none⟩) len cap, .int .i64 a, .int .i64 b, .func (.func g) #[] cb] wr fun e w' => e = .returned (.tuple #[]) ∧ ∃ D U : List α, D.length = b ∧ D.length + U.length = len ∧ Rows2 (ltOf cf) no l 20 D U ∧ U.Pairwise (fun x y => no x < no y) ∧ SWK enc k w0 blk off (D ++ U).toArray w') := Lib.hid (by
    obtain ⟨D, U, h1, h2, h3, h4, h5⟩ := Hr.out
    have eU := List.take_append_drop 20 U
    have hl : (U.take 20).length = 20 ∧ (U.drop 20).length + b = len := by rw [List.length_take, List.length_drop]; omega
    generalize U.take 20 = W at eU hl
    generalize U.drop 20 = U2 at eU hl
    subst eU
    obtain ⟨o1, o2, o3⟩ := List.pairwise_append.1 h4
    refine (Hins.out D W U2 a b wr h1 (by omega) o1 (by simp only [List.length_append] at h2 ⊢; omega) h5).mono ?_
    rintro e w' ⟨rfl, Z, z1, z2, z3⟩
    refine ⟨rfl, D ++ Z, U2, ?_, ?_, h3.step z1 z2 hl.1 o3, o2, by simpa using z3⟩
    ·rw [List.length_append, z1.length_eq]; omega
    ·rw [List.length_append, z1.length_eq]; omega)
   clear Hr
   go_wp2_with (go_at_fn 161; refine Hcall.out.mono ?_; rintro e w1 ⟨rfl, hS1⟩; have HS1 := Lib.hid hS1; clear hS1)
   go_roundg (len + 20 - b)
   case measure => omega
   case rel => exact ⟨b, rfl, rfl, by omega, by omega, HS1⟩
  ·have hlz : ¬ (a : Int) + 20 ≤ (len : Int) := by omega
   have Hcall : Hid (Calls P0 161 #[.slice (some ⟨blk, off, none⟩) len cap, .int .i64 a, .int .i64 len, .func (.func g) #[] cb] wr fun e w' => e = .returned (.tuple #[]) ∧ ∃ Z : List α, Z.length = len ∧ Blks (ltOf cf) no 20 Z ∧ Z.Perm l ∧ SWK enc k w0 blk off Z.toArray w') := Lib.hid (by
    obtain ⟨D, U, h1, h2, h3, h4, h5⟩ := Hr.out
    refine (Hins.out D U [] a len wr h1 (by omega) h4 (by simp only [List.length_append, List.length_nil]; omega) (by simpa using h5)).mono ?_
    rintro e w' ⟨rfl, Z, z1, z2, z3⟩
    obtain ⟨f1, f2⟩ := h3.fin z1 z2 (by omega)
    exact ⟨rfl, D ++ Z, by rw [List.length_append, z1.length_eq]; omega, f1, f2, by simpa using z3⟩)
   clear Hr Hins hg
   go_wp2_with (go_at_fn 161; refine Hcall.out.mono ?_; rintro e w1 ⟨rfl, hS1⟩; have HS1 := Lib.hid hS1; clear hS1)
   clear Hcall hlz
   go_loopg [6, 7, 8, 9] (len) (fun gk vs va vb vm wr => ∃ bs : Nat, vs = .int .i64 bs ∧ 20 ≤ bs ∧ bs ≤ 2 * len + 20 ∧ len - bs ≤ gk ∧ Hid (∃ Z : List α, Z.length = len ∧ Blks (ltOf cf) no bs Z ∧ Z.Perm l ∧ SWK enc k w0 blk off Z.toArray wr))
   case atStart => exact ⟨20, rfl, Nat.le_refl _, by omega, by omega, HS1⟩
   case round =>
    obtain ⟨bs, rfl, hb1, hb2, hg, Hr⟩ := hrel
    clear HS1
    by_cases hlt2 : bs < len
    ·have hlz : (bs : Int) < (len : Int) := by omega
     have Hst : Hid (∃ D U : List α, D.length = 0 ∧ D.length + U.length = len ∧ Rows2 (ltOf cf) no l (2 * bs) D U ∧ Blks (ltOf cf) no bs U ∧ SWK enc k w0 blk off (D ++ U).toArray wr) := Lib.hid (by
      obtain ⟨Z, z1, z2, z3, z4⟩ := Hr.out
      exact ⟨[], Z, rfl, by simpa using z1, Rows2.start z3, z2, by simpa using z4⟩)
     clear Hr
     go_wp2
     go_loopg [7, 8] (len + 2 * bs) (fun gk2 va vb wr => ∃ a : Nat, va = .int .i64 a ∧ vb = .int .i64 ((a : Int) + 2 * (bs : Int)) ∧ a ≤ len ∧ len + 2 * bs - a ≤ gk2 ∧ Hid (∃ D U : List α, D.length = a ∧ D.length + U.length = len ∧ Rows2 (ltOf cf) no l (2 * bs) D U ∧ Blks (ltOf cf) no bs U ∧ SWK enc k w0 blk off (D ++ U).toArray wr))
     case atStart => exact ⟨0, rfl, by simp, by omega, by omega, Hst⟩
     case round =>
      obtain ⟨a, rfl, rfl, ha, hg2, Hr⟩ := hrel
      clear Hst
      obtain ⟨mm, hmm⟩ : ∃ mm, a + bs = mm := ⟨_, rfl⟩
      have zmm : (a : Int) + (bs : Int) = (mm : Int) := by omega
      by_cases hlt3 : a + 2 * bs ≤ len
      ·obtain ⟨b, hb⟩ : ∃ b, a + 2 * bs = b := ⟨_, rfl⟩
       have hbz : (a : Int) + 2 * (bs : Int) = (b : Int) := by omega
       have hbz2 : (b : Int) ≤ (len : Int) := by omega
       have Hcall : Hid (Calls P0 162 #[.slice (some ⟨blk, off, none⟩) len cap, .int .i64 a, .int .i64 mm, .int .i64 b, .func (.func g) #[] cb] wr fun e w' => e = .returned (.tuple #[]) ∧ ∃ D U : List α, D.length = b ∧ D.length + U.length = len ∧ Rows2 (ltOf cf) no l (2 * bs) D U ∧ Blks (ltOf cf) no bs U ∧ SWK enc k w0 blk off (D ++ U).toArray w') := Lib.hid (by
        obtain ⟨D, U, h1, h2, h3, h4, h5⟩ := Hr.out
        obtain ⟨X, t, rfl, x1, x2, x3, x4⟩ := h4.cut (by omega)
        rw [List.length_append] at h2
        obtain ⟨Y, U2, rfl, y1, y2, y3, y4⟩ := x4.cut (by omega)
        rw [List.length_append] at h2
        refine (Hsym.out _ D X Y U2 a mm b wr (Nat.le_refl _) (by omega) (by omega) ⟨rfl, h1, by omega, by omega, by simp only [List.size_toArray, List.length_append]; omega, x2, y2, fun x hx y hy => x3 x hx y (List.mem_append_left _ hy)⟩ h5).mono ?_
        rintro e w' ⟨rfl, Z, z1, z2, z3⟩
        have h6 : Rows2 (ltOf cf) no l (2 * bs) D ((X ++ Y) ++ U2) := by rw [List.append_assoc]; exact h3
        refine ⟨rfl, D ++ Z, U2, ?_, ?_, h6.step z1 z2 (by rw [List.length_append]; omega) ?_, y4, by simpa using z3⟩
        ·rw [List.length_append, z1.length_eq, List.length_append]; omega
        ·rw [List.length_append, z1.length_eq, List.length_append]; omega
        ·intro x hx y hy
         rcases List.mem_append.1 hx with hx | hx
         ·exact x3 x hx y (List.mem_append_right _ hy)
         ·exact y3 x hx y hy)
       clear Hr
       go_wp2_with (go_at_fn 162; refine Hcall.out.mono ?_; rintro e w1 ⟨rfl, hS1⟩; have HS1 := Lib.hid hS1; clear hS1)
       go_roundg (len + 2 * bs - b)
       case measure => omega
       case rel => exact ⟨b, rfl, rfl, by omega, by omega, HS1⟩
      ·have hbz2 : ¬ (a : Int) + 2 * (bs : Int) ≤ (len : Int) := by omega
       by_cases hlt4 : mm < len
       ·have hmz : (mm : Int) < (len : Int) := by omega
        have Hcall : Hid (Calls P0 162 #[.slice (some ⟨blk, off, none⟩) len cap, .int .i64 a, .int .i64 mm, .int .i64 len, .func (.func g) #[] cb] wr fun e w' => e = .returned (.tuple #[]) ∧ ∃ Z : List α, Z.length = len ∧ Blks (ltOf cf) no (2 * bs) Z ∧ Z.Perm l ∧ SWK enc k w0 blk off Z.toArray w') := Lib.hid (by
         obtain ⟨D, U, h1, h2, h3, h4, h5⟩ := Hr.out
         obtain ⟨X, t, rfl, x1, x2, x3, x4⟩ := h4.more (by omega)
         rw [List.length_append] at h2
         refine (Hsym.out _ D X t [] a mm len wr (Nat.le_refl _) (by omega) (by omega) ⟨rfl, h1, by omega, by omega, by simp only [List.size_toArray, List.length_append, List.length_nil]; omega, x2, x4.one (by omega), x3⟩ (by simpa using h5)).mono ?_
         rintro e w' ⟨rfl, Z, z1, z2, z3⟩
         obtain ⟨f1, f2⟩ := h3.fin z1 z2 (by rw [List.length_append]; omega)
         exact ⟨rfl, D ++ Z, by rw [List.length_append, z1.length_eq, List.length_append]; omega, f1, f2, by simpa using z3⟩)
        clear Hr
        go_wp2_with (go_at_fn 162; refine Hcall.out.mono ?_; rintro e w1 ⟨rfl, hS1⟩; have HS1 := Lib.hid hS1; clear hS1)
        go_roundg (len - 2 * bs)
        case measure => omega
        case rel => exact ⟨2 * bs, by first | rfl | go_num, by omega, by omega, by omega, HS1⟩
       ·have hmz : ¬ (mm : Int) < (len : Int) := by omega
        have HS1 : Hid (∃ Z : List α, Z.length = len ∧ Blks (ltOf cf) no (2 * bs) Z ∧ Z.Perm l ∧ SWK enc k w0 blk off Z.toArray wr) := Lib.hid (by
         obtain ⟨D, U, h1, h2, h3, h4, h5⟩ := Hr.out
         obtain ⟨f1, f2⟩ := h3.fin (List.Perm.refl U) (h4.one (by omega)) (by omega)
         exact ⟨D ++ U, by rw [List.length_append]; omega, f1, f2, h5⟩)
        clear Hr
        go_wp2
        go_roundg (len - 2 * bs)
        case measure => omega
        case rel => exact ⟨2 * bs, by first | rfl | go_num, by omega, by omega, by omega, HS1⟩
    ·have hlz : ¬ (bs : Int) < (len : Int) := by omega
     go_wp2
     go_end0
     refine ⟨rfl, ?_⟩
     obtain ⟨Z, z1, z2, z3, z4⟩ := Hr.out
     exact ⟨Z, z3, z2.one (by omega), z4⟩
end
end Go.Proofs.YtoinjdmlembgeaaGreat
