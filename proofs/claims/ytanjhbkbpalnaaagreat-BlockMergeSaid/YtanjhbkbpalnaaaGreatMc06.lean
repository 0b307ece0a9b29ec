/-
 What the law of the last of these texts stands on, part 6.
-/
import Derived.Test.YtanjhbkbpalnaaaGreatMc04
import Derived.Sort.WalkB2
import Derived.Sort.WalkB12
import Derived.Deep.LoopGhost
set_option maxRecDepth 100000
set_option maxHeartbeats 8000000
open Go.Proofs.Tryz
namespace Go.Proofs.YtanjhbkbpalnaaaGreat
set_option linter.unusedSimpArgs false
set_option linter.unusedVariables false
open Go.ChangeShapes Go.WideShapes Go.ChangeAt Go.RowKit Go.Joins Go.Deep Go.Shelf Go.Lib
open Go.Sort (SWO swp size_swp HoldsK)
def stRen : Ren := ⟨fun _ => 205, fun t => if t = 22 then 185 else if t = 24 then 190 else if t = 25 then 222 else t, fun g => g⟩
structure yd9 (P : Program) (k : Nat) : Prop where
 mixed : P.follows .mixedOrders = true
 aE : ∀ w, (isAgg 190).run P w = .ok true w
 zE : ∀ w, (Go.sizeOf 190).run P w = .ok k w
 t0 : P.underlying 0 = some (TypeDesc.tuple #[])
 a0 : ∀ w, (isAgg 0).run P w = .ok false w
 z0 : ∀ w, (Go.sizeOf 0).run P w = .ok 1 w
 v0 : ∀ w, (zeroValue 0).run P w = .ok (Value.tuple #[]) w
 t3 : P.underlying 3 = some (TypeDesc.int IntKind.i64)
 a3 : ∀ w, (isAgg 3).run P w = .ok false w
 z3 : ∀ w, (Go.sizeOf 3).run P w = .ok 1 w
 v3 : ∀ w, (zeroValue 3).run P w = .ok (Value.int IntKind.i64 0) w
 t4 : P.underlying 4 = some (TypeDesc.bool)
 a4 : ∀ w, (isAgg 4).run P w = .ok false w
 z4 : ∀ w, (Go.sizeOf 4).run P w = .ok 1 w
 v4 : ∀ w, (zeroValue 4).run P w = .ok (Value.bool false) w
 tS : P.underlying 185 = some (TypeDesc.slice 190)
 aS : ∀ w, (isAgg 185).run P w = .ok false w
 zS : ∀ w, (Go.sizeOf 185).run P w = .ok 1 w
 vS : ∀ w, (zeroValue 185).run P w = .ok (Value.slice none 0 0) w
 tF : P.underlying 222 = some (TypeDesc.func #[190, 190] #[3] false)
 aF : ∀ w, (isAgg 222).run P w = .ok false w
 zF : ∀ w, (Go.sizeOf 222).run P w = .ok 1 w
 vF : ∀ w, (zeroValue 222).run P w = .ok (Value.nilFunc) w
 tU : P.underlying 192 = some (TypeDesc.int IntKind.u64)
 aU : ∀ w, (isAgg 192).run P w = .ok false w
 zU : ∀ w, (Go.sizeOf 192).run P w = .ok 1 w
 vU : ∀ w, (zeroValue 192).run P w = .ok (Value.int IntKind.u64 0) w
 fsw : P.funcs[211]? = some Tryz.f211
 fro : P.funcs[209]? = some Tryz.f209
 fsy : P.funcs[206]? = some Tryz.f206
 fst : P.funcs[200]? = some Tryz.f200
 fin : P.funcs[205]? = some Tryz.f205
theorem stAll : yd9 prog 2 where
 mixed := by kernel_rfl
 aE := isAgg190
 zE := sizeOf190
 t0 := by kernel_rfl
 a0 := isAgg0
 z0 := sizeOf0
 v0 := zeroValue0
 t3 := by kernel_rfl
 a3 := isAgg3
 z3 := sizeOf3
 v3 := zeroValue3
 t4 := by kernel_rfl
 a4 := isAgg4
 z4 := sizeOf4
 v4 := zeroValue4
 tS := by kernel_rfl
 aS := isAgg185
 zS := sizeOf185
 vS := zeroValue185
 tF := by kernel_rfl
 aF := isAgg222
 zF := sizeOf222
 vF := zeroValue222
 tU := by kernel_rfl
 aU := isAgg192
 zU := sizeOf192
 vU := zeroValue192
 fsw := func211
 fro := func209
 fsy := func206
 fst := func200
 fin := func205
section
variable {P0 : Program} {k : Nat} {α : Type} [Inhabited α] {enc : α → List Value} {w0 : World} {blk off : Nat} {d0 : Array α}
theorem yhj (L : yd9 P0 k) (F : Value) (P X M Y Q : List α) (a b n len cap : Nat) (w : World) (hP : P.length = a) (hX : X.length = n) (hY : Y.length = n) (hM : a + n + M.length = b) (hlen : (P ++ (X ++ (M ++ (Y ++ Q)))).length = len) (hsz : len < 4611686018427387904)
  (R : RowK enc k w0 blk off d0) (hd : d0.size = len) (S : SWK enc k w0 blk off (P ++ (X ++ (M ++ (Y ++ Q)))).toArray w) :
  Calls P0 211 #[.slice (some ⟨blk, off, none⟩) len cap, .int .i64 a, .int .i64 b, .int .i64 n, F] w fun e w' =>
   e = .returned (.tuple #[]) ∧ SWK enc k w0 blk off (P ++ (Y ++ (M ++ (X ++ Q)))).toArray w' := by
 obtain ⟨T, hT⟩ : ∃ T, P ++ (Y ++ (M ++ (X ++ Q))) = T := ⟨_, rfl⟩
 rw [hT]
 have Hd := qaa hd
 have HR : Aside (RowK enc k w0 blk off d0) := R
 have Hst : Hid (∃ P' X' M' Y' : List α, P'.length = a + 0 ∧ X'.length = n - 0 ∧ Y'.length = n - 0 ∧ a + n + M'.length = b + 0 ∧ (P' ++ (X' ++ (M' ++ (Y' ++ Q)))).length = len ∧ SWK enc k w0 blk off (P' ++ (X' ++ (M' ++ (Y' ++ Q)))).toArray w ∧ P' ++ (Y' ++ (M' ++ (X' ++ Q))) = T) := ⟨P, X, M, Y, hP, hX, hY, hM, hlen, S, hT⟩
 have hbl : b + n ≤ len ∧ a + n ≤ b := by simp only [qae] at hlen; omega
 have mixed := L.mixed; have aE := L.aE; have zE := L.zE; have t0 := L.t0; have a0 := L.a0; have z0 := L.z0; have v0 := L.v0; have t3 := L.t3; have a3 := L.a3; have z3 := L.z3; have v3 := L.v3; have t4 := L.t4; have a4 := L.a4; have z4 := L.z4; have v4 := L.v4; have tS := L.tS; have aS := L.aS; have zS := L.zS; have vS := L.vS; have tF := L.tF; have aF := L.aF; have zF := L.zF; have vF := L.vF; have tU := L.tU; have aU := L.aU; have zU := L.zU; have vU := L.vU
 have uS := qbe L.tS; have uU := qbe L.tU; have u3 := qbe L.t3
 clear hT S hP hX hY hM hlen R hd P X M Y
 have FG := L.fsw
 go_enter FG, ntmps211
 go_wp2
 go_loopg [10] n (fun g vi wr => ∃ i : Nat, vi = .int .i64 i ∧ i ≤ n ∧ n - i ≤ g ∧ Hid (∃ P' X' M' Y' : List α, P'.length = a + i ∧ X'.length = n - i ∧ Y'.length = n - i ∧ a + n + M'.length = b + i ∧ (P' ++ (X' ++ (M' ++ (Y' ++ Q)))).length = len ∧ SWK enc k w0 blk off (P' ++ (X' ++ (M' ++ (Y' ++ Q)))).toArray wr ∧ P' ++ (Y' ++ (M' ++ (X' ++ Q))) = T))
 case atStart => exact ⟨0, rfl, by omega, by omega, Hst⟩
 case round =>
  obtain ⟨i, rfl, hi, hg, Hs⟩ := hrel
  clear Hst
  by_cases hlt : i < n
  ·have hlz : (i : Int) < (n : Int) := by omega
   obtain ⟨p, hp⟩ : ∃ p, a + i = p := ⟨_, rfl⟩
   obtain ⟨q, hq⟩ : ∃ q, b + i = q := ⟨_, rfl⟩
   have hpz : (a : Int) + (i : Int) = (p : Int) := by omega
   have hqz : (b : Int) + (i : Int) = (q : Int) := by omega
   have hpw : IntKind.i64.wrap ((a : Int) + (i : Int)) = (p : Int) := by rw [qai]; omega
   have hqw : IntKind.i64.wrap ((b : Int) + (i : Int)) = (q : Int) := by rw [qai]; omega
   have hpb : (0 : Int) ≤ (p : Int) ∧ (p : Int) < (len : Int) := by omega
   have hqb : (0 : Int) ≤ (q : Int) ∧ (q : Int) < (len : Int) := by omega
   obtain ⟨P', X', M', Y', h1, h2, h3, h4, h5, S1, h6⟩ := Hs.out
   clear Hs
   cases X' with
   | nil => simp at h2; omega
   | cons x X2 =>
   cases Y' with
   | nil => simp at h3; omega
   | cons y Y2 =>
   have ha : P' ++ (x :: X2 ++ (M' ++ (y :: Y2 ++ Q))) = P' ++ x :: ((X2 ++ M') ++ y :: (Y2 ++ Q)) := by simp
   have hb2 : P' ++ y :: ((X2 ++ M') ++ x :: (Y2 ++ Q)) = (P' ++ [y]) ++ (X2 ++ ((M' ++ [x]) ++ (Y2 ++ Q))) := by simp
   rw [ha] at S1 h5
   have hxl : (X2 ++ M').length + 1 + p = q := by simp only [qae, qau] at h2 ⊢; omega
   have hsw := yfL P' (X2 ++ M') (Y2 ++ Q) x y p q (by omega) (by omega)
   have hgx : (P' ++ x :: ((X2 ++ M') ++ y :: (Y2 ++ Q))).toArray[p]! = x := ycX P' _ x p (by omega)
   have hgy : (P' ++ x :: ((X2 ++ M') ++ y :: (Y2 ++ Q))).toArray[q]! = y := by
    rw [show P' ++ x :: ((X2 ++ M') ++ y :: (Y2 ++ Q)) = (P' ++ x :: (X2 ++ M')) ++ y :: (Y2 ++ Q) from by simp]
    exact ycX _ _ y q (by rw [qae, qau]; omega)
   have hsl : (P' ++ x :: ((X2 ++ M') ++ y :: (Y2 ++ Q))).toArray.size = len := by rw [qaA]; exact h5
   have Hnew : Hid (∀ W, SWK enc k w0 blk off (P' ++ y :: ((X2 ++ M') ++ x :: (Y2 ++ Q))).toArray W → ∃ P' X' M' Y' : List α, P'.length = a + (i + 1) ∧ X'.length = n - (i + 1) ∧ Y'.length = n - (i + 1) ∧ a + n + M'.length = b + (i + 1) ∧ (P' ++ (X' ++ (M' ++ (Y' ++ Q)))).length = len ∧ SWK enc k w0 blk off (P' ++ (X' ++ (M' ++ (Y' ++ Q)))).toArray W ∧ P' ++ (Y' ++ (M' ++ (X' ++ Q))) = T) := qaa fun W S => by
    rw [hb2] at S
    refine ⟨P' ++ [y], X2, M' ++ [x], Y2, by simp; omega, by simp at h2; omega, by simp at h3; omega, by simp; omega, ?_, S, ?_⟩
    ·rw [← h5]; simp <;> omega
    ·rw [← h6]; simp
   rw [← hsw] at Hnew
   generalize (P' ++ x :: ((X2 ++ M') ++ y :: (Y2 ++ Q))).toArray = dk at *
   clear ha hb2 h1 h2 h3 h4 h5 h6 hsw hxl
   have hds : dk.size = d0.size := by have := Hd.out; omega
   have S2 : Aside (SWK enc k w0 blk off (swp dk p q) ((wr.drew.setCells blk (off + p * k) (enc dk[q]!)).setCells blk (off + q * k) (enc dk[p]!))) := S1.swapped HR.out p q (by omega) (by omega)
   have l1 := S1.ld1 HR.out hds P0 p (by omega)
   have l2 := S1.ld1 HR.out hds P0 q (by omega)
   have s1 := S1.st1 HR.out hds P0 p (by omega) dk[q]!
   have s2 := S1.st2 HR.out hds P0 p q (by omega) (by omega) dk[q]! dk[p]!
   have n1 : (enc dk[p]!).length = k := HR.out.hk _
   have n2 : (enc dk[q]!).length = k := HR.out.hk _
   generalize enc dk[p]! = cI at S2 l1 s2 n1
   generalize enc dk[q]! = cJ at S2 l2 s1 s2 n2
   clear S1 hgx hgy hds hsl
   go_wp2_with fail
   go_big_region_o
   clear l1 l2 s1 s2
   generalize (wr.drew.setCells blk (off + p * k) cJ).setCells blk (off + q * k) cI = w2 at S2 ⊢
   go_wp2
   go_roundg (n - (i + 1))
   case measure => omega
   case rel => exact ⟨i + 1, by go_num, by omega, by omega, qaa (Hnew.out _ S2.out)⟩
  ·have hlz : ¬ (i : Int) < (n : Int) := by omega
   have hin : i = n := by omega
   subst hin
   go_wp2
   go_end0
   refine ⟨rfl, ?_⟩
   obtain ⟨P', X', M', Y', h1, h2, h3, h4, h5, S1, h6⟩ := Hs.out
   have e1 : X' = [] := qaz.1 (by omega)
   have e2 : Y' = [] := qaz.1 (by omega)
   subst e1 e2
   rw [← h6]
   exact S1
end
section
variable {P0 : Program} {k : Nat} {α : Type} [Inhabited α] {enc : α → List Value} {w0 : World} {blk off : Nat} {d0 : Array α}
theorem rotate_any (L : yd9 P0 k) (g : Nat) (cb : Array Value) (P X Y Q : List α) (a m b len cap : Nat) (w : World) (hP : P.length = a) (hX : a + X.length = m) (hY : m + Y.length = b) (hX0 : 0 < X.length) (hY0 : 0 < Y.length) (hlen : (P ++ (X ++ (Y ++ Q))).length = len) (hsz : len < 4611686018427387904)
  (R : RowK enc k w0 blk off d0) (hd : d0.size = len) (S : SWK enc k w0 blk off (P ++ (X ++ (Y ++ Q))).toArray w) :
  Calls P0 209 #[.slice (some ⟨blk, off, none⟩) len cap, .int .i64 a, .int .i64 m, .int .i64 b, .func (.func g) #[] cb] w fun e w' =>
   e = .returned (.tuple #[]) ∧ SWK enc k w0 blk off (P ++ (Y ++ (X ++ Q))).toArray w' := by
 obtain ⟨T, hT⟩ : ∃ T, P ++ (Y ++ (X ++ Q)) = T := ⟨_, rfl⟩
 rw [hT]
 have HL := qaa L
 have Hd := qaa hd
 have HR : Aside (RowK enc k w0 blk off d0) := R
 obtain ⟨i0, hi0⟩ : ∃ i0, X.length = i0 := ⟨_, rfl⟩
 obtain ⟨j0, hj0⟩ : ∃ j0, Y.length = j0 := ⟨_, rfl⟩
 rw [hi0] at hX hX0
 rw [hj0] at hY hY0
 have Hst : Hid (∃ P' X' Y' Q' : List α, P'.length + i0 = m ∧ X'.length = i0 ∧ Y'.length = j0 ∧ (P' ++ (X' ++ (Y' ++ Q'))).length = len ∧ SWK enc k w0 blk off (P' ++ (X' ++ (Y' ++ Q'))).toArray w ∧ P' ++ (Y' ++ (X' ++ Q')) = T) := ⟨P, X, Y, Q, by omega, hi0, hj0, hlen, S, hT⟩
 have hbl : m + j0 ≤ len ∧ i0 ≤ m := by simp only [qae] at hlen; omega
 have hiz : (m : Int) - (a : Int) = (i0 : Int) := by omega
 have hjz : (b : Int) - (m : Int) = (j0 : Int) := by omega
 have hiw : IntKind.i64.wrap ((m : Int) - (a : Int)) = (i0 : Int) := by rw [qai]; omega
 have hjw : IntKind.i64.wrap ((b : Int) - (m : Int)) = (j0 : Int) := by rw [qai]; omega
 clear hT S hP hX hY hlen R hd hi0 hj0 P X Y Q
 have mixed := L.mixed; have aE := L.aE; have zE := L.zE; have t0 := L.t0; have a0 := L.a0; have z0 := L.z0; have v0 := L.v0; have t3 := L.t3; have a3 := L.a3; have z3 := L.z3; have v3 := L.v3; have t4 := L.t4; have a4 := L.a4; have z4 := L.z4; have v4 := L.v4; have tS := L.tS; have aS := L.aS; have zS := L.zS; have vS := L.vS; have tF := L.tF; have aF := L.aF; have zF := L.zF; have vF := L.vF; have tU := L.tU; have aU := L.aU; have zU := L.zU; have vU := L.vU
 have uS := qbe L.tS; have uU := qbe L.tU; have u3 := qbe L.t3
 have esw : ∀ args w, (callFunc 211 args).run P0 w = .ok (.enter 211 args) w := enters_of L.fsw (by kernel_rfl) rfl
 have FG := L.fro
 clear L
 go_enter FG, ntmps209
 go_wp2
 clear hiz hjz hiw hjw
 go_loopg [10, 11] (i0 + j0) (fun gk vi vj wr => ∃ i j : Nat, vi = .int .i64 i ∧ vj = .int .i64 j ∧ 0 < i ∧ 0 < j ∧ i ≤ m ∧ m + j ≤ len ∧ i + j ≤ gk ∧ Hid (∃ P' X' Y' Q' : List α, P'.length + i = m ∧ X'.length = i ∧ Y'.length = j ∧ (P' ++ (X' ++ (Y' ++ Q'))).length = len ∧ SWK enc k w0 blk off (P' ++ (X' ++ (Y' ++ Q'))).toArray wr ∧ P' ++ (Y' ++ (X' ++ Q')) = T))
 case atStart => exact ⟨i0, j0, rfl, rfl, hX0, hY0, by omega, by omega, by omega, Hst⟩
 case round =>
  obtain ⟨i, j, rfl, rfl, hi, hj, him, hjm, hg, Hs⟩ := hrel
  clear Hst hX0 hY0 hbl
  obtain ⟨s, hs⟩ : ∃ s, s + i = m := ⟨m - i, by omega⟩
  have hsz1 : (m : Int) - (i : Int) = (s : Int) := by omega
  have hsw1 : IntKind.i64.wrap ((m : Int) - (i : Int)) = (s : Int) := by rw [qai]; omega
  by_cases heq : i = j
  ·subst heq
   have hez : ((i : Int) == (i : Int)) = true := by simp
   have Hcall : Hid (Calls P0 211 #[.slice (some ⟨blk, off, none⟩) len cap, .int .i64 s, .int .i64 m, .int .i64 i, .func (.func g) #[] cb] wr fun e w' => e = .returned (.tuple #[]) ∧ SWK enc k w0 blk off T.toArray w') := qaa (by
    obtain ⟨P', X', Y', Q', h1, h2, h3, h4, S1, h5⟩ := Hs.out
    rw [← h5]
    exact yhj HL.out _ P' X' [] Y' Q' s m i len cap wr (by omega) h2 h3 (by simp; omega) h4 hsz HR.out Hd.out S1)
   clear Hs
   go_wp2_with (go_at_fn 211; refine Hcall.out.mono ?_; rintro e w' ⟨rfl, S2⟩)
   go_end0
   exact ⟨rfl, S2⟩
  ·have hez : ((i : Int) == (j : Int)) = false := by simp; omega
   have hnz : ¬ (i : Int) = (j : Int) := by omega
   by_cases hgt : j < i
   ·have hgz : (j : Int) < (i : Int) := by omega
    have hdz : (i : Int) - (j : Int) = ((i - j : Nat) : Int) := by omega
    have hdw : IntKind.i64.wrap ((i : Int) - (j : Int)) = ((i - j : Nat) : Int) := by rw [qai]; omega
    have Hcall : Hid (Calls P0 211 #[.slice (some ⟨blk, off, none⟩) len cap, .int .i64 s, .int .i64 m, .int .i64 j, .func (.func g) #[] cb] wr fun e w' => e = .returned (.tuple #[]) ∧ ∃ P' X' Y' Q' : List α, P'.length + (i - j) = m ∧ X'.length = i - j ∧ Y'.length = j ∧ (P' ++ (X' ++ (Y' ++ Q'))).length = len ∧ SWK enc k w0 blk off (P' ++ (X' ++ (Y' ++ Q'))).toArray w' ∧ P' ++ (Y' ++ (X' ++ Q')) = T) := qaa (by
     obtain ⟨P', X', Y', Q', h1, h2, h3, h4, S1, h5⟩ := Hs.out
     have hX' : X' = X'.take j ++ X'.drop j := (qax j X').symm
     have hl : (X'.take j).length = j ∧ (X'.drop j).length = i - j := by rw [qao, qat]; omega
     generalize X'.take j = X1 at hX' hl
     generalize X'.drop j = X2 at hX' hl
     subst hX'
     refine (yhj HL.out _ P' X1 X2 Y' Q' s m j len cap wr (by omega) hl.1 h3 (by omega) (by rw [← h4]; simp) hsz HR.out Hd.out (by simpa using S1)).mono ?_
     rintro e w' ⟨rfl, S2⟩
     refine ⟨rfl, P' ++ Y', X2, X1, Q', by simp; omega, hl.2, hl.1, ?_, by simpa using S2, ?_⟩
     ·rw [← h4]; simp; omega
     ·rw [← h5]; simp)
    clear Hs
    go_wp2_with (go_at_fn 211; refine Hcall.out.mono ?_; rintro e w' ⟨rfl, S2⟩; have Hn := qaa S2; clear S2)
    go_roundg (i - j + j)
    case measure => omega
    case rel => exact ⟨i - j, j, by go_num, rfl, by omega, hj, by omega, hjm, by omega, Hn⟩
   ·have hgz : ¬ (j : Int) < (i : Int) := by omega
    have hdz : (j : Int) - (i : Int) = ((j - i : Nat) : Int) := by omega
    have hdw : IntKind.i64.wrap ((j : Int) - (i : Int)) = ((j - i : Nat) : Int) := by rw [qai]; omega
    obtain ⟨q, hq⟩ : ∃ q, m + j = q + i := ⟨m + j - i, by omega⟩
    have hqz : (m : Int) + (j : Int) - (i : Int) = (q : Int) := by omega
    have hqz1 : (m : Int) + (j : Int) = ((m + j : Nat) : Int) := by omega
    have hqw1 : IntKind.i64.wrap ((m : Int) + (j : Int)) = (m : Int) + (j : Int) := by rw [qai]; omega
    have hqw : IntKind.i64.wrap ((m : Int) + (j : Int) - (i : Int)) = (q : Int) := by rw [qai]; omega
    have Hcall : Hid (Calls P0 211 #[.slice (some ⟨blk, off, none⟩) len cap, .int .i64 s, .int .i64 q, .int .i64 i, .func (.func g) #[] cb] wr fun e w' => e = .returned (.tuple #[]) ∧ ∃ P' X' Y' Q' : List α, P'.length + i = m ∧ X'.length = i ∧ Y'.length = j - i ∧ (P' ++ (X' ++ (Y' ++ Q'))).length = len ∧ SWK enc k w0 blk off (P' ++ (X' ++ (Y' ++ Q'))).toArray w' ∧ P' ++ (Y' ++ (X' ++ Q')) = T) := qaa (by
     obtain ⟨P', X', Y', Q', h1, h2, h3, h4, S1, h5⟩ := Hs.out
     have hY' : Y' = Y'.take (j - i) ++ Y'.drop (j - i) := (qax (j - i) Y').symm
     have hl : (Y'.take (j - i)).length = j - i ∧ (Y'.drop (j - i)).length = i := by rw [qao, qat]; omega
     generalize Y'.take (j - i) = Y1 at hY' hl
     generalize Y'.drop (j - i) = Y2 at hY' hl
     subst hY'
     refine (yhj HL.out _ P' X' Y1 Y2 Q' s q i len cap wr (by omega) h2 hl.2 (by omega) (by rw [← h4]; simp) hsz HR.out Hd.out (by simpa using S1)).mono ?_
     rintro e w' ⟨rfl, S2⟩
     refine ⟨rfl, P', Y2, Y1, X' ++ Q', by omega, hl.2, hl.1, ?_, by simpa using S2, ?_⟩
     ·rw [← h4]; simp; omega
     ·rw [← h5]; simp)
    clear Hs
    go_wp2_with (go_at_fn 211; refine Hcall.out.mono ?_; rintro e w' ⟨rfl, S2⟩; have Hn := qaa S2; clear S2)
    go_roundg (i + (j - i))
    case measure => omega
    case rel => exact ⟨i, j - i, rfl, by go_num, hi, by omega, him, by omega, by omega, Hn⟩
end
section
variable {P0 : Program} {k : Nat} {α : Type} [Inhabited α] {enc : α → List Value} {w0 : World} {blk off : Nat} {d0 : Array α} {cf : α → α → Int} {no : α → Nat}
theorem symm_one (L : yd9 P0 k) (hO : SWO (ltOf cf)) (g : Nat) (cb : Array Value) (P X Y Q : List α) (a m b len cap : Nat) (w : World) (eg : ∀ args w, (callFunc g args).run P0 w = .ok (.enter g args) w) (hC : CmpLays P0 g cb enc k cf blk off len w0)
  (x0 : α) (hx0 : X = [x0]) (hY0 : 0 < Y.length) (hA : Both (ltOf cf) no P X Y Q (P ++ (X ++ (Y ++ Q))).toArray a m b len) (hsz : len < 4611686018427387904)
  (R : RowK enc k w0 blk off d0) (hd : d0.size = len) (S : SWK enc k w0 blk off (P ++ (X ++ (Y ++ Q))).toArray w) :
  Calls P0 206 #[.slice (some ⟨blk, off, none⟩) len cap, .int .i64 a, .int .i64 m, .int .i64 b, .func (.func g) #[] cb] w fun e w' =>
   e = .returned (.tuple #[]) ∧ ∃ Z, Z.Perm (X ++ Y) ∧ Z.Pairwise (sord (ltOf cf) no) ∧ SWK enc k w0 blk off (P ++ (Z ++ Q)).toArray w' := by
 have HA := qaa hA
 have Hd := qaa hd
 have HO := qaa hO
 have HR : Aside (RowK enc k w0 blk off d0) := R
 have HC : Aside (CmpLays P0 g cb enc k cf blk off len w0) := hC
 obtain ⟨dk, hdk⟩ : ∃ dk, dk = (P ++ (X ++ (Y ++ Q))).toArray := ⟨_, rfl⟩
 have S0 : Aside (SWK enc k w0 blk off dk w) := by rw [hdk]; exact S
 have Hdk := qaa hdk
 have Hs : Hid (dk.size = len) := qaa (by rw [hdk]; exact hA.hlen)
 have hnum : m = a + 1 ∧ m < b ∧ b ≤ len := by have h1 := hA.size; have h2 := hA.hX; have h3 := hA.hY; have h4 : X.length = 1 := (by rw [hx0]; rfl); omega
 have hx1 : dk[a]! = x0 := by rw [hdk, hx0]; exact ycX P _ x0 a hA.hP.symm
 have Hmono : Hid (∀ s t, m ≤ s → s ≤ t → t < b → ltOf cf dk[t]! x0 = true → ltOf cf dk[s]! x0 = true) := qaa fun s t h1 h2 h3 k => by
  rw [hdk] at *
  exact hA.right.lt_down hO s t h1 h2 h3 k
 clear hdk S hC R hd hA hO
 have mixed := L.mixed; have aE := L.aE; have zE := L.zE; have t0 := L.t0; have a0 := L.a0; have z0 := L.z0; have v0 := L.v0; have t3 := L.t3; have a3 := L.a3; have z3 := L.z3; have v3 := L.v3; have t4 := L.t4; have a4 := L.a4; have z4 := L.z4; have v4 := L.v4; have tS := L.tS; have aS := L.aS; have zS := L.zS; have vS := L.vS; have tF := L.tF; have aF := L.aF; have zF := L.zF; have vF := L.vF; have tU := L.tU; have aU := L.aU; have zU := L.zU; have vU := L.vU
 have uS := qbe L.tS; have uU := qbe L.tU; have u3 := qbe L.t3
 have FG := L.fsy
 clear L
 obtain ⟨hma, hmb, hbl⟩ := hnum
 have q1 : (m : Int) - (a : Int) = 1 := by omega
 have hma1 : a < m := by omega
 have hma2 : m ≤ a + 1 := by omega
 clear hma
 have q1b : (((m : Int) - (a : Int)) == 1) = true := by rw [q1]; decide
 go_enter FG, ntmps206
 go_wp2
 clear q1 q1b
 go_loopg [10, 11, 12] (b - m) (fun gk vi vj vh wr => ∃ i j : Nat, vi = .int .i64 i ∧ vj = .int .i64 j ∧ m ≤ i ∧ i ≤ j ∧ j ≤ b ∧ j - i ≤ gk ∧ Aside (SWK enc k w0 blk off dk wr) ∧ Hid (∀ t, m ≤ t → t < i → ltOf cf dk[t]! x0 = true) ∧ Hid (∀ t, j ≤ t → t < b → ltOf cf dk[t]! x0 = false))
 case atStart => exact ⟨m, b, rfl, rfl, qaf _, by omega, qaf _, by omega, S0, fun t _ _ => by omega, fun t _ _ => by omega⟩
 case round =>
  obtain ⟨i, j, rfl, rfl, hi, hij, hjb, hg, S1, H1, H2⟩ := hrel
  clear S0
  by_cases hlt : i < j
  ·have hlz : (i : Int) < (j : Int) := by omega
   obtain ⟨h, hh⟩ : ∃ h, (i + j) / 2 = h := ⟨_, rfl⟩
   have sh : ((i : Int) + (j : Int)) / 2 = (h : Int) := by omega
   cases hlv : ltOf cf dk[h]! dk[a]! with
   | true =>
    have eA : ((h : Int)).toNat = h := by omega
    have pA : (0 : Int) ≤ (h : Int) := by omega
    have bA : (h : Int) < (len : Int) := by omega
    have rA : IntKind.i64.wrap ((h : Int)) = (h : Int) := by rw [qai]; omega
    have eB : ((a : Int)).toNat = a := by omega
    have pB : (0 : Int) ≤ (a : Int) := by omega
    have bB : (a : Int) < (len : Int) := by omega
    have rB : IntKind.i64.wrap ((a : Int)) = (a : Int) := by rw [qai]; omega
    obtain ⟨xv, hxv⟩ : ∃ x, x = dk[h]! := ⟨_, rfl⟩
    obtain ⟨yv, hyv⟩ : ∃ x, x = dk[a]! := ⟨_, rfl⟩
    have lA := S1.out.ld HR.out (by have := Hd.out; have := Hs.out; omega) P0 h (by have := Hs.out; omega)
    have lB := S1.out.ld HR.out (by have := Hd.out; have := Hs.out; omega) P0 a (by have := Hs.out; omega)
    rw [← hxv] at lA
    rw [← hyv] at lB
    have hC := S1.out.cmp HC.out Hs.out xv yv
    have hv : cf xv yv < 0 := by rw [hxv, hyv]; exact qbo hlv
    have hdv : decide (cf xv yv < 0) = true := qaP hv
    clear hxv hyv
    go_wp2_with fail
    go_quiet_grown (first | (go_at_fn g; refine Calls.grown_of (hC _ _)))
    have S2 : Aside (SWK enc k w0 blk off dk (Sort.grow (wr.drewN nq) osq)) := S1.out.grown nq osq
    clear lA lB hC S1
    generalize Sort.grow (wr.drewN nq) osq = wv at S2 ⊢
    clear nq osq
    go_wp2
    go_roundg (j - (h + 1))
    case measure => omega
    case rel => exact ⟨h + 1, j, by go_num, rfl, by omega, by omega, hjb, by omega, S2, fun t t1 t2 => Hmono.out t h t1 (by omega) (by omega) (by rw [← hx1]; exact hlv), H2.out⟩
   | false =>
    have eA : ((h : Int)).toNat = h := by omega
    have pA : (0 : Int) ≤ (h : Int) := by omega
    have bA : (h : Int) < (len : Int) := by omega
    have rA : IntKind.i64.wrap ((h : Int)) = (h : Int) := by rw [qai]; omega
    have eB : ((a : Int)).toNat = a := by omega
    have pB : (0 : Int) ≤ (a : Int) := by omega
    have bB : (a : Int) < (len : Int) := by omega
    have rB : IntKind.i64.wrap ((a : Int)) = (a : Int) := by rw [qai]; omega
    obtain ⟨xv, hxv⟩ : ∃ x, x = dk[h]! := ⟨_, rfl⟩
    obtain ⟨yv, hyv⟩ : ∃ x, x = dk[a]! := ⟨_, rfl⟩
    have lA := S1.out.ld HR.out (by have := Hd.out; have := Hs.out; omega) P0 h (by have := Hs.out; omega)
    have lB := S1.out.ld HR.out (by have := Hd.out; have := Hs.out; omega) P0 a (by have := Hs.out; omega)
    rw [← hxv] at lA
    rw [← hyv] at lB
    have hC := S1.out.cmp HC.out Hs.out xv yv
    have hv : ¬ cf xv yv < 0 := by rw [hxv, hyv]; exact of_decide_eq_false hlv
    have hdv : decide (cf xv yv < 0) = false := qbv hv
    clear hxv hyv
    go_wp2_with fail
    go_quiet_grown (first | (go_at_fn g; refine Calls.grown_of (hC _ _)))
    have S2 : Aside (SWK enc k w0 blk off dk (Sort.grow (wr.drewN nq) osq)) := S1.out.grown nq osq
    clear lA lB hC S1
    generalize Sort.grow (wr.drewN nq) osq = wv at S2 ⊢
    clear nq osq
    go_wp2
    go_roundg (h - i)
    case measure => omega
    case rel => exact ⟨i, h, rfl, rfl, hi, by omega, by omega, by omega, S2, H1.out, fun t t1 t2 => by
     cases e : ltOf cf dk[t]! x0 with
     | false => rfl
     | true => have := Hmono.out h t (by omega) t1 t2 e; rw [← hx1, hlv] at this; cases this⟩
  ·have hlz : ¬ (i : Int) < (j : Int) := by omega
   obtain rfl : i = j := by omega
   obtain ⟨T, hT⟩ : ∃ T, P ++ ((Y.take (i - m) ++ x0 :: Y.drop (i - m)) ++ Q) = T := ⟨_, rfl⟩
   have Hend : Hid (∀ W, SWK enc k w0 blk off T.toArray W → ∃ Z, Z.Perm (x0 :: Y) ∧ Z.Pairwise (sord (ltOf cf) no) ∧ SWK enc k w0 blk off (P ++ (Z ++ Q)).toArray W) := qaa fun W SW => by
    have hA := HA.out
    have g1 := hA.take_right (fun y => ltOf cf y x0 = true) i hjb fun t t1 t2 => by rw [← Hdk.out]; exact H1.out t t1 t2
    have g2 := hA.drop_right (fun y => ltOf cf y x0 = false) i hi fun t t1 t2 => by rw [← Hdk.out]; exact H2.out t t1 t2
    have hY := hA.oY
    have hn := hA.hno
    rw [← qax (i - m) Y] at hY hn
    obtain ⟨o1, o2, o3⟩ := qa2.1 hY
    refine ⟨Y.take (i - m) ++ x0 :: Y.drop (i - m), ?_, ?_, by rw [hT]; exact SW⟩
    ·refine List.perm_middle.trans ?_
     rw [qax]
    ·rw [qa2]
     refine ⟨o1, qa7.2 ⟨fun y hy => qaK ⟨g2 y hy, hn x0 (by rw [hx0]; simp) y (qbj _ hy)⟩, o2⟩, ?_⟩
     intro u hu v hv
     rcases qaB.1 hv with rfl | hv
     ·exact qas (g1 u hu)
     ·exact o3 u hu v hv
   have Hst : Hid (∃ P' U : List α, P'.length = a ∧ U.length = i - 1 - a ∧ (P' ++ (x0 :: (U ++ (Y.drop (i - m) ++ Q)))).length = len ∧ SWK enc k w0 blk off (P' ++ (x0 :: (U ++ (Y.drop (i - m) ++ Q)))).toArray wr ∧ P' ++ (U ++ (x0 :: (Y.drop (i - m) ++ Q))) = T) := qaa (by
    have hA := HA.out
    have hYl := hA.hY
    have e : P ++ (x0 :: (Y.take (i - m) ++ (Y.drop (i - m) ++ Q))) = P ++ (X ++ (Y ++ Q)) := by rw [hx0, ← qak (Y.take (i - m)), qax]; rfl
    refine ⟨P, Y.take (i - m), hA.hP, by rw [qao]; omega, ?_, ?_, ?_⟩
    ·rw [e]; have := hA.hlen; simpa using this
    ·rw [e, ← Hdk.out]; exact S1.out
    ·rw [← hT]; simp)
   generalize Y.drop (i - m) ++ Q = V at Hst
   have hi1 : (1 : Int) ≤ (i : Int) := by omega
   clear S1 H1 H2 Hmono HA Hdk hT Hs
   go_wp2
   go_loopg [13] (i - a) (fun gk vk wr => ∃ kk : Nat, vk = .int .i64 kk ∧ a ≤ kk ∧ kk + 1 ≤ i ∧ i - kk ≤ gk ∧ Hid (∃ P' U : List α, P'.length = kk ∧ U.length = i - 1 - kk ∧ (P' ++ (x0 :: (U ++ V))).length = len ∧ SWK enc k w0 blk off (P' ++ (x0 :: (U ++ V))).toArray wr ∧ P' ++ (U ++ (x0 :: V)) = T))
   case atStart => exact ⟨a, rfl, qaf _, by omega, by omega, Hst⟩
   case round =>
    obtain ⟨kk, rfl, hk1, hk2, hg2, Hb⟩ := hrel
    clear Hst
    by_cases hlt2 : kk + 1 < i
    ·have hlz2 : (kk : Int) < (i : Int) - 1 := by omega
     obtain ⟨q, hq⟩ : ∃ q, kk + 1 = q := ⟨_, rfl⟩
     have hqz : (kk : Int) + 1 = (q : Int) := by omega
     obtain ⟨P', U, u1, u2, u3, S1, u4⟩ := Hb.out
     clear Hb
     cases U with
     | nil => simp at u2; omega
     | cons y U2 =>
     have hsw := yfL P' [] (U2 ++ V) x0 y kk q (by omega) (by simp; omega)
     have ha : P' ++ (x0 :: (y :: U2 ++ V)) = P' ++ x0 :: ([] ++ y :: (U2 ++ V)) := by simp
     rw [ha] at S1 u3
     have hds : (P' ++ x0 :: ([] ++ y :: (U2 ++ V))).toArray.size = d0.size := by rw [qaA, u3, Hd.out]
     have hdl : (P' ++ x0 :: ([] ++ y :: (U2 ++ V))).toArray.size = len := by rw [qaA, u3]
     have Hnew : Hid (∀ W, SWK enc k w0 blk off (swp (P' ++ x0 :: ([] ++ y :: (U2 ++ V))).toArray kk q) W → ∃ P' U : List α, P'.length = kk + 1 ∧ U.length = i - 1 - (kk + 1) ∧ (P' ++ (x0 :: (U ++ V))).length = len ∧ SWK enc k w0 blk off (P' ++ (x0 :: (U ++ V))).toArray W ∧ P' ++ (U ++ (x0 :: V)) = T) := qaa fun W SW => by
      rw [hsw] at SW
      refine ⟨P' ++ [y], U2, by simp [u1], by simp at u2; omega, by rw [← u3]; simp <;> omega, by simpa using SW, by rw [← u4]; simp⟩
     generalize (P' ++ x0 :: ([] ++ y :: (U2 ++ V))).toArray = dj at *
     clear ha u1 u2 u3 u4 hsw
     have S2 : Aside (SWK enc k w0 blk off dj wr) := S1
     clear S1
     have eA : ((kk : Int)).toNat = kk := by omega
     have pA : (0 : Int) ≤ (kk : Int) := by omega
     have bA : (kk : Int) < (len : Int) := by omega
     have rA : IntKind.i64.wrap ((kk : Int)) = (kk : Int) := by rw [qai]; omega
     have eB : ((q : Int)).toNat = q := by omega
     have pB : (0 : Int) ≤ (q : Int) := by omega
     have bB : (q : Int) < (len : Int) := by omega
     have rB : IntKind.i64.wrap ((q : Int)) = (q : Int) := by rw [qai]; omega
     have S3 : Aside (SWK enc k w0 blk off (swp dj kk q) ((wr.drew.setCells blk (off + kk * k) (enc dj[q]!)).setCells blk (off + q * k) (enc dj[kk]!))) := S2.out.swapped HR.out kk q (by omega) (by omega)
     have lA := S2.out.ld1 HR.out hds P0 kk (by omega)
     have lB := S2.out.ld1 HR.out hds P0 q (by omega)
     have sA := S2.out.st1 HR.out hds P0 kk (by omega) dj[q]!
     have sB := S2.out.st2 HR.out hds P0 kk q (by omega) (by omega) dj[q]! dj[kk]!
     have nA : (enc dj[kk]!).length = k := HR.out.hk _
     have nB : (enc dj[q]!).length = k := HR.out.hk _
     generalize enc dj[kk]! = cI at S3 lA sB nA
     generalize enc dj[q]! = cJ at S3 lB sA sB nB
     clear S2
     go_wp2_with fail
     go_big_region_o
     clear lA lB sA sB
     generalize (wr.drew.setCells blk (off + kk * k) cJ).setCells blk (off + q * k) cI = w2 at S3 ⊢
     go_wp2
     go_roundg (i - (kk + 1))
     case measure => omega
     case rel => exact ⟨kk + 1, by go_num, by omega, by omega, by omega, qaa (Hnew.out _ S3.out)⟩
    ·have hlz2 : ¬ (kk : Int) < (i : Int) - 1 := by omega
     go_wp2
     (try simp only [Exit.inBlock, Exit.then])
     refine qaN (results_none rfl _ _ _) rfl ?_
     refine ⟨rfl, Hend.out _ ?_⟩
     obtain ⟨P', U, u1, u2, u3, S1, u4⟩ := Hb.out
     have e : U = [] := qaz.1 (by omega)
     subst e
     rw [← u4]
     exact S1
end
section
variable {P0 : Program} {k : Nat} {α : Type} [Inhabited α] {enc : α → List Value} {w0 : World} {blk off : Nat} {d0 : Array α} {cf : α → α → Int} {no : α → Nat}
theorem symm_two (L : yd9 P0 k) (hO : SWO (ltOf cf)) (g : Nat) (cb : Array Value) (P X Y Q : List α) (a m b len cap : Nat) (w : World) (eg : ∀ args w, (callFunc g args).run P0 w = .ok (.enter g args) w) (hC : CmpLays P0 g cb enc k cf blk off len w0)
  (y0 : α) (hy0 : Y = [y0]) (hX0 : 1 < X.length) (hA : Both (ltOf cf) no P X Y Q (P ++ (X ++ (Y ++ Q))).toArray a m b len) (hsz : len < 4611686018427387904)
  (R : RowK enc k w0 blk off d0) (hd : d0.size = len) (S : SWK enc k w0 blk off (P ++ (X ++ (Y ++ Q))).toArray w) :
  Calls P0 206 #[.slice (some ⟨blk, off, none⟩) len cap, .int .i64 a, .int .i64 m, .int .i64 b, .func (.func g) #[] cb] w fun e w' =>
   e = .returned (.tuple #[]) ∧ ∃ Z, Z.Perm (X ++ Y) ∧ Z.Pairwise (sord (ltOf cf) no) ∧ SWK enc k w0 blk off (P ++ (Z ++ Q)).toArray w' := by
 have HA := qaa hA
 have Hd := qaa hd
 have HO := qaa hO
 have HR : Aside (RowK enc k w0 blk off d0) := R
 have HC : Aside (CmpLays P0 g cb enc k cf blk off len w0) := hC
 obtain ⟨dk, hdk⟩ : ∃ dk, dk = (P ++ (X ++ (Y ++ Q))).toArray := ⟨_, rfl⟩
 have S0 : Aside (SWK enc k w0 blk off dk w) := by rw [hdk]; exact S
 have Hdk := qaa hdk
 have Hs : Hid (dk.size = len) := qaa (by rw [hdk]; exact hA.hlen)
 have hnum : a + 1 < m ∧ b = m + 1 ∧ b ≤ len := by have h1 := hA.size; have h2 := hA.hX; have h3 := hA.hY; have h4 : Y.length = 1 := (by rw [hy0]; rfl); omega
 have hx1 : dk[m]! = y0 := by
  rw [hdk, hy0, ← qak]
  exact ycX (P ++ X) _ y0 m (by rw [qae, hA.hP, hA.hX])
 have Hmono : Hid (∀ s t, a ≤ s → s ≤ t → t < m → ltOf cf y0 dk[t]! = false → ltOf cf y0 dk[s]! = false) := qaa fun s t h1 h2 h3 k => by
  rw [hdk] at *
  exact hA.left.ge_down hO s t h1 h2 h3 k
 clear hdk S hC R hd hA hO
 have mixed := L.mixed; have aE := L.aE; have zE := L.zE; have t0 := L.t0; have a0 := L.a0; have z0 := L.z0; have v0 := L.v0; have t3 := L.t3; have a3 := L.a3; have z3 := L.z3; have v3 := L.v3; have t4 := L.t4; have a4 := L.a4; have z4 := L.z4; have v4 := L.v4; have tS := L.tS; have aS := L.aS; have zS := L.zS; have vS := L.vS; have tF := L.tF; have aF := L.aF; have zF := L.zF; have vF := L.vF; have tU := L.tU; have aU := L.aU; have zU := L.zU; have vU := L.vU
 have uS := qbe L.tS; have uU := qbe L.tU; have u3 := qbe L.t3
 have FG := L.fsy
 clear L
 obtain ⟨hma, hmb, hbl⟩ := hnum
 have q1 : (b : Int) - (m : Int) = 1 := by omega
 have hma1 : m < b := by omega
 have hma2 : b ≤ m + 1 := by omega
 clear hmb
 have q1b : (((b : Int) - (m : Int)) == 1) = true := by rw [q1]; decide
 have q0b : (((m : Int) - (a : Int)) == 1) = false := by simp; omega
 go_enter FG, ntmps206
 go_wp2
 clear q0b
 clear q1 q1b
 go_loopg [14, 15, 16] (m - a) (fun gk vi vj vh wr => ∃ i j : Nat, vi = .int .i64 i ∧ vj = .int .i64 j ∧ a ≤ i ∧ i ≤ j ∧ j ≤ m ∧ j - i ≤ gk ∧ Aside (SWK enc k w0 blk off dk wr) ∧ Hid (∀ t, a ≤ t → t < i → ltOf cf y0 dk[t]! = false) ∧ Hid (∀ t, j ≤ t → t < m → ltOf cf y0 dk[t]! = true))
 case atStart => exact ⟨a, m, rfl, rfl, qaf _, by omega, qaf _, by omega, S0, fun t _ _ => by omega, fun t _ _ => by omega⟩
 case round =>
  obtain ⟨i, j, rfl, rfl, hi, hij, hjb, hg, S1, H1, H2⟩ := hrel
  clear S0
  by_cases hlt : i < j
  ·have hlz : (i : Int) < (j : Int) := by omega
   obtain ⟨h, hh⟩ : ∃ h, (i + j) / 2 = h := ⟨_, rfl⟩
   have sh : ((i : Int) + (j : Int)) / 2 = (h : Int) := by omega
   cases hlv : ltOf cf dk[m]! dk[h]! with
   | false =>
    have eA : ((m : Int)).toNat = m := by omega
    have pA : (0 : Int) ≤ (m : Int) := by omega
    have bA : (m : Int) < (len : Int) := by omega
    have rA : IntKind.i64.wrap ((m : Int)) = (m : Int) := by rw [qai]; omega
    have eB : ((h : Int)).toNat = h := by omega
    have pB : (0 : Int) ≤ (h : Int) := by omega
    have bB : (h : Int) < (len : Int) := by omega
    have rB : IntKind.i64.wrap ((h : Int)) = (h : Int) := by rw [qai]; omega
    obtain ⟨xv, hxv⟩ : ∃ x, x = dk[m]! := ⟨_, rfl⟩
    obtain ⟨yv, hyv⟩ : ∃ x, x = dk[h]! := ⟨_, rfl⟩
    have lA := S1.out.ld HR.out (by have := Hd.out; have := Hs.out; omega) P0 m (by have := Hs.out; omega)
    have lB := S1.out.ld HR.out (by have := Hd.out; have := Hs.out; omega) P0 h (by have := Hs.out; omega)
    rw [← hxv] at lA
    rw [← hyv] at lB
    have hC := S1.out.cmp HC.out Hs.out xv yv
    have hv : ¬ cf xv yv < 0 := by rw [hxv, hyv]; exact of_decide_eq_false hlv
    have hdv : decide (cf xv yv < 0) = false := qbv hv
    clear hxv hyv
    go_wp2_with fail
    go_quiet_grown (first | (go_at_fn g; refine Calls.grown_of (hC _ _)))
    have S2 : Aside (SWK enc k w0 blk off dk (Sort.grow (wr.drewN nq) osq)) := S1.out.grown nq osq
    clear lA lB hC S1
    generalize Sort.grow (wr.drewN nq) osq = wv at S2 ⊢
    clear nq osq
    go_wp2
    go_roundg (j - (h + 1))
    case measure => omega
    case rel => exact ⟨h + 1, j, by go_num, rfl, by omega, by omega, hjb, by omega, S2, fun t t1 t2 => Hmono.out t h t1 (by omega) (by omega) (by rw [← hx1]; exact hlv), H2.out⟩
   | true =>
    have eA : ((m : Int)).toNat = m := by omega
    have pA : (0 : Int) ≤ (m : Int) := by omega
    have bA : (m : Int) < (len : Int) := by omega
    have rA : IntKind.i64.wrap ((m : Int)) = (m : Int) := by rw [qai]; omega
    have eB : ((h : Int)).toNat = h := by omega
    have pB : (0 : Int) ≤ (h : Int) := by omega
    have bB : (h : Int) < (len : Int) := by omega
    have rB : IntKind.i64.wrap ((h : Int)) = (h : Int) := by rw [qai]; omega
    obtain ⟨xv, hxv⟩ : ∃ x, x = dk[m]! := ⟨_, rfl⟩
    obtain ⟨yv, hyv⟩ : ∃ x, x = dk[h]! := ⟨_, rfl⟩
    have lA := S1.out.ld HR.out (by have := Hd.out; have := Hs.out; omega) P0 m (by have := Hs.out; omega)
    have lB := S1.out.ld HR.out (by have := Hd.out; have := Hs.out; omega) P0 h (by have := Hs.out; omega)
    rw [← hxv] at lA
    rw [← hyv] at lB
    have hC := S1.out.cmp HC.out Hs.out xv yv
    have hv : cf xv yv < 0 := by rw [hxv, hyv]; exact qbo hlv
    have hdv : decide (cf xv yv < 0) = true := qaP hv
    clear hxv hyv
    go_wp2_with fail
    go_quiet_grown (first | (go_at_fn g; refine Calls.grown_of (hC _ _)))
    have S2 : Aside (SWK enc k w0 blk off dk (Sort.grow (wr.drewN nq) osq)) := S1.out.grown nq osq
    clear lA lB hC S1
    generalize Sort.grow (wr.drewN nq) osq = wv at S2 ⊢
    clear nq osq
    go_wp2
    go_roundg (h - i)
    case measure => omega
    case rel => exact ⟨i, h, rfl, rfl, hi, by omega, by omega, by omega, S2, H1.out, fun t t1 t2 => by
     cases e : ltOf cf y0 dk[t]! with
     | true => rfl
     | false => have := Hmono.out h t (by omega) t1 t2 e; rw [← hx1, hlv] at this; cases this⟩
  ·have hlz : ¬ (i : Int) < (j : Int) := by omega
   obtain rfl : i = j := by omega
   obtain ⟨T, hT⟩ : ∃ T, P ++ ((X.take (i - a) ++ y0 :: X.drop (i - a)) ++ Q) = T := ⟨_, rfl⟩
   have Hend : Hid (∀ W, SWK enc k w0 blk off T.toArray W → ∃ Z, Z.Perm (X ++ [y0]) ∧ Z.Pairwise (sord (ltOf cf) no) ∧ SWK enc k w0 blk off (P ++ (Z ++ Q)).toArray W) := qaa fun W SW => by
    have hA := HA.out
    have g1 := hA.take_left (fun y => ltOf cf y0 y = false) i hjb fun t t1 t2 => by rw [← Hdk.out]; exact H1.out t t1 t2
    have g2 := hA.drop_left (fun y => ltOf cf y0 y = true) i hi fun t t1 t2 => by rw [← Hdk.out]; exact H2.out t t1 t2
    have hX := hA.oX
    have hn := hA.hno
    rw [← qax (i - a) X] at hX hn
    obtain ⟨o1, o2, o3⟩ := qa2.1 hX
    refine ⟨X.take (i - a) ++ y0 :: X.drop (i - a), ?_, ?_, by rw [hT]; exact SW⟩
    ·refine List.perm_middle.trans ?_
     rw [qax]
     exact List.perm_append_comm (l₁ := [y0])
    ·rw [qa2]
     refine ⟨o1, qa7.2 ⟨fun y hy => qas (g2 y hy), o2⟩, ?_⟩
     intro u hu v hv
     rcases qaB.1 hv with e | hv
     ·rw [e]; exact qaK ⟨g1 u hu, hn u (qbu _ hu) y0 (by rw [hy0]; simp)⟩
     ·exact o3 u hu v hv
   have Hst : Hid (∃ U V : List α, i + U.length = m ∧ ((P ++ X.take (i - a)) ++ (U ++ (y0 :: V))).length = len ∧ SWK enc k w0 blk off ((P ++ X.take (i - a)) ++ (U ++ (y0 :: V))).toArray wr ∧ (P ++ X.take (i - a)) ++ (y0 :: (U ++ V)) = T) := qaa (by
    have hA := HA.out
    have hXl := hA.hX
    have e : (P ++ X.take (i - a)) ++ (X.drop (i - a) ++ (y0 :: Q)) = P ++ (X ++ (Y ++ Q)) := by rw [hy0, qak, ← qak (X.take (i - a)), qax]; rfl
    refine ⟨X.drop (i - a), Q, by rw [qat]; omega, ?_, ?_, ?_⟩
    ·rw [e]; have := hA.hlen; simpa using this
    ·rw [e, ← Hdk.out]; exact S1.out
    ·rw [← hT]; simp)
   have hPl : (P ++ X.take (i - a)).length = i := by have := HA.out.hP; have := HA.out.hX; rw [qae, qao]; omega
   generalize P ++ X.take (i - a) = P1 at Hst hPl
   clear S1 H1 H2 Hmono HA Hdk hT Hs
   go_wp2
   go_loopg [17] (m - i) (fun gk vk wr => ∃ kk : Nat, vk = .int .i64 kk ∧ i ≤ kk ∧ kk ≤ m ∧ kk - i ≤ gk ∧ Hid (∃ U V : List α, i + U.length = kk ∧ (P1 ++ (U ++ (y0 :: V))).length = len ∧ SWK enc k w0 blk off (P1 ++ (U ++ (y0 :: V))).toArray wr ∧ P1 ++ (y0 :: (U ++ V)) = T))
   case atStart => exact ⟨m, rfl, hjb, qaf _, by omega, Hst⟩
   case round =>
    obtain ⟨kk, rfl, hk1, hk2, hg2, Hb⟩ := hrel
    clear Hst
    by_cases hlt2 : i < kk
    ·have hlz2 : (i : Int) < (kk : Int) := by omega
     obtain ⟨q, hq⟩ : ∃ q, q + 1 = kk := ⟨kk - 1, by omega⟩
     have hqz : (kk : Int) - 1 = (q : Int) := by omega
     have hqw : IntKind.i64.wrap ((kk : Int) - 1) = (q : Int) := by rw [qai]; omega
     obtain ⟨U, V, u2, u3, S1, u4⟩ := Hb.out
     clear Hb
     obtain ⟨U2, y, rfl⟩ : ∃ U2 y, U = U2 ++ [y] := by
      rcases List.eq_nil_or_concat U with e | ⟨U2, y, e⟩
      ·rw [e] at u2; simp at u2; omega
      ·exact ⟨U2, y, by simpa using e⟩
     have hul : (P1 ++ U2).length = q := by rw [qae]; rw [qae] at u2; simp at u2; omega
     have hsw := yfL (P1 ++ U2) [] V y y0 q kk hul.symm (by rw [hul]; simp; omega)
     have ha : P1 ++ ((U2 ++ [y]) ++ (y0 :: V)) = (P1 ++ U2) ++ y :: ([] ++ y0 :: V) := by simp
     rw [ha] at S1 u3
     have hds : ((P1 ++ U2) ++ y :: ([] ++ y0 :: V)).toArray.size = d0.size := by rw [qaA, u3, Hd.out]
     have hdl : ((P1 ++ U2) ++ y :: ([] ++ y0 :: V)).toArray.size = len := by rw [qaA, u3]
     rw [swp_comm' _ _ _ (by omega) (by omega)] at hsw
     have Hnew : Hid (∀ W, SWK enc k w0 blk off (swp ((P1 ++ U2) ++ y :: ([] ++ y0 :: V)).toArray kk q) W → ∃ U V : List α, i + U.length = q ∧ (P1 ++ (U ++ (y0 :: V))).length = len ∧ SWK enc k w0 blk off (P1 ++ (U ++ (y0 :: V))).toArray W ∧ P1 ++ (y0 :: (U ++ V)) = T) := qaa fun W SW => by
      rw [hsw] at SW
      refine ⟨U2, y :: V, by rw [qae] at hul; omega, by rw [← u3]; simp, by simpa using SW, by rw [← u4]; simp⟩
     generalize ((P1 ++ U2) ++ y :: ([] ++ y0 :: V)).toArray = dj at *
     clear ha u2 u3 u4 hsw
     have S2 : Aside (SWK enc k w0 blk off dj wr) := S1
     clear S1
     have eA : ((kk : Int)).toNat = kk := by omega
     have pA : (0 : Int) ≤ (kk : Int) := by omega
     have bA : (kk : Int) < (len : Int) := by omega
     have rA : IntKind.i64.wrap ((kk : Int)) = (kk : Int) := by rw [qai]; omega
     have eB : ((q : Int)).toNat = q := by omega
     have pB : (0 : Int) ≤ (q : Int) := by omega
     have bB : (q : Int) < (len : Int) := by omega
     have rB : IntKind.i64.wrap ((q : Int)) = (q : Int) := by rw [qai]; omega
     have S3 : Aside (SWK enc k w0 blk off (swp dj kk q) ((wr.drew.setCells blk (off + kk * k) (enc dj[q]!)).setCells blk (off + q * k) (enc dj[kk]!))) := S2.out.swapped HR.out kk q (by omega) (by omega)
     have lA := S2.out.ld1 HR.out hds P0 kk (by omega)
     have lB := S2.out.ld1 HR.out hds P0 q (by omega)
     have sA := S2.out.st1 HR.out hds P0 kk (by omega) dj[q]!
     have sB := S2.out.st2 HR.out hds P0 kk q (by omega) (by omega) dj[q]! dj[kk]!
     have nA : (enc dj[kk]!).length = k := HR.out.hk _
     have nB : (enc dj[q]!).length = k := HR.out.hk _
     generalize enc dj[kk]! = cI at S3 lA sB nA
     generalize enc dj[q]! = cJ at S3 lB sA sB nB
     clear S2
     go_wp2_with fail
     go_big_region_o
     clear lA lB sA sB
     generalize (wr.drew.setCells blk (off + kk * k) cJ).setCells blk (off + q * k) cI = w2 at S3 ⊢
     go_wp2
     go_roundg (q - i)
     case measure => omega
     case rel => exact ⟨q, by first | rfl | go_num, by omega, by omega, by omega, qaa (Hnew.out _ S3.out)⟩
    ·have hlz2 : ¬ (i : Int) < (kk : Int) := by omega
     go_wp2
     (try simp only [Exit.inBlock, Exit.then])
     refine qaN (results_none rfl _ _ _) rfl ?_
     refine ⟨rfl, Hend.out _ ?_⟩
     obtain ⟨U, V, u2, u3, S1, u4⟩ := Hb.out
     have e : U = [] := qaz.1 (by omega)
     subst e
     rw [← u4]
     exact S1
end
section
variable {P0 : Program} {k : Nat} {α : Type} [Inhabited α] {enc : α → List Value} {w0 : World} {blk off : Nat} {d0 : Array α} {cf : α → α → Int} {no : α → Nat}
def SymmAt (P0 : Program) (k : Nat) (enc : α → List Value) (w0 : World) (blk off : Nat) (cf : α → α → Int) (no : α → Nat) (g : Nat) (cb : Array Value) (len cap : Nat) (sz : Nat) : Prop :=
 ∀ (P X Y Q : List α) (a m b : Nat) (w : World), X.length + Y.length ≤ sz → 0 < X.length → 0 < Y.length → Both (ltOf cf) no P X Y Q (P ++ (X ++ (Y ++ Q))).toArray a m b len → SWK enc k w0 blk off (P ++ (X ++ (Y ++ Q))).toArray w →
  Calls P0 206 #[.slice (some ⟨blk, off, none⟩) len cap, .int .i64 a, .int .i64 m, .int .i64 b, .func (.func g) #[] cb] w fun e w' =>
   e = .returned (.tuple #[]) ∧ ∃ Z, Z.Perm (X ++ Y) ∧ Z.Pairwise (sord (ltOf cf) no) ∧ SWK enc k w0 blk off (P ++ (Z ++ Q)).toArray w'
theorem symm_step (L : yd9 P0 k) (hO : SWO (ltOf cf)) (g : Nat) (cb : Array Value) (len cap : Nat) (eg : ∀ args w, (callFunc g args).run P0 w = .ok (.enter g args) w) (hC : CmpLays P0 g cb enc k cf blk off len w0)
  (hsz : len < 4611686018427387904) (R : RowK enc k w0 blk off d0) (hd : d0.size = len) (sz : Nat) (ih : SymmAt P0 k enc w0 blk off cf no g cb len cap sz)
  (P X Y Q : List α) (a m b : Nat) (w : World) (hz : X.length + Y.length ≤ sz + 1) (hX0 : 1 < X.length) (hY0 : 1 < Y.length) (hA : Both (ltOf cf) no P X Y Q (P ++ (X ++ (Y ++ Q))).toArray a m b len) (S : SWK enc k w0 blk off (P ++ (X ++ (Y ++ Q))).toArray w) :
  Calls P0 206 #[.slice (some ⟨blk, off, none⟩) len cap, .int .i64 a, .int .i64 m, .int .i64 b, .func (.func g) #[] cb] w fun e w' =>
   e = .returned (.tuple #[]) ∧ ∃ Z, Z.Perm (X ++ Y) ∧ Z.Pairwise (sord (ltOf cf) no) ∧ SWK enc k w0 blk off (P ++ (Z ++ Q)).toArray w' := by
 have HL := qaa L
 have IH := qaa ih
 have HA := qaa hA
 have Hd := qaa hd
 have HO := qaa hO
 have Hz : Hid (X.length + Y.length ≤ sz + 1) := hz
 have HR : Aside (RowK enc k w0 blk off d0) := R
 have HC : Aside (CmpLays P0 g cb enc k cf blk off len w0) := hC
 obtain ⟨dk, hdk⟩ : ∃ dk, dk = (P ++ (X ++ (Y ++ Q))).toArray := ⟨_, rfl⟩
 have S0 : Aside (SWK enc k w0 blk off dk w) := by rw [hdk]; exact S
 have Hdk := qaa hdk
 have Hs : Hid (dk.size = len) := qaa (by rw [hdk]; exact hA.hlen)
 have hnum : a + 1 < m ∧ m + 1 < b ∧ b ≤ len := by have h1 := hA.size; have h2 := hA.hX; have h3 := hA.hY; omega
 clear hdk S hC R hd hO ih hz hX0 hY0
 have mixed := L.mixed; have aE := L.aE; have zE := L.zE; have t0 := L.t0; have a0 := L.a0; have z0 := L.z0; have v0 := L.v0; have t3 := L.t3; have a3 := L.a3; have z3 := L.z3; have v3 := L.v3; have t4 := L.t4; have a4 := L.a4; have z4 := L.z4; have v4 := L.v4; have tS := L.tS; have aS := L.aS; have zS := L.zS; have vS := L.vS; have tF := L.tF; have aF := L.aF; have zF := L.zF; have vF := L.vF; have tU := L.tU; have aU := L.aU; have zU := L.zU; have vU := L.vU
 have uS := qbe L.tS; have uU := qbe L.tU; have u3 := qbe L.t3
 have esy : ∀ args w, (callFunc 206 args).run P0 w = .ok (.enter 206 args) w := enters_of L.fsy (by kernel_rfl) rfl
 have ero : ∀ args w, (callFunc 209 args).run P0 w = .ok (.enter 209 args) w := enters_of L.fro (by kernel_rfl) rfl
 have FG := L.fsy
 clear L
 obtain ⟨hma, hmb, hbl⟩ := hnum
 have q1 : (((m : Int) - (a : Int)) == 1) = false := by simp; omega
 have q2 : (((b : Int) - (m : Int)) == 1) = false := by simp; omega
 obtain ⟨mid, hmid⟩ : ∃ mid, (a + b) / 2 = mid := ⟨_, rfl⟩
 have zmid : ((a : Int) + (b : Int)) / 2 = (mid : Int) := by omega
 have hm1 : 2 * mid ≤ a + b := by omega
 have hm2 : a + b ≤ 2 * mid + 1 := by omega
 clear hmid
 obtain ⟨n, hn⟩ : ∃ n, mid + m = n := ⟨_, rfl⟩
 have zn : (mid : Int) + (m : Int) = (n : Int) := by omega
 obtain ⟨pp, hpp⟩ : ∃ pp, pp + 1 = n := ⟨n - 1, by omega⟩
 have zpp : (n : Int) - 1 = (pp : Int) := by omega
 have Hturn : Hid (∀ c d, c ≤ d → a ≤ c → d < m → m ≤ pp - d → pp - c < b → ltOf cf dk[pp - d]! dk[d]! = false → ltOf cf dk[pp - c]! dk[c]! = false) := qaa fun c d h1 h2 h3 h4 h5 h6 => by
  rw [Hdk.out] at *
  exact hA.turns HO.out pp c d h1 h2 h3 h4 h5 h6
 clear hA
 by_cases hgt : mid < m
 ·have hgz : (mid : Int) < (m : Int) := by omega
  obtain ⟨c0, hc0⟩ : ∃ c0, c0 + b = n := ⟨n - b, by omega⟩
  have zc0 : (n : Int) - (b : Int) = (c0 : Int) := by omega
  obtain ⟨r0, hr0⟩ : ∃ r0, r0 = mid := ⟨_, rfl⟩
  have hcase : (mid < m ∧ mid + m = c0 + b ∧ r0 = mid) ∨ (m ≤ mid ∧ c0 = a ∧ r0 = m) := qas ⟨by omega, by omega, hr0⟩
  have Hcase := qaa hcase
  have hc1 : a ≤ c0 ∧ c0 ≤ r0 ∧ r0 ≤ m ∧ r0 ≤ mid := by omega
  clear hcase
  go_enter FG, ntmps206
  go_wp2
  clear q1 q2
  go_loopg [20, 21, 23] (r0 - c0) (fun gk vi vj vh wr => ∃ i j : Nat, vi = .int .i64 i ∧ vj = .int .i64 j ∧ c0 ≤ i ∧ i ≤ j ∧ j ≤ r0 ∧ j - i ≤ gk ∧ Aside (SWK enc k w0 blk off dk wr) ∧ Hid (∀ c, c0 ≤ c → c < i → ltOf cf dk[pp - c]! dk[c]! = false) ∧ Hid (∀ c, i ≤ c → j ≤ c → c < r0 → ltOf cf dk[pp - c]! dk[c]! = true))
  case atStart => exact ⟨c0, mid, rfl, rfl, by omega, by omega, by omega, by omega, S0, fun t _ _ => by omega, fun t _ _ _ => by omega⟩
  case round =>
   obtain ⟨i, j, rfl, rfl, hi, hij, hjb, hg, S1, H1, H2⟩ := hrel
   clear S0
   by_cases hlt : i < j
   ·have hlz : (i : Int) < (j : Int) := by omega
    obtain ⟨h, hh⟩ : ∃ h, (i + j) / 2 = h := ⟨_, rfl⟩
    have sh : ((i : Int) + (j : Int)) / 2 = (h : Int) := by omega
    obtain ⟨pc, hpc⟩ : ∃ pc, pc + h = pp := ⟨pp - h, by omega⟩
    have zpc : (pp : Int) - (h : Int) = (pc : Int) := by omega
    have epc : pp - h = pc := by omega
    cases hlv : ltOf cf dk[pc]! dk[h]! with
    | false =>
     have eA : ((pc : Int)).toNat = pc := by omega
     have pA : (0 : Int) ≤ (pc : Int) := by omega
     have bA : (pc : Int) < (len : Int) := by omega
     have rA : IntKind.i64.wrap ((pc : Int)) = (pc : Int) := by rw [qai]; omega
     have eB : ((h : Int)).toNat = h := by omega
     have pB : (0 : Int) ≤ (h : Int) := by omega
     have bB : (h : Int) < (len : Int) := by omega
     have rB : IntKind.i64.wrap ((h : Int)) = (h : Int) := by rw [qai]; omega
     obtain ⟨xv, hxv⟩ : ∃ x, x = dk[pc]! := ⟨_, rfl⟩
     obtain ⟨yv, hyv⟩ : ∃ x, x = dk[h]! := ⟨_, rfl⟩
     have lA := S1.out.ld HR.out (by have := Hd.out; have := Hs.out; omega) P0 pc (by have := Hs.out; omega)
     have lB := S1.out.ld HR.out (by have := Hd.out; have := Hs.out; omega) P0 h (by have := Hs.out; omega)
     rw [← hxv] at lA
     rw [← hyv] at lB
     have hC := S1.out.cmp HC.out Hs.out xv yv
     have hv : ¬ cf xv yv < 0 := by rw [hxv, hyv]; exact of_decide_eq_false hlv
     have hdv : decide (cf xv yv < 0) = false := qbv hv
     clear hxv hyv
     go_wp2_with fail
     go_quiet_grown (first | (go_at_fn g; refine Calls.grown_of (hC _ _)))
     have S2 : Aside (SWK enc k w0 blk off dk (Sort.grow (wr.drewN nq) osq)) := S1.out.grown nq osq
     clear lA lB hC S1
     generalize Sort.grow (wr.drewN nq) osq = wv at S2 ⊢
     clear nq osq
     go_wp2
     go_roundg (j - (h + 1))
     case measure => omega
     case rel => exact ⟨h + 1, j, by go_num, rfl, by omega, by omega, hjb, by omega, S2, fun t t1 t2 => Hturn.out t h (by omega) (by omega) (by omega) (by omega) (by omega) (by rw [epc]; exact hlv), fun c c1 c2 c3 => H2.out c (by omega) c2 c3⟩
    | true =>
     have eA : ((pc : Int)).toNat = pc := by omega
     have pA : (0 : Int) ≤ (pc : Int) := by omega
     have bA : (pc : Int) < (len : Int) := by omega
     have rA : IntKind.i64.wrap ((pc : Int)) = (pc : Int) := by rw [qai]; omega
     have eB : ((h : Int)).toNat = h := by omega
     have pB : (0 : Int) ≤ (h : Int) := by omega
     have bB : (h : Int) < (len : Int) := by omega
     have rB : IntKind.i64.wrap ((h : Int)) = (h : Int) := by rw [qai]; omega
     obtain ⟨xv, hxv⟩ : ∃ x, x = dk[pc]! := ⟨_, rfl⟩
     obtain ⟨yv, hyv⟩ : ∃ x, x = dk[h]! := ⟨_, rfl⟩
     have lA := S1.out.ld HR.out (by have := Hd.out; have := Hs.out; omega) P0 pc (by have := Hs.out; omega)
     have lB := S1.out.ld HR.out (by have := Hd.out; have := Hs.out; omega) P0 h (by have := Hs.out; omega)
     rw [← hxv] at lA
     rw [← hyv] at lB
     have hC := S1.out.cmp HC.out Hs.out xv yv
     have hv : cf xv yv < 0 := by rw [hxv, hyv]; exact qbo hlv
     have hdv : decide (cf xv yv < 0) = true := qaP hv
     clear hxv hyv
     go_wp2_with fail
     go_quiet_grown (first | (go_at_fn g; refine Calls.grown_of (hC _ _)))
     have S2 : Aside (SWK enc k w0 blk off dk (Sort.grow (wr.drewN nq) osq)) := S1.out.grown nq osq
     clear lA lB hC S1
     generalize Sort.grow (wr.drewN nq) osq = wv at S2 ⊢
     clear nq osq
     go_wp2
     go_roundg (h - i)
     case measure => omega
     case rel => exact ⟨i, h, rfl, rfl, hi, by omega, by omega, by omega, S2, H1.out, fun t t1 t2 t3 => by
      cases e : ltOf cf dk[pp - t]! dk[t]! with
      | true => rfl
      | false => have := Hturn.out h t t2 (by omega) (by omega) (by omega) (by omega) e; rw [epc, hlv] at this; cases this⟩
   ·have hlz : ¬ (i : Int) < (j : Int) := by omega
    obtain rfl : i = j := by omega
    obtain ⟨stop, hstop⟩ : ∃ stop, i + stop = n := ⟨n - i, by omega⟩
    have zstop : (n : Int) - (i : Int) = (stop : Int) := by omega
    have hst : m ≤ stop ∧ stop ≤ b := by omega
    have Hcut := qaa (HA.out.cut HO.out i stop c0 r0 mid hi hjb (by omega) Hcase.out (by omega) (fun c c1 c2 => by rw [← Hdk.out, show mid + m - 1 - c = pp - c from by omega]; exact H1.out c c1 c2) (fun c c1 c2 => by rw [← Hdk.out, show mid + m - 1 - c = pp - c from by omega]; exact H2.out c c1 c1 c2))
    have hX := HA.out.hX
    have hY := HA.out.hY
    have hPl := HA.out.hP
    have hlX : (X.take (i - a)).length = i - a ∧ (X.drop (i - a)).length = m - i := by rw [qao, qat]; omega
    have hlY : (Y.take (stop - m)).length = stop - m ∧ (Y.drop (stop - m)).length = b - stop := by rw [qao, qat]; omega
    have eX : X.take (i - a) ++ X.drop (i - a) = X := qax _ _
    have eY : Y.take (stop - m) ++ Y.drop (stop - m) = Y := qax _ _
    generalize X.take (i - a) = X1 at *
    generalize X.drop (i - a) = X2 at *
    generalize Y.take (stop - m) = Y1 at *
    generalize Y.drop (stop - m) = Y2 at *
    subst eX eY
    have hA := HA.out
    have hsz2 := hA.size
    obtain ⟨oX1, oX2, oXX⟩ := qa2.1 hA.oX
    obtain ⟨oY1, oY2, oYY⟩ := qa2.1 hA.oY
    have hno := hA.hno
    have hzz := Hz.out
    simp only [qae] at hX hY hzz
    have Hrot : Hid ((i < m ∧ m < stop) → Calls P0 209 #[.slice (some ⟨blk, off, none⟩) len cap, .int .i64 i, .int .i64 m, .int .i64 stop, .func (.func g) #[] cb] wr fun e w' => e = .returned (.tuple #[]) ∧ SWK enc k w0 blk off (P ++ (X1 ++ (Y1 ++ (X2 ++ (Y2 ++ Q))))).toArray w') := qaa fun h => by
     have hs1 := S1.out
     rw [Hdk.out] at hs1
     have e2 : (P ++ X1) ++ (X2 ++ (Y1 ++ (Y2 ++ Q))) = P ++ ((X1 ++ X2) ++ ((Y1 ++ Y2) ++ Q)) := by simp
     refine (rotate_any HL.out g cb (P ++ X1) X2 Y1 (Y2 ++ Q) i m stop len cap wr (by rw [qae]; omega) (by omega) (by omega) (by omega) (by omega) (by rw [e2]; have := hA.hlen; simpa using this) hsz HR.out Hd.out (by rw [e2]; exact hs1)).mono ?_
     rintro e w' ⟨h1, h2⟩
     exact ⟨h1, by simpa using h2⟩
    have Hnot : Hid (¬ (i < m ∧ m < stop) → SWK enc k w0 blk off (P ++ (X1 ++ (Y1 ++ (X2 ++ (Y2 ++ Q))))).toArray wr) := qaa fun h => by
     have hs1 := S1.out
     rw [Hdk.out] at hs1
     have e2 : P ++ ((X1 ++ X2) ++ ((Y1 ++ Y2) ++ Q)) = P ++ (X1 ++ (Y1 ++ (X2 ++ (Y2 ++ Q)))) := by
      by_cases hx : X2.length = 0
      ·rw [qaz.1 hx]; simp
      ·have hy : Y1.length = 0 := by omega
       rw [qaz.1 hy]; simp
     rw [← e2]
     exact hs1
    have hlen0 : (P ++ (X1 ++ (Y1 ++ (X2 ++ (Y2 ++ Q))))).length = len := by have := hA.hlen; simp at this; simp; omega
    have Hrec1 : Hid ((a < i ∧ i < mid) → ∀ W, SWK enc k w0 blk off (P ++ (X1 ++ (Y1 ++ (X2 ++ (Y2 ++ Q))))).toArray W → Calls P0 206 #[.slice (some ⟨blk, off, none⟩) len cap, .int .i64 a, .int .i64 i, .int .i64 mid, .func (.func g) #[] cb] W fun e w' => e = .returned (.tuple #[]) ∧ ∃ A, A.Perm (X1 ++ Y1) ∧ A.Pairwise (sord (ltOf cf) no) ∧ SWK enc k w0 blk off (P ++ (A ++ (X2 ++ (Y2 ++ Q)))).toArray w') := qaa fun h W hW =>
     IH.out P X1 Y1 (X2 ++ (Y2 ++ Q)) a i mid W (by omega) (by omega) (by omega) ⟨rfl, hPl, by omega, by omega, by rw [qaA]; exact hlen0, oX1, oY1, fun x hx y hy => hno x (qbu _ hx) y (qbu _ hy)⟩ hW
    have Hnot1 : Hid (¬ (a < i ∧ i < mid) → ∀ W, SWK enc k w0 blk off (P ++ (X1 ++ (Y1 ++ (X2 ++ (Y2 ++ Q))))).toArray W → ∃ A, A.Perm (X1 ++ Y1) ∧ A.Pairwise (sord (ltOf cf) no) ∧ SWK enc k w0 blk off (P ++ (A ++ (X2 ++ (Y2 ++ Q)))).toArray W) := qaa fun h W hW => by
     refine ⟨X1 ++ Y1, qcx _, ?_, by simpa using hW⟩
     by_cases hx : X1.length = 0
     ·rw [qaz.1 hx]; exact oY1
     ·have hy : Y1.length = 0 := by omega
      rw [qaz.1 hy, qa8]; exact oX1
    have hfin : ∀ A B W, A.Perm (X1 ++ Y1) → A.Pairwise (sord (ltOf cf) no) → B.Perm (X2 ++ Y2) → B.Pairwise (sord (ltOf cf) no) → SWK enc k w0 blk off (P ++ (A ++ (B ++ Q))).toArray W → ∃ Z, Z.Perm ((X1 ++ X2) ++ (Y1 ++ Y2)) ∧ Z.Pairwise (sord (ltOf cf) no) ∧ SWK enc k w0 blk off (P ++ (Z ++ Q)).toArray W := fun A B W p1 s1 p2 s2 hW => by
     obtain ⟨m1, m2⟩ := merge_cut hA.oX hA.oY hno Hcut.out.1 Hcut.out.2 p1 p2 s1 s2
     exact ⟨A ++ B, m1, m2, by simpa using hW⟩
    have Hrec2 : Hid ((mid < stop ∧ stop < b) → ∀ W, (∃ A, A.Perm (X1 ++ Y1) ∧ A.Pairwise (sord (ltOf cf) no) ∧ SWK enc k w0 blk off (P ++ (A ++ (X2 ++ (Y2 ++ Q)))).toArray W) → Calls P0 206 #[.slice (some ⟨blk, off, none⟩) len cap, .int .i64 mid, .int .i64 stop, .int .i64 b, .func (.func g) #[] cb] W fun e w' => e = .returned (.tuple #[]) ∧ ∃ Z, Z.Perm ((X1 ++ X2) ++ (Y1 ++ Y2)) ∧ Z.Pairwise (sord (ltOf cf) no) ∧ SWK enc k w0 blk off (P ++ (Z ++ Q)).toArray w') := qaa fun h W ⟨A, p1, s1, hW⟩ => by
     have e2 : P ++ (A ++ (X2 ++ (Y2 ++ Q))) = (P ++ A) ++ (X2 ++ (Y2 ++ Q)) := by simp
     have hAl : A.length = X1.length + Y1.length := by rw [p1.length_eq, qae]
     rw [e2] at hW
     refine (IH.out (P ++ A) X2 Y2 Q mid stop b W (by omega) (by omega) (by omega) ⟨rfl, by rw [qae]; omega, by omega, by omega, by simp only [qaA, qae] at hlen0 ⊢; omega, oX2, oY2, fun x hx y hy => hno x (qbj _ hx) y (qbj _ hy)⟩ hW).mono ?_
     rintro e w' ⟨h1, B, p2, s2, hW'⟩
     exact ⟨h1, hfin A B w' p1 s1 p2 s2 (by simpa using hW')⟩
    have Hnot2 : Hid (¬ (mid < stop ∧ stop < b) → ∀ W, (∃ A, A.Perm (X1 ++ Y1) ∧ A.Pairwise (sord (ltOf cf) no) ∧ SWK enc k w0 blk off (P ++ (A ++ (X2 ++ (Y2 ++ Q)))).toArray W) → ∃ Z, Z.Perm ((X1 ++ X2) ++ (Y1 ++ Y2)) ∧ Z.Pairwise (sord (ltOf cf) no) ∧ SWK enc k w0 blk off (P ++ (Z ++ Q)).toArray W) := qaa fun h W ⟨A, p1, s1, hW⟩ => by
     refine hfin A (X2 ++ Y2) W p1 s1 (qcx _) ?_ (by simpa using hW)
     by_cases hx : X2.length = 0
     ·rw [qaz.1 hx]; exact oY2
     ·have hy : Y2.length = 0 := by omega
      rw [qaz.1 hy, qa8]; exact oX2
    clear hA hno hzz hfin S1 H1 H2 Hturn HA Hdk Hs hlen0 oX1 oX2 oXX oY1 oY2 oYY hX hY hPl hlX hlY hsz2 Hcut Hz
    obtain ⟨Z1, hZ1⟩ : ∃ Z1, (X1 ++ X2) ++ (Y1 ++ Y2) = Z1 := ⟨_, rfl⟩
    rw [hZ1] at Hrec2 Hnot2
    have hZ2 : X1 ++ (X2 ++ (Y1 ++ Y2)) = Z1 := by rw [← hZ1]; simp
    clear hZ1
    go_wp2_with (first
     | (go_at_fn 209; refine (Hrot.out ⟨?_, ?_⟩).mono ?_; omega; omega; rintro e w1 ⟨rfl, hR1⟩; have HR1 := qaa hR1; clear hR1)
     | (go_at_fn 206; with_reducible refine (Hrec1.out ⟨?_, ?_⟩ _ ?_).mono ?_; omega; omega; (first | exact HR1.out | exact Hnot.out (by omega)); rintro e w2 ⟨rfl, hR2⟩; have HR2 := qaa hR2; clear hR2)
     | (go_at_fn 206; with_reducible refine (Hrec2.out ⟨?_, ?_⟩ _ ?_).mono ?_; omega; omega; (first | exact HR2.out | exact Hnot1.out (by omega) _ HR1.out | exact Hnot1.out (by omega) _ (Hnot.out (by omega))); rintro e w3 ⟨rfl, hR3⟩; have HR3 := qaa hR3; clear hR3))
    all_goals
     go_end0
     refine ⟨rfl, ?_⟩
     (try rw [qak])
     (try rw [hZ2])
     first
      | exact HR3.out
      | exact Hnot2.out (by omega) _ HR2.out
      | exact Hnot2.out (by omega) _ (Hnot1.out (by omega) _ HR1.out)
      | exact Hnot2.out (by omega) _ (Hnot1.out (by omega) _ (Hnot.out (by omega)))
 ·have hgz : ¬ (mid : Int) < (m : Int) := by omega
  have hgz2 : (m : Int) ≤ (mid : Int) := by omega
  obtain ⟨c0, hc0⟩ : ∃ c0, c0 = a := ⟨_, rfl⟩
  obtain ⟨r0, hr0⟩ : ∃ r0, r0 = m := ⟨_, rfl⟩
  have hcase : (mid < m ∧ mid + m = c0 + b ∧ r0 = mid) ∨ (m ≤ mid ∧ c0 = a ∧ r0 = m) := qaK ⟨by omega, hc0, hr0⟩
  have Hcase := qaa hcase
  have hc1 : a ≤ c0 ∧ c0 ≤ r0 ∧ r0 ≤ m ∧ r0 ≤ mid := by omega
  clear hcase
  go_enter FG, ntmps206
  go_wp2
  clear q1 q2
  go_loopg [20, 21, 23] (r0 - c0) (fun gk vi vj vh wr => ∃ i j : Nat, vi = .int .i64 i ∧ vj = .int .i64 j ∧ c0 ≤ i ∧ i ≤ j ∧ j ≤ r0 ∧ j - i ≤ gk ∧ Aside (SWK enc k w0 blk off dk wr) ∧ Hid (∀ c, c0 ≤ c → c < i → ltOf cf dk[pp - c]! dk[c]! = false) ∧ Hid (∀ c, i ≤ c → j ≤ c → c < r0 → ltOf cf dk[pp - c]! dk[c]! = true))
  case atStart => exact ⟨a, m, rfl, rfl, by omega, by omega, by omega, by omega, S0, fun t _ _ => by omega, fun t _ _ _ => by omega⟩
  case round =>
   obtain ⟨i, j, rfl, rfl, hi, hij, hjb, hg, S1, H1, H2⟩ := hrel
   clear S0
   by_cases hlt : i < j
   ·have hlz : (i : Int) < (j : Int) := by omega
    obtain ⟨h, hh⟩ : ∃ h, (i + j) / 2 = h := ⟨_, rfl⟩
    have sh : ((i : Int) + (j : Int)) / 2 = (h : Int) := by omega
    obtain ⟨pc, hpc⟩ : ∃ pc, pc + h = pp := ⟨pp - h, by omega⟩
    have zpc : (pp : Int) - (h : Int) = (pc : Int) := by omega
    have epc : pp - h = pc := by omega
    cases hlv : ltOf cf dk[pc]! dk[h]! with
    | false =>
     have eA : ((pc : Int)).toNat = pc := by omega
     have pA : (0 : Int) ≤ (pc : Int) := by omega
     have bA : (pc : Int) < (len : Int) := by omega
     have rA : IntKind.i64.wrap ((pc : Int)) = (pc : Int) := by rw [qai]; omega
     have eB : ((h : Int)).toNat = h := by omega
     have pB : (0 : Int) ≤ (h : Int) := by omega
     have bB : (h : Int) < (len : Int) := by omega
     have rB : IntKind.i64.wrap ((h : Int)) = (h : Int) := by rw [qai]; omega
     obtain ⟨xv, hxv⟩ : ∃ x, x = dk[pc]! := ⟨_, rfl⟩
     obtain ⟨yv, hyv⟩ : ∃ x, x = dk[h]! := ⟨_, rfl⟩
     have lA := S1.out.ld HR.out (by have := Hd.out; have := Hs.out; omega) P0 pc (by have := Hs.out; omega)
     have lB := S1.out.ld HR.out (by have := Hd.out; have := Hs.out; omega) P0 h (by have := Hs.out; omega)
     rw [← hxv] at lA
     rw [← hyv] at lB
     have hC := S1.out.cmp HC.out Hs.out xv yv
     have hv : ¬ cf xv yv < 0 := by rw [hxv, hyv]; exact of_decide_eq_false hlv
     have hdv : decide (cf xv yv < 0) = false := qbv hv
     clear hxv hyv
     go_wp2_with fail
     go_quiet_grown (first | (go_at_fn g; refine Calls.grown_of (hC _ _)))
     have S2 : Aside (SWK enc k w0 blk off dk (Sort.grow (wr.drewN nq) osq)) := S1.out.grown nq osq
     clear lA lB hC S1
     generalize Sort.grow (wr.drewN nq) osq = wv at S2 ⊢
     clear nq osq
     go_wp2
     go_roundg (j - (h + 1))
     case measure => omega
     case rel => exact ⟨h + 1, j, by go_num, rfl, by omega, by omega, hjb, by omega, S2, fun t t1 t2 => Hturn.out t h (by omega) (by omega) (by omega) (by omega) (by omega) (by rw [epc]; exact hlv), fun c c1 c2 c3 => H2.out c (by omega) c2 c3⟩
    | true =>
     have eA : ((pc : Int)).toNat = pc := by omega
     have pA : (0 : Int) ≤ (pc : Int) := by omega
     have bA : (pc : Int) < (len : Int) := by omega
     have rA : IntKind.i64.wrap ((pc : Int)) = (pc : Int) := by rw [qai]; omega
     have eB : ((h : Int)).toNat = h := by omega
     have pB : (0 : Int) ≤ (h : Int) := by omega
     have bB : (h : Int) < (len : Int) := by omega
     have rB : IntKind.i64.wrap ((h : Int)) = (h : Int) := by rw [qai]; omega
     obtain ⟨xv, hxv⟩ : ∃ x, x = dk[pc]! := ⟨_, rfl⟩
     obtain ⟨yv, hyv⟩ : ∃ x, x = dk[h]! := ⟨_, rfl⟩
     have lA := S1.out.ld HR.out (by have := Hd.out; have := Hs.out; omega) P0 pc (by have := Hs.out; omega)
     have lB := S1.out.ld HR.out (by have := Hd.out; have := Hs.out; omega) P0 h (by have := Hs.out; omega)
     rw [← hxv] at lA
     rw [← hyv] at lB
     have hC := S1.out.cmp HC.out Hs.out xv yv
     have hv : cf xv yv < 0 := by rw [hxv, hyv]; exact qbo hlv
     have hdv : decide (cf xv yv < 0) = true := qaP hv
     clear hxv hyv
     go_wp2_with fail
     go_quiet_grown (first | (go_at_fn g; refine Calls.grown_of (hC _ _)))
     have S2 : Aside (SWK enc k w0 blk off dk (Sort.grow (wr.drewN nq) osq)) := S1.out.grown nq osq
     clear lA lB hC S1
     generalize Sort.grow (wr.drewN nq) osq = wv at S2 ⊢
     clear nq osq
     go_wp2
     go_roundg (h - i)
     case measure => omega
     case rel => exact ⟨i, h, rfl, rfl, hi, by omega, by omega, by omega, S2, H1.out, fun t t1 t2 t3 => by
      cases e : ltOf cf dk[pp - t]! dk[t]! with
      | true => rfl
      | false => have := Hturn.out h t t2 (by omega) (by omega) (by omega) (by omega) e; rw [epc, hlv] at this; cases this⟩
   ·have hlz : ¬ (i : Int) < (j : Int) := by omega
    obtain rfl : i = j := by omega
    obtain ⟨stop, hstop⟩ : ∃ stop, i + stop = n := ⟨n - i, by omega⟩
    have zstop : (n : Int) - (i : Int) = (stop : Int) := by omega
    have hst : m ≤ stop ∧ stop ≤ b := by omega
    have Hcut := qaa (HA.out.cut HO.out i stop c0 r0 mid hi hjb (by omega) Hcase.out (by omega) (fun c c1 c2 => by rw [← Hdk.out, show mid + m - 1 - c = pp - c from by omega]; exact H1.out c c1 c2) (fun c c1 c2 => by rw [← Hdk.out, show mid + m - 1 - c = pp - c from by omega]; exact H2.out c c1 c1 c2))
    have hX := HA.out.hX
    have hY := HA.out.hY
    have hPl := HA.out.hP
    have hlX : (X.take (i - a)).length = i - a ∧ (X.drop (i - a)).length = m - i := by rw [qao, qat]; omega
    have hlY : (Y.take (stop - m)).length = stop - m ∧ (Y.drop (stop - m)).length = b - stop := by rw [qao, qat]; omega
    have eX : X.take (i - a) ++ X.drop (i - a) = X := qax _ _
    have eY : Y.take (stop - m) ++ Y.drop (stop - m) = Y := qax _ _
    generalize X.take (i - a) = X1 at *
    generalize X.drop (i - a) = X2 at *
    generalize Y.take (stop - m) = Y1 at *
    generalize Y.drop (stop - m) = Y2 at *
    subst eX eY
    have hA := HA.out
    have hsz2 := hA.size
    obtain ⟨oX1, oX2, oXX⟩ := qa2.1 hA.oX
    obtain ⟨oY1, oY2, oYY⟩ := qa2.1 hA.oY
    have hno := hA.hno
    have hzz := Hz.out
    simp only [qae] at hX hY hzz
    have Hrot : Hid ((i < m ∧ m < stop) → Calls P0 209 #[.slice (some ⟨blk, off, none⟩) len cap, .int .i64 i, .int .i64 m, .int .i64 stop, .func (.func g) #[] cb] wr fun e w' => e = .returned (.tuple #[]) ∧ SWK enc k w0 blk off (P ++ (X1 ++ (Y1 ++ (X2 ++ (Y2 ++ Q))))).toArray w') := qaa fun h => by
     have hs1 := S1.out
     rw [Hdk.out] at hs1
     have e2 : (P ++ X1) ++ (X2 ++ (Y1 ++ (Y2 ++ Q))) = P ++ ((X1 ++ X2) ++ ((Y1 ++ Y2) ++ Q)) := by simp
     refine (rotate_any HL.out g cb (P ++ X1) X2 Y1 (Y2 ++ Q) i m stop len cap wr (by rw [qae]; omega) (by omega) (by omega) (by omega) (by omega) (by rw [e2]; have := hA.hlen; simpa using this) hsz HR.out Hd.out (by rw [e2]; exact hs1)).mono ?_
     rintro e w' ⟨h1, h2⟩
     exact ⟨h1, by simpa using h2⟩
    have Hnot : Hid (¬ (i < m ∧ m < stop) → SWK enc k w0 blk off (P ++ (X1 ++ (Y1 ++ (X2 ++ (Y2 ++ Q))))).toArray wr) := qaa fun h => by
     have hs1 := S1.out
     rw [Hdk.out] at hs1
     have e2 : P ++ ((X1 ++ X2) ++ ((Y1 ++ Y2) ++ Q)) = P ++ (X1 ++ (Y1 ++ (X2 ++ (Y2 ++ Q)))) := by
      by_cases hx : X2.length = 0
      ·rw [qaz.1 hx]; simp
      ·have hy : Y1.length = 0 := by omega
       rw [qaz.1 hy]; simp
     rw [← e2]
     exact hs1
    have hlen0 : (P ++ (X1 ++ (Y1 ++ (X2 ++ (Y2 ++ Q))))).length = len := by have := hA.hlen; simp at this; simp; omega
    have Hrec1 : Hid ((a < i ∧ i < mid) → ∀ W, SWK enc k w0 blk off (P ++ (X1 ++ (Y1 ++ (X2 ++ (Y2 ++ Q))))).toArray W → Calls P0 206 #[.slice (some ⟨blk, off, none⟩) len cap, .int .i64 a, .int .i64 i, .int .i64 mid, .func (.func g) #[] cb] W fun e w' => e = .returned (.tuple #[]) ∧ ∃ A, A.Perm (X1 ++ Y1) ∧ A.Pairwise (sord (ltOf cf) no) ∧ SWK enc k w0 blk off (P ++ (A ++ (X2 ++ (Y2 ++ Q)))).toArray w') := qaa fun h W hW =>
     IH.out P X1 Y1 (X2 ++ (Y2 ++ Q)) a i mid W (by omega) (by omega) (by omega) ⟨rfl, hPl, by omega, by omega, by rw [qaA]; exact hlen0, oX1, oY1, fun x hx y hy => hno x (qbu _ hx) y (qbu _ hy)⟩ hW
    have Hnot1 : Hid (¬ (a < i ∧ i < mid) → ∀ W, SWK enc k w0 blk off (P ++ (X1 ++ (Y1 ++ (X2 ++ (Y2 ++ Q))))).toArray W → ∃ A, A.Perm (X1 ++ Y1) ∧ A.Pairwise (sord (ltOf cf) no) ∧ SWK enc k w0 blk off (P ++ (A ++ (X2 ++ (Y2 ++ Q)))).toArray W) := qaa fun h W hW => by
     refine ⟨X1 ++ Y1, qcx _, ?_, by simpa using hW⟩
     by_cases hx : X1.length = 0
     ·rw [qaz.1 hx]; exact oY1
     ·have hy : Y1.length = 0 := by omega
      rw [qaz.1 hy, qa8]; exact oX1
    have hfin : ∀ A B W, A.Perm (X1 ++ Y1) → A.Pairwise (sord (ltOf cf) no) → B.Perm (X2 ++ Y2) → B.Pairwise (sord (ltOf cf) no) → SWK enc k w0 blk off (P ++ (A ++ (B ++ Q))).toArray W → ∃ Z, Z.Perm ((X1 ++ X2) ++ (Y1 ++ Y2)) ∧ Z.Pairwise (sord (ltOf cf) no) ∧ SWK enc k w0 blk off (P ++ (Z ++ Q)).toArray W := fun A B W p1 s1 p2 s2 hW => by
     obtain ⟨m1, m2⟩ := merge_cut hA.oX hA.oY hno Hcut.out.1 Hcut.out.2 p1 p2 s1 s2
     exact ⟨A ++ B, m1, m2, by simpa using hW⟩
    have Hrec2 : Hid ((mid < stop ∧ stop < b) → ∀ W, (∃ A, A.Perm (X1 ++ Y1) ∧ A.Pairwise (sord (ltOf cf) no) ∧ SWK enc k w0 blk off (P ++ (A ++ (X2 ++ (Y2 ++ Q)))).toArray W) → Calls P0 206 #[.slice (some ⟨blk, off, none⟩) len cap, .int .i64 mid, .int .i64 stop, .int .i64 b, .func (.func g) #[] cb] W fun e w' => e = .returned (.tuple #[]) ∧ ∃ Z, Z.Perm ((X1 ++ X2) ++ (Y1 ++ Y2)) ∧ Z.Pairwise (sord (ltOf cf) no) ∧ SWK enc k w0 blk off (P ++ (Z ++ Q)).toArray w') := qaa fun h W ⟨A, p1, s1, hW⟩ => by
     have e2 : P ++ (A ++ (X2 ++ (Y2 ++ Q))) = (P ++ A) ++ (X2 ++ (Y2 ++ Q)) := by simp
     have hAl : A.length = X1.length + Y1.length := by rw [p1.length_eq, qae]
     rw [e2] at hW
     refine (IH.out (P ++ A) X2 Y2 Q mid stop b W (by omega) (by omega) (by omega) ⟨rfl, by rw [qae]; omega, by omega, by omega, by simp only [qaA, qae] at hlen0 ⊢; omega, oX2, oY2, fun x hx y hy => hno x (qbj _ hx) y (qbj _ hy)⟩ hW).mono ?_
     rintro e w' ⟨h1, B, p2, s2, hW'⟩
     exact ⟨h1, hfin A B w' p1 s1 p2 s2 (by simpa using hW')⟩
    have Hnot2 : Hid (¬ (mid < stop ∧ stop < b) → ∀ W, (∃ A, A.Perm (X1 ++ Y1) ∧ A.Pairwise (sord (ltOf cf) no) ∧ SWK enc k w0 blk off (P ++ (A ++ (X2 ++ (Y2 ++ Q)))).toArray W) → ∃ Z, Z.Perm ((X1 ++ X2) ++ (Y1 ++ Y2)) ∧ Z.Pairwise (sord (ltOf cf) no) ∧ SWK enc k w0 blk off (P ++ (Z ++ Q)).toArray W) := qaa fun h W ⟨A, p1, s1, hW⟩ => by
     refine hfin A (X2 ++ Y2) W p1 s1 (qcx _) ?_ (by simpa using hW)
     by_cases hx : X2.length = 0
     ·rw [qaz.1 hx]; exact oY2
     ·have hy : Y2.length = 0 := by omega
      rw [qaz.1 hy, qa8]; exact oX2
    clear hA hno hzz hfin S1 H1 H2 Hturn HA Hdk Hs hlen0 oX1 oX2 oXX oY1 oY2 oYY hX hY hPl hlX hlY hsz2 Hcut Hz
    obtain ⟨Z1, hZ1⟩ : ∃ Z1, (X1 ++ X2) ++ (Y1 ++ Y2) = Z1 := ⟨_, rfl⟩
    rw [hZ1] at Hrec2 Hnot2
    have hZ2 : X1 ++ (X2 ++ (Y1 ++ Y2)) = Z1 := by rw [← hZ1]; simp
    clear hZ1
    go_wp2_with (first
     | (go_at_fn 209; refine (Hrot.out ⟨?_, ?_⟩).mono ?_; omega; omega; rintro e w1 ⟨rfl, hR1⟩; have HR1 := qaa hR1; clear hR1)
     | (go_at_fn 206; with_reducible refine (Hrec1.out ⟨?_, ?_⟩ _ ?_).mono ?_; omega; omega; (first | exact HR1.out | exact Hnot.out (by omega)); rintro e w2 ⟨rfl, hR2⟩; have HR2 := qaa hR2; clear hR2)
     | (go_at_fn 206; with_reducible refine (Hrec2.out ⟨?_, ?_⟩ _ ?_).mono ?_; omega; omega; (first | exact HR2.out | exact Hnot1.out (by omega) _ HR1.out | exact Hnot1.out (by omega) _ (Hnot.out (by omega))); rintro e w3 ⟨rfl, hR3⟩; have HR3 := qaa hR3; clear hR3))
    all_goals
     go_end0
     refine ⟨rfl, ?_⟩
     (try rw [qak])
     (try rw [hZ2])
     first
      | exact HR3.out
      | exact Hnot2.out (by omega) _ HR2.out
      | exact Hnot2.out (by omega) _ (Hnot1.out (by omega) _ HR1.out)
      | exact Hnot2.out (by omega) _ (Hnot1.out (by omega) _ (Hnot.out (by omega)))
end
section
variable {P0 : Program} {k : Nat} {α : Type} [Inhabited α] {enc : α → List Value} {w0 : World} {blk off : Nat} {d0 : Array α} {cf : α → α → Int} {no : α → Nat}
theorem symm_any (L : yd9 P0 k) (hO : SWO (ltOf cf)) (g : Nat) (cb : Array Value) (len cap : Nat) (eg : ∀ args w, (callFunc g args).run P0 w = .ok (.enter g args) w) (hC : CmpLays P0 g cb enc k cf blk off len w0)
  (hsz : len < 4611686018427387904) (R : RowK enc k w0 blk off d0) (hd : d0.size = len) : ∀ sz, SymmAt P0 k enc w0 blk off cf no g cb len cap sz
 | 0 => fun P X Y Q a m b w h h1 h2 _ _ => by omega
 | sz + 1 => fun P X Y Q a m b w h h1 h2 hA S => by
  by_cases e1 : X.length = 1
  ·obtain ⟨x0, hx⟩ := List.length_eq_one_iff.1 e1
   exact symm_one L hO g cb P X Y Q a m b len cap w eg hC x0 hx h2 hA hsz R hd S
  ·by_cases e2 : Y.length = 1
   ·obtain ⟨y0, hy⟩ := List.length_eq_one_iff.1 e2
    exact symm_two L hO g cb P X Y Q a m b len cap w eg hC y0 hy (by omega) hA hsz R hd S
   ·exact symm_step L hO g cb len cap eg hC hsz R hd sz (symm_any L hO g cb len cap eg hC hsz R hd sz) P X Y Q a m b w h (by omega) (by omega) hA S
theorem stLaysOf (L : yd9 P0 k) : SlLaysF0.n20 P0 stRen where
 mixed := L.mixed
 f20 := ⟨Tryz.f205.name, by kernel_rfl, L.fin.trans (by kernel_rfl)⟩
 t0 := L.t0
 a0 := L.a0
 z0 := L.z0
 v0 := L.v0
 t3 := L.t3
 a3 := L.a3
 z3 := L.z3
 v3 := L.v3
 t4 := L.t4
 a4 := L.a4
 z4 := L.z4
 v4 := L.v4
 t22 := L.tS
 a22 := L.aS
 z22 := L.zS
 v22 := L.vS
 t25 := L.tF
 a25 := L.aF
 z25 := L.zF
 v25 := L.vF
theorem insert_any (L : yd9 P0 k) (hO : SWO (ltOf cf)) (g : Nat) (cb : Array Value) (P U Q : List α) (a b len cap : Nat) (w : World) (eg : ∀ args w, (callFunc g args).run P0 w = .ok (.enter g args) w) (hC : CmpLays P0 g cb enc k cf blk off len w0)
  (hP : P.length = a) (hU : a + U.length = b) (hn : U.Pairwise (fun x y => no x < no y)) (hlen : (P ++ (U ++ Q)).length = len) (hsz : len < 4611686018427387904)
  (R : RowK enc k w0 blk off d0) (hd : d0.size = len) (S : SWK enc k w0 blk off (P ++ (U ++ Q)).toArray w) :
  Calls P0 205 #[.slice (some ⟨blk, off, none⟩) len cap, .int .i64 a, .int .i64 b, .func (.func g) #[] cb] w fun e w' =>
   e = .returned (.tuple #[]) ∧ ∃ Z, Z.Perm U ∧ Z.Pairwise (sord (ltOf cf) no) ∧ SWK enc k w0 blk off (P ++ (Z ++ Q)).toArray w' := by
 obtain ⟨Z, z1, z2, z3⟩ := insertion_list (lt := ltOf cf) (no := no) hO P U Q hn
 rw [hP, hU] at z3
 have hds : (P ++ (U ++ Q)).toArray.size = len := by rw [qaA]; exact hlen
 have hC2 : CmpLays P0 g cb enc k cf blk off len w := fun m os dk hdk x y => by
  obtain ⟨n0, os0, rfl⟩ := S
  rw [sortWorldK_on enc k w0 blk off n0 m (P ++ (U ++ Q)).toArray dk os0 os R.hblk (by rw [hds]; exact hdk)]
  exact hC _ _ dk hdk x y
 have hz3 : Sort.insertionSort (ltOf cf) (P ++ (U ++ Q)).toArray a b = (P ++ (Z ++ Q)).toArray := by
  rw [← qak, z3, qak]
 have h := AnyQ.insertionSortCmpFunc (stLaysOf L) k L.aE L.zE enc R.hk R.h1 cf g cb blk off cap a b (P ++ (U ++ Q)).toArray w eg (by rw [hds]; exact hC2) (S.holds R.hblk R.hH (by rw [hds, hd])) (S.lt R.hblk) (by omega) (by rw [hds]; simp only [qae] at hlen; omega) (by rw [hds]; exact hsz)
 rw [hds] at h
 refine h.mono ?_
 rintro e w' ⟨rfl, n, os, rfl⟩
 refine ⟨rfl, Z, z1, z2, ?_⟩
 rw [hz3]
 refine S.on R.hblk n _ os ?_
 rw [hds, qaA, ← hlen]
 simp [z1.length_eq]
omit [Inhabited α] in
theorem Blks.cut {lt : α → α → Bool} {bs : Nat} {U : List α} (h : Blks lt no bs U) (hb : bs ≤ U.length) : ∃ l t, U = l ++ t ∧ l.length = bs ∧ l.Pairwise (sord lt no) ∧ (∀ x ∈ l, ∀ y ∈ t, no x < no y) ∧ Blks lt no bs t := by
 rcases Nat.eq_or_lt_of_le hb with e | e
 ·exact ⟨U, [], by simp, e.symm, h.one (by omega), by simp, .last (by simp) qb8⟩
 ·exact h.more e
structure Rows2 (lt : α → α → Bool) (no : α → Nat) (l : List α) (bs : Nat) (D U : List α) : Prop where
 goes : ∀ V, Blks lt no bs V → (∀ x ∈ D, ∀ y ∈ V, no x < no y) → Blks lt no bs (D ++ V)
 cross : ∀ x ∈ D, ∀ y ∈ U, no x < no y
 perm : (D ++ U).Perm l
omit [Inhabited α] in
theorem Rows2.step {lt : α → α → Bool} {l : List α} {bs : Nat} {D W Z U : List α} (h : Rows2 lt no l bs D (W ++ U)) (hz : Z.Perm W) (ho : Z.Pairwise (sord lt no)) (hl : W.length = bs) (hc : ∀ x ∈ W, ∀ y ∈ U, no x < no y) : Rows2 lt no l bs (D ++ Z) U where
 goes V hV hx := by
  rw [qak]
  refine h.goes (Z ++ V) (.cons (by rw [hz.length_eq, hl]) ho (fun x hx1 y hy => hx x (qbj _ hx1) y hy) hV) ?_
  intro x hx1 y hy
  rcases qbm.1 hy with hy | hy
  ·exact h.cross x hx1 y (qbu _ (hz.subset hy))
  ·exact hx x (qbu _ hx1) y hy
 cross x hx y hy := by
  rcases qbm.1 hx with hx | hx
  ·exact h.cross x hx y (qbj _ hy)
  ·exact hc x (hz.subset hx) y hy
 perm := by
  refine List.Perm.trans ?_ h.perm
  rw [qak]
  exact qct D (List.Perm.append_right U hz)
omit [Inhabited α] in
theorem Rows2.fin {lt : α → α → Bool} {l : List α} {bs : Nat} {D W Z : List α} (h : Rows2 lt no l bs D W) (hz : Z.Perm W) (ho : Z.Pairwise (sord lt no)) (hl : W.length ≤ bs) : Blks lt no bs (D ++ Z) ∧ (D ++ Z).Perm l :=
 ⟨h.goes Z (.last (by rw [hz.length_eq]; exact hl) ho) fun x hx y hy => h.cross x hx y (hz.subset hy), (qct D hz).trans h.perm⟩
omit [Inhabited α] in
theorem Rows2.start {lt : α → α → Bool} {l l2 : List α} {bs : Nat} (h : l2.Perm l) : Rows2 lt no l bs [] l2 := ⟨fun V hV _ => by simpa using hV, by simp, by simpa using h⟩
theorem stable_any (L : yd9 P0 k) (hO : SWO (ltOf cf)) (g : Nat) (cb : Array Value) (l : List α) (len cap : Nat) (w : World) (eg : ∀ args w, (callFunc g args).run P0 w = .ok (.enter g args) w) (hC : CmpLays P0 g cb enc k cf blk off len w0)
  (hlen : l.length = len) (hn : l.Pairwise (fun x y => no x < no y)) (hsz : len < 1000000000000000000)
  (R : RowK enc k w0 blk off d0) (hd : d0.size = len) (S : SWK enc k w0 blk off l.toArray w) :
  Calls P0 200 #[.slice (some ⟨blk, off, none⟩) len cap, .int .i64 len, .func (.func g) #[] cb] w fun e w' =>
   e = .returned (.tuple #[]) ∧ ∃ Z : List α, Z.Perm l ∧ Z.Pairwise (sord (ltOf cf) no) ∧ SWK enc k w0 blk off Z.toArray w' := by
 have Hins := qaa fun (P U Q : List α) (a b : Nat) (W : World) (h1 : P.length = a) (h2 : a + U.length = b) (h3 : U.Pairwise (fun x y => no x < no y)) (h4 : (P ++ (U ++ Q)).length = len) (h5 : SWK enc k w0 blk off (P ++ (U ++ Q)).toArray W) => insert_any (no := no) L hO g cb P U Q a b len cap W eg hC h1 h2 h3 h4 (by omega) R hd h5
 have Hsym := qaa fun sz => symm_any (no := no) L hO g cb len cap eg hC (show len < 4611686018427387904 by omega) R hd sz
 have Hst : Hid (∃ D U : List α, D.length = 0 ∧ D.length + U.length = len ∧ Rows2 (ltOf cf) no l 20 D U ∧ U.Pairwise (fun x y => no x < no y) ∧ SWK enc k w0 blk off (D ++ U).toArray w) := ⟨[], l, rfl, by simpa using hlen, Rows2.start (qcx _), hn, by simpa using S⟩
 clear hn S R hd hO hC hlen
 have mixed := L.mixed; have aE := L.aE; have zE := L.zE; have t0 := L.t0; have a0 := L.a0; have z0 := L.z0; have v0 := L.v0; have t3 := L.t3; have a3 := L.a3; have z3 := L.z3; have v3 := L.v3; have t4 := L.t4; have a4 := L.a4; have z4 := L.z4; have v4 := L.v4; have tS := L.tS; have aS := L.aS; have zS := L.zS; have vS := L.vS; have tF := L.tF; have aF := L.aF; have zF := L.zF; have vF := L.vF; have tU := L.tU; have aU := L.aU; have zU := L.zU; have vU := L.vU
 have uS := qbe L.tS; have uU := qbe L.tU; have u3 := qbe L.t3
 have esy : ∀ args w, (callFunc 206 args).run P0 w = .ok (.enter 206 args) w := enters_of L.fsy (by kernel_rfl) rfl
 have ein : ∀ args w, (callFunc 205 args).run P0 w = .ok (.enter 205 args) w := enters_of L.fin (by kernel_rfl) rfl
 have FG := L.fst
 clear L
 go_enter FG, ntmps200
 go_wp2
 go_loopg [7, 8] (len + 20) (fun gk va vb wr => ∃ a : Nat, va = .int .i64 a ∧ vb = .int .i64 ((a : Int) + 20) ∧ a ≤ len ∧ len + 20 - a ≤ gk ∧ Hid (∃ D U : List α, D.length = a ∧ D.length + U.length = len ∧ Rows2 (ltOf cf) no l 20 D U ∧ U.Pairwise (fun x y => no x < no y) ∧ SWK enc k w0 blk off (D ++ U).toArray wr))
 case atStart => exact ⟨0, rfl, by simp, by omega, by omega, Hst⟩
 case round =>
  obtain ⟨a, rfl, rfl, ha, hg, Hr⟩ := hrel
  clear Hst
  by_cases hlt : a + 20 ≤ len
  ·have hlz : (a : Int) + 20 ≤ (len : Int) := by omega
   obtain ⟨b, hb⟩ : ∃ b, a + 20 = b := ⟨_, rfl⟩
   have hbz : (a : Int) + 20 = (b : Int) := by omega
   have Hcall : Hid (Calls P0 205 #[.slice (some ⟨blk, off, none⟩) len cap, .int .i64 a, .int .i64 b, .func (.func g) #[] cb] wr fun e w' => e = .returned (.tuple #[]) ∧ ∃ D U : List α, D.length = b ∧ D.length + U.length = len ∧ Rows2 (ltOf cf) no l 20 D U ∧ U.Pairwise (fun x y => no x < no y) ∧ SWK enc k w0 blk off (D ++ U).toArray w') := qaa (by
    obtain ⟨D, U, h1, h2, h3, h4, h5⟩ := Hr.out
    have eU := qax 20 U
    have hl : (U.take 20).length = 20 ∧ (U.drop 20).length + b = len := by rw [qao, qat]; omega
    generalize U.take 20 = W at eU hl
    generalize U.drop 20 = U2 at eU hl
    subst eU
    obtain ⟨o1, o2, o3⟩ := qa2.1 h4
    refine (Hins.out D W U2 a b wr h1 (by omega) o1 (by simp only [qae] at h2 ⊢; omega) h5).mono ?_
    rintro e w' ⟨rfl, Z, z1, z2, z3⟩
    refine ⟨rfl, D ++ Z, U2, ?_, ?_, h3.step z1 z2 hl.1 o3, o2, by simpa using z3⟩
    ·rw [qae, z1.length_eq]; omega
    ·rw [qae, z1.length_eq]; omega)
   clear Hr
   go_wp2_with (go_at_fn 205; refine Hcall.out.mono ?_; rintro e w1 ⟨rfl, hS1⟩; have HS1 := qaa hS1; clear hS1)
   go_roundg (len + 20 - b)
   case measure => omega
   case rel => exact ⟨b, rfl, rfl, by omega, by omega, HS1⟩
  ·have hlz : ¬ (a : Int) + 20 ≤ (len : Int) := by omega
   have Hcall : Hid (Calls P0 205 #[.slice (some ⟨blk, off, none⟩) len cap, .int .i64 a, .int .i64 len, .func (.func g) #[] cb] wr fun e w' => e = .returned (.tuple #[]) ∧ ∃ Z : List α, Z.length = len ∧ Blks (ltOf cf) no 20 Z ∧ Z.Perm l ∧ SWK enc k w0 blk off Z.toArray w') := qaa (by
    obtain ⟨D, U, h1, h2, h3, h4, h5⟩ := Hr.out
    refine (Hins.out D U [] a len wr h1 (by omega) h4 (by simp only [qae, List.length_nil]; omega) (by simpa using h5)).mono ?_
    rintro e w' ⟨rfl, Z, z1, z2, z3⟩
    obtain ⟨f1, f2⟩ := h3.fin z1 z2 (by omega)
    exact ⟨rfl, D ++ Z, by rw [qae, z1.length_eq]; omega, f1, f2, by simpa using z3⟩)
   clear Hr Hins hg
   go_wp2_with (go_at_fn 205; refine Hcall.out.mono ?_; rintro e w1 ⟨rfl, hS1⟩; have HS1 := qaa hS1; clear hS1)
   clear Hcall hlz
   go_loopg [6, 7, 8, 9] (len) (fun gk vs va vb vm wr => ∃ bs : Nat, vs = .int .i64 bs ∧ 20 ≤ bs ∧ bs ≤ 2 * len + 20 ∧ len - bs ≤ gk ∧ Hid (∃ Z : List α, Z.length = len ∧ Blks (ltOf cf) no bs Z ∧ Z.Perm l ∧ SWK enc k w0 blk off Z.toArray wr))
   case atStart => exact ⟨20, rfl, qaf _, by omega, by omega, HS1⟩
   case round =>
    obtain ⟨bs, rfl, hb1, hb2, hg, Hr⟩ := hrel
    clear HS1
    by_cases hlt2 : bs < len
    ·have hlz : (bs : Int) < (len : Int) := by omega
     have Hst : Hid (∃ D U : List α, D.length = 0 ∧ D.length + U.length = len ∧ Rows2 (ltOf cf) no l (2 * bs) D U ∧ Blks (ltOf cf) no bs U ∧ SWK enc k w0 blk off (D ++ U).toArray wr) := qaa (by
      obtain ⟨Z, z1, z2, z3, z4⟩ := Hr.out
      exact ⟨[], Z, rfl, by simpa using z1, Rows2.start z3, z2, by simpa using z4⟩)
     clear Hr
     go_wp2
     go_loopg [7, 8] (len + 2 * bs) (fun gk2 va vb wr => ∃ a : Nat, va = .int .i64 a ∧ vb = .int .i64 ((a : Int) + 2 * (bs : Int)) ∧ a ≤ len ∧ len + 2 * bs - a ≤ gk2 ∧ Hid (∃ D U : List α, D.length = a ∧ D.length + U.length = len ∧ Rows2 (ltOf cf) no l (2 * bs) D U ∧ Blks (ltOf cf) no bs U ∧ SWK enc k w0 blk off (D ++ U).toArray wr))
     case atStart => exact ⟨0, rfl, by simp, by omega, by omega, Hst⟩
     case round =>
      obtain ⟨a, rfl, rfl, ha, hg2, Hr⟩ := hrel
      clear Hst
      obtain ⟨mm, hmm⟩ : ∃ mm, a + bs = mm := ⟨_, rfl⟩
      have zmm : (a : Int) + (bs : Int) = (mm : Int) := by omega
      by_cases hlt3 : a + 2 * bs ≤ len
      ·obtain ⟨b, hb⟩ : ∃ b, a + 2 * bs = b := ⟨_, rfl⟩
       have hbz : (a : Int) + 2 * (bs : Int) = (b : Int) := by omega
       have hbz2 : (b : Int) ≤ (len : Int) := by omega
       have Hcall : Hid (Calls P0 206 #[.slice (some ⟨blk, off, none⟩) len cap, .int .i64 a, .int .i64 mm, .int .i64 b, .func (.func g) #[] cb] wr fun e w' => e = .returned (.tuple #[]) ∧ ∃ D U : List α, D.length = b ∧ D.length + U.length = len ∧ Rows2 (ltOf cf) no l (2 * bs) D U ∧ Blks (ltOf cf) no bs U ∧ SWK enc k w0 blk off (D ++ U).toArray w') := qaa (by
        obtain ⟨D, U, h1, h2, h3, h4, h5⟩ := Hr.out
        obtain ⟨X, t, rfl, x1, x2, x3, x4⟩ := h4.cut (by omega)
        rw [qae] at h2
        obtain ⟨Y, U2, rfl, y1, y2, y3, y4⟩ := x4.cut (by omega)
        rw [qae] at h2
        refine (Hsym.out _ D X Y U2 a mm b wr (qaf _) (by omega) (by omega) ⟨rfl, h1, by omega, by omega, by simp only [qaA, qae]; omega, x2, y2, fun x hx y hy => x3 x hx y (qbu _ hy)⟩ h5).mono ?_
        rintro e w' ⟨rfl, Z, z1, z2, z3⟩
        have h6 : Rows2 (ltOf cf) no l (2 * bs) D ((X ++ Y) ++ U2) := by rw [qak]; exact h3
        refine ⟨rfl, D ++ Z, U2, ?_, ?_, h6.step z1 z2 (by rw [qae]; omega) ?_, y4, by simpa using z3⟩
        ·rw [qae, z1.length_eq, qae]; omega
        ·rw [qae, z1.length_eq, qae]; omega
        ·intro x hx y hy
         rcases qbm.1 hx with hx | hx
         ·exact x3 x hx y (qbj _ hy)
         ·exact y3 x hx y hy)
       clear Hr
       go_wp2_with (go_at_fn 206; refine Hcall.out.mono ?_; rintro e w1 ⟨rfl, hS1⟩; have HS1 := qaa hS1; clear hS1)
       go_roundg (len + 2 * bs - b)
       case measure => omega
       case rel => exact ⟨b, rfl, rfl, by omega, by omega, HS1⟩
      ·have hbz2 : ¬ (a : Int) + 2 * (bs : Int) ≤ (len : Int) := by omega
       by_cases hlt4 : mm < len
       ·have hmz : (mm : Int) < (len : Int) := by omega
        have Hcall : Hid (Calls P0 206 #[.slice (some ⟨blk, off, none⟩) len cap, .int .i64 a, .int .i64 mm, .int .i64 len, .func (.func g) #[] cb] wr fun e w' => e = .returned (.tuple #[]) ∧ ∃ Z : List α, Z.length = len ∧ Blks (ltOf cf) no (2 * bs) Z ∧ Z.Perm l ∧ SWK enc k w0 blk off Z.toArray w') := qaa (by
         obtain ⟨D, U, h1, h2, h3, h4, h5⟩ := Hr.out
         obtain ⟨X, t, rfl, x1, x2, x3, x4⟩ := h4.more (by omega)
         rw [qae] at h2
         refine (Hsym.out _ D X t [] a mm len wr (qaf _) (by omega) (by omega) ⟨rfl, h1, by omega, by omega, by simp only [qaA, qae, List.length_nil]; omega, x2, x4.one (by omega), x3⟩ (by simpa using h5)).mono ?_
         rintro e w' ⟨rfl, Z, z1, z2, z3⟩
         obtain ⟨f1, f2⟩ := h3.fin z1 z2 (by rw [qae]; omega)
         exact ⟨rfl, D ++ Z, by rw [qae, z1.length_eq, qae]; omega, f1, f2, by simpa using z3⟩)
        clear Hr
        go_wp2_with (go_at_fn 206; refine Hcall.out.mono ?_; rintro e w1 ⟨rfl, hS1⟩; have HS1 := qaa hS1; clear hS1)
        go_roundg (len - 2 * bs)
        case measure => omega
        case rel => exact ⟨2 * bs, by first | rfl | go_num, by omega, by omega, by omega, HS1⟩
       ·have hmz : ¬ (mm : Int) < (len : Int) := by omega
        have HS1 : Hid (∃ Z : List α, Z.length = len ∧ Blks (ltOf cf) no (2 * bs) Z ∧ Z.Perm l ∧ SWK enc k w0 blk off Z.toArray wr) := qaa (by
         obtain ⟨D, U, h1, h2, h3, h4, h5⟩ := Hr.out
         obtain ⟨f1, f2⟩ := h3.fin (qcx U) (h4.one (by omega)) (by omega)
         exact ⟨D ++ U, by rw [qae]; omega, f1, f2, h5⟩)
        clear Hr
        go_wp2
        go_roundg (len - 2 * bs)
        case measure => omega
        case rel => exact ⟨2 * bs, by first | rfl | go_num, by omega, by omega, by omega, HS1⟩
    ·have hlz : ¬ (bs : Int) < (len : Int) := by omega
     go_wp2
     go_end0
     refine ⟨rfl, ?_⟩
     obtain ⟨Z, z1, z2, z3, z4⟩ := Hr.out
     exact ⟨Z, z3, z2.one (by omega), z4⟩
end
end Go.Proofs.YtanjhbkbpalnaaaGreat
