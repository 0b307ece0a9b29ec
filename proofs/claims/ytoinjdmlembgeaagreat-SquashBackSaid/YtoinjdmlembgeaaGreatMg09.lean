/-
 What the law of the last of these texts stands on, part 9.
-/
import Derived.Test.YtoinjdmlembgeaaGreatMg03
import Derived.Test.YtoinjdmlembgeaaGreatMg05
import Derived.Sort.WalkB2
import Derived.Sort.WalkB12
import Derived.Deep.LoopGhost
namespace Go.Proofs.YtoinjdmlembgeaaGreat
set_option linter.unusedSimpArgs false
set_option linter.unusedVariables false
open Go.ChangeShapes Go.WideShapes Go.ChangeAt Go.RowKit Go.Joins Go.Deep Go.Shelf Go.Lib
open Go.Sort (SWO swp size_swp HoldsK)
def stRen : Ren := ⟨fun _ => 161, fun t => if t = 22 then 140 else if t = 24 then 145 else if t = 25 then 174 else t, fun g => g⟩
structure ydU (P : Program) (k : Nat) : Prop where
 mixed : P.follows .mixedOrders = true
 aE : ∀ w, (isAgg 145).run P w = .ok true w
 zE : ∀ w, (Go.sizeOf 145).run P w = .ok k w
 t0 : P.underlying 0 = some (TypeDesc.tuple #[])
 a0 : ∀ w, (isAgg 0).run P w = .ok false w
 z0 : ∀ w, (Go.sizeOf 0).run P w = .ok 1 w
 v0 : ∀ w, (zeroValue 0).run P w = .ok (Value.tuple #[]) w
 t3 : P.underlying 3 = some (TypeDesc.int IntKind.i64)
 a3 : ∀ w, (isAgg 3).run P w = .ok false w
 z3 : ∀ w, (Go.sizeOf 3).run P w = .ok 1 w
 v3 : ∀ w, (zeroValue 3).run P w = .ok (Value.int IntKind.i64 0) w
 t4 : P.underlying 4 = some (TypeDesc.bool)
 a4 : ∀ w, (isAgg 4).run P w = .ok false w
 z4 : ∀ w, (Go.sizeOf 4).run P w = .ok 1 w
 v4 : ∀ w, (zeroValue 4).run P w = .ok (Value.bool false) w
 tS : P.underlying 140 = some (TypeDesc.slice 145)
 aS : ∀ w, (isAgg 140).run P w = .ok false w
 zS : ∀ w, (Go.sizeOf 140).run P w = .ok 1 w
 vS : ∀ w, (zeroValue 140).run P w = .ok (Value.slice none 0 0) w
 tF : P.underlying 174 = some (TypeDesc.func #[145, 145] #[3] false)
 aF : ∀ w, (isAgg 174).run P w = .ok false w
 zF : ∀ w, (Go.sizeOf 174).run P w = .ok 1 w
 vF : ∀ w, (zeroValue 174).run P w = .ok (Value.nilFunc) w
 tU : P.underlying 147 = some (TypeDesc.int IntKind.u64)
 aU : ∀ w, (isAgg 147).run P w = .ok false w
 zU : ∀ w, (Go.sizeOf 147).run P w = .ok 1 w
 vU : ∀ w, (zeroValue 147).run P w = .ok (Value.int IntKind.u64 0) w
 fsw : P.funcs[167]? = some Tryz.f167
 fro : P.funcs[165]? = some Tryz.f165
 fsy : P.funcs[162]? = some Tryz.f162
 fst : P.funcs[155]? = some Tryz.f155
 fin : P.funcs[161]? = some Tryz.f161
theorem stAll : ydU Tryz.prog 2 where
 mixed := by kernel_rfl
 aE := Tryz.isAgg145
 zE := Tryz.sizeOf145
 t0 := by kernel_rfl
 a0 := Tryz.isAgg0
 z0 := Tryz.sizeOf0
 v0 := Tryz.zeroValue0
 t3 := by kernel_rfl
 a3 := Tryz.isAgg3
 z3 := Tryz.sizeOf3
 v3 := Tryz.zeroValue3
 t4 := by kernel_rfl
 a4 := Tryz.isAgg4
 z4 := Tryz.sizeOf4
 v4 := Tryz.zeroValue4
 tS := by kernel_rfl
 aS := Tryz.isAgg140
 zS := Tryz.sizeOf140
 vS := Tryz.zeroValue140
 tF := by kernel_rfl
 aF := Tryz.isAgg174
 zF := Tryz.sizeOf174
 vF := Tryz.zeroValue174
 tU := by kernel_rfl
 aU := Tryz.isAgg147
 zU := Tryz.sizeOf147
 vU := Tryz.zeroValue147
 fsw := Tryz.func167
 fro := Tryz.func165
 fsy := Tryz.func162
 fst := Tryz.func155
 fin := Tryz.func161
section
variable {P0 : Program} {k : Nat} {α : Type} [Inhabited α] {enc : α → List Value} {w0 : World} {blk off : Nat} {d0 : Array α}
set_option maxHeartbeats 4000000 in
set_option maxRecDepth 1000000 in
theorem yh1 (L : ydU P0 k) (F : Value) (P X M Y Q : List α) (a b n len cap : Nat) (w : World) (hP : P.length = a) (hX : X.length = n) (hY : Y.length = n) (hM : a + n + M.length = b) (hlen : (P ++ (X ++ (M ++ (Y ++ Q)))).length = len) (hsz : len < 4611686018427387904)
  (R : RowK enc k w0 blk off d0) (hd : d0.size = len) (S : SWK enc k w0 blk off (P ++ (X ++ (M ++ (Y ++ Q)))).toArray w) :
  Calls P0 167 #[.slice (some ⟨blk, off, none⟩) len cap, .int .i64 a, .int .i64 b, .int .i64 n, F] w fun e w' =>
   e = .returned (.tuple #[]) ∧ SWK enc k w0 blk off (P ++ (Y ++ (M ++ (X ++ Q)))).toArray w' := by
 obtain ⟨T, hT⟩ : ∃ T, P ++ (Y ++ (M ++ (X ++ Q))) = T := ⟨_, rfl⟩
 rw [hT]
 have Hd := Lib.hid hd
 have HR : Aside (RowK enc k w0 blk off d0) := R
 have Hst : Hid (∃ P' X' M' Y' : List α, P'.length = a + 0 ∧ X'.length = n - 0 ∧ Y'.length = n - 0 ∧ a + n + M'.length = b + 0 ∧ (P' ++ (X' ++ (M' ++ (Y' ++ Q)))).length = len ∧ SWK enc k w0 blk off (P' ++ (X' ++ (M' ++ (Y' ++ Q)))).toArray w ∧ P' ++ (Y' ++ (M' ++ (X' ++ Q))) = T) := ⟨P, X, M, Y, hP, hX, hY, hM, hlen, S, hT⟩
 have hbl : b + n ≤ len ∧ a + n ≤ b := by simp only [List.length_append] at hlen; omega
 have mixed := L.mixed; have aE := L.aE; have zE := L.zE; have t0 := L.t0; have a0 := L.a0; have z0 := L.z0; have v0 := L.v0; have t3 := L.t3; have a3 := L.a3; have z3 := L.z3; have v3 := L.v3; have t4 := L.t4; have a4 := L.a4; have z4 := L.z4; have v4 := L.v4; have tS := L.tS; have aS := L.aS; have zS := L.zS; have vS := L.vS; have tF := L.tF; have aF := L.aF; have zF := L.zF; have vF := L.vF; have tU := L.tU; have aU := L.aU; have zU := L.zU; have vU := L.vU
 have uS := run_underlying L.tS; have uU := run_underlying L.tU; have u3 := run_underlying L.t3
 clear hT S hP hX hY hM hlen R hd P X M Y
 have FG := L.fsw
 go_enter FG, Tryz.ntmps167
 go_wp2
 go_loopg [10] n (fun g vi wr => ∃ i : Nat, vi = .int .i64 i ∧ i ≤ n ∧ n - i ≤ g ∧ Hid (∃ P' X' M' Y' : List α, P'.length = a + i ∧ X'.length = n - i ∧ Y'.length = n - i ∧ a + n + M'.length = b + i ∧ (P' ++ (X' ++ (M' ++ (Y' ++ Q)))).length = len ∧ SWK enc k w0 blk off (P' ++ (X' ++ (M' ++ (Y' ++ Q)))).toArray wr ∧ P' ++ (Y' ++ (M' ++ (X' ++ Q))) = T))
 case atStart => exact ⟨0, rfl, by omega, by omega, Hst⟩
 case round =>
  obtain ⟨i, rfl, hi, hg, Hs⟩ := hrel
  clear Hst
  by_cases hlt : i < n
  ·have hlz : (i : Int) < (n : Int) := by omega
   obtain ⟨p, hp⟩ : ∃ p, a + i = p := ⟨_, rfl⟩
   obtain ⟨q, hq⟩ : ∃ q, b + i = q := ⟨_, rfl⟩
   have hpz : (a : Int) + (i : Int) = (p : Int) := by omega
   have hqz : (b : Int) + (i : Int) = (q : Int) := by omega
   have hpw : IntKind.i64.wrap ((a : Int) + (i : Int)) = (p : Int) := by rw [IntKind.wrap_i64]; omega
   have hqw : IntKind.i64.wrap ((b : Int) + (i : Int)) = (q : Int) := by rw [IntKind.wrap_i64]; omega
   have hpb : (0 : Int) ≤ (p : Int) ∧ (p : Int) < (len : Int) := by omega
   have hqb : (0 : Int) ≤ (q : Int) ∧ (q : Int) < (len : Int) := by omega
   obtain ⟨P', X', M', Y', h1, h2, h3, h4, h5, S1, h6⟩ := Hs.out
   clear Hs
   cases X' with
   | nil => simp at h2; omega
   | cons x X2 =>
   cases Y' with
   | nil => simp at h3; omega
   | cons y Y2 =>
   have ha : P' ++ (x :: X2 ++ (M' ++ (y :: Y2 ++ Q))) = P' ++ x :: ((X2 ++ M') ++ y :: (Y2 ++ Q)) := by simp
   have hb2 : P' ++ y :: ((X2 ++ M') ++ x :: (Y2 ++ Q)) = (P' ++ [y]) ++ (X2 ++ ((M' ++ [x]) ++ (Y2 ++ Q))) := by simp
   rw [ha] at S1 h5
   have hxl : (X2 ++ M').length + 1 + p = q := by simp only [List.length_append, List.length_cons] at h2 ⊢; omega
   have hsw := ygs P' (X2 ++ M') (Y2 ++ Q) x y p q (by omega) (by omega)
   have hgx : (P' ++ x :: ((X2 ++ M') ++ y :: (Y2 ++ Q))).toArray[p]! = x := ydn P' _ x p (by omega)
   have hgy : (P' ++ x :: ((X2 ++ M') ++ y :: (Y2 ++ Q))).toArray[q]! = y := by
    rw [show P' ++ x :: ((X2 ++ M') ++ y :: (Y2 ++ Q)) = (P' ++ x :: (X2 ++ M')) ++ y :: (Y2 ++ Q) from by simp]
    exact ydn _ _ y q (by rw [List.length_append, List.length_cons]; omega)
   have hsl : (P' ++ x :: ((X2 ++ M') ++ y :: (Y2 ++ Q))).toArray.size = len := by rw [List.size_toArray]; exact h5
   have Hnew : Hid (∀ W, SWK enc k w0 blk off (P' ++ y :: ((X2 ++ M') ++ x :: (Y2 ++ Q))).toArray W → ∃ P' X' M' Y' : List α, P'.length = a + (i + 1) ∧ X'.length = n - (i + 1) ∧ Y'.length = n - (i + 1) ∧ a + n + M'.length = b + (i + 1) ∧ (P' ++ (X' ++ (M' ++ (Y' ++ Q)))).length = len ∧ SWK enc k w0 blk off (P' ++ (X' ++ (M' ++ (Y' ++ Q)))).toArray W ∧ P' ++ (Y' ++ (M' ++ (X' ++ Q))) = T) := Lib.hid fun W S => by
    rw [hb2] at S
    refine ⟨P' ++ [y], X2, M' ++ [x], Y2, by simp; omega, by simp at h2; omega, by simp at h3; omega, by simp; omega, ?_, S, ?_⟩
    ·rw [← h5]; simp <;> omega
    ·rw [← h6]; simp
   rw [← hsw] at Hnew
   generalize (P' ++ x :: ((X2 ++ M') ++ y :: (Y2 ++ Q))).toArray = dk at *
   clear ha hb2 h1 h2 h3 h4 h5 h6 hsw hxl
   have hds : dk.size = d0.size := by have := Hd.out; omega
   have S2 : Aside (SWK enc k w0 blk off (swp dk p q) ((wr.drew.setCells blk (off + p * k) (enc dk[q]!)).setCells blk (off + q * k) (enc dk[p]!))) := S1.swapped HR.out p q (by omega) (by omega)
   have l1 := S1.ld1 HR.out hds P0 p (by omega)
   have l2 := S1.ld1 HR.out hds P0 q (by omega)
   have s1 := S1.st1 HR.out hds P0 p (by omega) dk[q]!
   have s2 := S1.st2 HR.out hds P0 p q (by omega) (by omega) dk[q]! dk[p]!
   have n1 : (enc dk[p]!).length = k := HR.out.hk _
   have n2 : (enc dk[q]!).length = k := HR.out.hk _
   generalize enc dk[p]! = cI at S2 l1 s2 n1
   generalize enc dk[q]! = cJ at S2 l2 s1 s2 n2
   clear S1 hgx hgy hds hsl
   go_wp2_with fail
   go_big_region_o
   clear l1 l2 s1 s2
   generalize (wr.drew.setCells blk (off + p * k) cJ).setCells blk (off + q * k) cI = w2 at S2 ⊢
   go_wp2
   go_roundg (n - (i + 1))
   case measure => omega
   case rel => exact ⟨i + 1, by go_num, by omega, by omega, Lib.hid (Hnew.out _ S2.out)⟩
  ·have hlz : ¬ (i : Int) < (n : Int) := by omega
   have hin : i = n := by omega
   subst hin
   go_wp2
   go_end0
   refine ⟨rfl, ?_⟩
   obtain ⟨P', X', M', Y', h1, h2, h3, h4, h5, S1, h6⟩ := Hs.out
   have e1 : X' = [] := List.length_eq_zero_iff.1 (by omega)
   have e2 : Y' = [] := List.length_eq_zero_iff.1 (by omega)
   subst e1 e2
   rw [← h6]
   exact S1
end
section
variable {P0 : Program} {k : Nat} {α : Type} [Inhabited α] {enc : α → List Value} {w0 : World} {blk off : Nat} {d0 : Array α}
set_option maxHeartbeats 4000000 in
set_option maxRecDepth 1000000 in
theorem rotate_any (L : ydU P0 k) (g : Nat) (cb : Array Value) (P X Y Q : List α) (a m b len cap : Nat) (w : World) (hP : P.length = a) (hX : a + X.length = m) (hY : m + Y.length = b) (hX0 : 0 < X.length) (hY0 : 0 < Y.length) (hlen : (P ++ (X ++ (Y ++ Q))).length = len) (hsz : len < 4611686018427387904)
  (R : RowK enc k w0 blk off d0) (hd : d0.size = len) (S : SWK enc k w0 blk off (P ++ (X ++ (Y ++ Q))).toArray w) :
  Calls P0 165 #[.slice (some ⟨blk, off, none⟩) len cap, .int .i64 a, .int .i64 m, .int .i64 b, .func (.func g) #[] cb] w fun e w' =>
   e = .returned (.tuple #[]) ∧ SWK enc k w0 blk off (P ++ (Y ++ (X ++ Q))).toArray w' := by
 obtain ⟨T, hT⟩ : ∃ T, P ++ (Y ++ (X ++ Q)) = T := ⟨_, rfl⟩
 rw [hT]
 have HL := Lib.hid L
 have Hd := Lib.hid hd
 have HR : Aside (RowK enc k w0 blk off d0) := R
 obtain ⟨i0, hi0⟩ : ∃ i0, X.length = i0 := ⟨_, rfl⟩
 obtain ⟨j0, hj0⟩ : ∃ j0, Y.length = j0 := ⟨_, rfl⟩
 rw [hi0] at hX hX0
 rw [hj0] at hY hY0
 have Hst : Hid (∃ P' X' Y' Q' : List α, P'.length + i0 = m ∧ X'.length = i0 ∧ Y'.length = j0 ∧ (P' ++ (X' ++ (Y' ++ Q'))).length = len ∧ SWK enc k w0 blk off (P' ++ (X' ++ (Y' ++ Q'))).toArray w ∧ P' ++ (Y' ++ (X' ++ Q')) = T) := ⟨P, X, Y, Q, by omega, hi0, hj0, hlen, S, hT⟩
 have hbl : m + j0 ≤ len ∧ i0 ≤ m := by simp only [List.length_append] at hlen; omega
 have hiz : (m : Int) - (a : Int) = (i0 : Int) := by omega
 have hjz : (b : Int) - (m : Int) = (j0 : Int) := by omega
 have hiw : IntKind.i64.wrap ((m : Int) - (a : Int)) = (i0 : Int) := by rw [IntKind.wrap_i64]; omega
 have hjw : IntKind.i64.wrap ((b : Int) - (m : Int)) = (j0 : Int) := by rw [IntKind.wrap_i64]; omega
 clear hT S hP hX hY hlen R hd hi0 hj0 P X Y Q
 have mixed := L.mixed; have aE := L.aE; have zE := L.zE; have t0 := L.t0; have a0 := L.a0; have z0 := L.z0; have v0 := L.v0; have t3 := L.t3; have a3 := L.a3; have z3 := L.z3; have v3 := L.v3; have t4 := L.t4; have a4 := L.a4; have z4 := L.z4; have v4 := L.v4; have tS := L.tS; have aS := L.aS; have zS := L.zS; have vS := L.vS; have tF := L.tF; have aF := L.aF; have zF := L.zF; have vF := L.vF; have tU := L.tU; have aU := L.aU; have zU := L.zU; have vU := L.vU
 have uS := run_underlying L.tS; have uU := run_underlying L.tU; have u3 := run_underlying L.t3
 have esw : ∀ args w, (callFunc 167 args).run P0 w = .ok (.enter 167 args) w := enters_of L.fsw (by kernel_rfl) rfl
 have FG := L.fro
 clear L
 go_enter FG, Tryz.ntmps165
 go_wp2
 clear hiz hjz hiw hjw
 go_loopg [10, 11] (i0 + j0) (fun gk vi vj wr => ∃ i j : Nat, vi = .int .i64 i ∧ vj = .int .i64 j ∧ 0 < i ∧ 0 < j ∧ i ≤ m ∧ m + j ≤ len ∧ i + j ≤ gk ∧ Hid (∃ P' X' Y' Q' : List α, P'.length + i = m ∧ X'.length = i ∧ Y'.length = j ∧ (P' ++ (X' ++ (Y' ++ Q'))).length = len ∧ SWK enc k w0 blk off (P' ++ (X' ++ (Y' ++ Q'))).toArray wr ∧ P' ++ (Y' ++ (X' ++ Q')) = T))
 case atStart => exact ⟨i0, j0, rfl, rfl, hX0, hY0, by omega, by omega, by omega, Hst⟩
 case round =>
  obtain ⟨i, j, rfl, rfl, hi, hj, him, hjm, hg, Hs⟩ := hrel
  clear Hst hX0 hY0 hbl
  obtain ⟨s, hs⟩ : ∃ s, s + i = m := ⟨m - i, by omega⟩
  have hsz1 : (m : Int) - (i : Int) = (s : Int) := by omega
  have hsw1 : IntKind.i64.wrap ((m : Int) - (i : Int)) = (s : Int) := by rw [IntKind.wrap_i64]; omega
  by_cases heq : i = j
  ·subst heq
   have hez : ((i : Int) == (i : Int)) = true := by simp
   have Hcall : Hid (Calls P0 167 #[.slice (some ⟨blk, off, none⟩) len cap, .int .i64 s, .int .i64 m, .int .i64 i, .func (.func g) #[] cb] wr fun e w' => e = .returned (.tuple #[]) ∧ SWK enc k w0 blk off T.toArray w') := Lib.hid (by
    obtain ⟨P', X', Y', Q', h1, h2, h3, h4, S1, h5⟩ := Hs.out
    rw [← h5]
    exact yh1 HL.out _ P' X' [] Y' Q' s m i len cap wr (by omega) h2 h3 (by simp; omega) h4 hsz HR.out Hd.out S1)
   clear Hs
   go_wp2_with (go_at_fn 167; refine Hcall.out.mono ?_; rintro e w' ⟨rfl, S2⟩)
   go_end0
   exact ⟨rfl, S2⟩
  ·have hez : ((i : Int) == (j : Int)) = false := by simp; omega
   have hnz : ¬ (i : Int) = (j : Int) := by omega
   by_cases hgt : j < i
   ·have hgz : (j : Int) < (i : Int) := by omega
    have hdz : (i : Int) - (j : Int) = ((i - j : Nat) : Int) := by omega
    have hdw : IntKind.i64.wrap ((i : Int) - (j : Int)) = ((i - j : Nat) : Int) := by rw [IntKind.wrap_i64]; omega
    have Hcall : Hid (Calls P0 167 #[.slice (some ⟨blk, off, none⟩) len cap, .int .i64 s, .int .i64 m, .int .i64 j, .func (.func g) #[] cb] wr fun e w' => e = .returned (.tuple #[]) ∧ ∃ P' X' Y' Q' : List α, P'.length + (i - j) = m ∧ X'.length = i - j ∧ Y'.length = j ∧ (P' ++ (X' ++ (Y' ++ Q'))).length = len ∧ SWK enc k w0 blk off (P' ++ (X' ++ (Y' ++ Q'))).toArray w' ∧ P' ++ (Y' ++ (X' ++ Q')) = T) := Lib.hid (by
     obtain ⟨P', X', Y', Q', h1, h2, h3, h4, S1, h5⟩ := Hs.out
     have hX' : X' = X'.take j ++ X'.drop j := (List.take_append_drop j X').symm
     have hl : (X'.take j).length = j ∧ (X'.drop j).length = i - j := by rw [List.length_take, List.length_drop]; omega
     generalize X'.take j = X1 at hX' hl
     generalize X'.drop j = X2 at hX' hl
     subst hX'
     refine (yh1 HL.out _ P' X1 X2 Y' Q' s m j len cap wr (by omega) hl.1 h3 (by omega) (by rw [← h4]; simp) hsz HR.out Hd.out (by simpa using S1)).mono ?_
     rintro e w' ⟨rfl, S2⟩
     refine ⟨rfl, P' ++ Y', X2, X1, Q', by simp; omega, hl.2, hl.1, ?_, by simpa using S2, ?_⟩
     ·rw [← h4]; simp; omega
     ·rw [← h5]; simp)
    clear Hs
    go_wp2_with (go_at_fn 167; refine Hcall.out.mono ?_; rintro e w' ⟨rfl, S2⟩; have Hn := Lib.hid S2; clear S2)
    go_roundg (i - j + j)
    case measure => omega
    case rel => exact ⟨i - j, j, by go_num, rfl, by omega, hj, by omega, hjm, by omega, Hn⟩
   ·have hgz : ¬ (j : Int) < (i : Int) := by omega
    have hdz : (j : Int) - (i : Int) = ((j - i : Nat) : Int) := by omega
    have hdw : IntKind.i64.wrap ((j : Int) - (i : Int)) = ((j - i : Nat) : Int) := by rw [IntKind.wrap_i64]; omega
    obtain ⟨q, hq⟩ : ∃ q, m + j = q + i := ⟨m + j - i, by omega⟩
    have hqz : (m : Int) + (j : Int) - (i : Int) = (q : Int) := by omega
    have hqz1 : (m : Int) + (j : Int) = ((m + j : Nat) : Int) := by omega
    have hqw1 : IntKind.i64.wrap ((m : Int) + (j : Int)) = (m : Int) + (j : Int) := by rw [IntKind.wrap_i64]; omega
    have hqw : IntKind.i64.wrap ((m : Int) + (j : Int) - (i : Int)) = (q : Int) := by rw [IntKind.wrap_i64]; omega
    have Hcall : Hid (Calls P0 167 #[.slice (some ⟨blk, off, none⟩) len cap, .int .i64 s, .int .i64 q, .int .i64 i, .func (.func g) #[] cb] wr fun e w' => e = .returned (.tuple #[]) ∧ ∃ P' X' Y' Q' : List α, P'.length + i = m ∧ X'.length = i ∧ Y'.length = j - i ∧ (P' ++ (X' ++ (Y' ++ Q'))).length = len ∧ SWK enc k w0 blk off (P' ++ (X' ++ (Y' ++ Q'))).toArray w' ∧ P' ++ (Y' ++ (X' ++ Q')) = T) := Lib.hid (by
     obtain ⟨P', X', Y', Q', h1, h2, h3, h4, S1, h5⟩ := Hs.out
     have hY' : Y' = Y'.take (j - i) ++ Y'.drop (j - i) := (List.take_append_drop (j - i) Y').symm
     have hl : (Y'.take (j - i)).length = j - i ∧ (Y'.drop (j - i)).length = i := by rw [List.length_take, List.length_drop]; omega
     generalize Y'.take (j - i) = Y1 at hY' hl
     generalize Y'.drop (j - i) = Y2 at hY' hl
     subst hY'
     refine (yh1 HL.out _ P' X' Y1 Y2 Q' s q i len cap wr (by omega) h2 hl.2 (by omega) (by rw [← h4]; simp) hsz HR.out Hd.out (by simpa using S1)).mono ?_
     rintro e w' ⟨rfl, S2⟩
     refine ⟨rfl, P', Y2, Y1, X' ++ Q', by omega, hl.2, hl.1, ?_, by simpa using S2, ?_⟩
     ·rw [← h4]; simp; omega
     ·rw [← h5]; simp)
    clear Hs
    go_wp2_with (go_at_fn 167; refine Hcall.out.mono ?_; rintro e w' ⟨rfl, S2⟩; have Hn := Lib.hid S2; clear S2)
    go_roundg (i + (j - i))
    case measure => omega
    case rel => exact ⟨i, j - i, rfl, by go_num, hi, by omega, him, by omega, by omega, Hn⟩
end
section
variable {P0 : Program} {k : Nat} {α : Type} [Inhabited α] {enc : α → List Value} {w0 : World} {blk off : Nat} {d0 : Array α} {cf : α → α → Int} {no : α → Nat}
set_option maxHeartbeats 4000000 in
set_option maxRecDepth 1000000 in
theorem symm_one (L : ydU P0 k) (hO : SWO (ltOf cf)) (g : Nat) (cb : Array Value) (P X Y Q : List α) (a m b len cap : Nat) (w : World) (eg : ∀ args w, (callFunc g args).run P0 w = .ok (.enter g args) w) (hC : CmpLays P0 g cb enc k cf blk off len w0)
  (x0 : α) (hx0 : X = [x0]) (hY0 : 0 < Y.length) (hA : Both (ltOf cf) no P X Y Q (P ++ (X ++ (Y ++ Q))).toArray a m b len) (hsz : len < 4611686018427387904)
  (R : RowK enc k w0 blk off d0) (hd : d0.size = len) (S : SWK enc k w0 blk off (P ++ (X ++ (Y ++ Q))).toArray w) :
  Calls P0 162 #[.slice (some ⟨blk, off, none⟩) len cap, .int .i64 a, .int .i64 m, .int .i64 b, .func (.func g) #[] cb] w fun e w' =>
   e = .returned (.tuple #[]) ∧ ∃ Z, Z.Perm (X ++ Y) ∧ Z.Pairwise (sord (ltOf cf) no) ∧ SWK enc k w0 blk off (P ++ (Z ++ Q)).toArray w' := by
 have HA := Lib.hid hA
 have Hd := Lib.hid hd
 have HO := Lib.hid hO
 have HR : Aside (RowK enc k w0 blk off d0) := R
 have HC : Aside (CmpLays P0 g cb enc k cf blk off len w0) := hC
 obtain ⟨dk, hdk⟩ : ∃ dk, dk = (P ++ (X ++ (Y ++ Q))).toArray := ⟨_, rfl⟩
 have S0 : Aside (SWK enc k w0 blk off dk w) := by rw [hdk]; exact S
 have Hdk := Lib.hid hdk
 have Hs : Hid (dk.size = len) := Lib.hid (by rw [hdk]; exact hA.hlen)
 have hnum : m = a + 1 ∧ m < b ∧ b ≤ len := by have h1 := hA.size; have h2 := hA.hX; have h3 := hA.hY; have h4 : X.length = 1 := (by rw [hx0]; rfl); omega
 have hx1 : dk[a]! = x0 := by rw [hdk, hx0]; exact ydn P _ x0 a hA.hP.symm
 have Hmono : Hid (∀ s t, m ≤ s → s ≤ t → t < b → ltOf cf dk[t]! x0 = true → ltOf cf dk[s]! x0 = true) := Lib.hid fun s t h1 h2 h3 k => by
  rw [hdk] at *
  exact hA.right.lt_down hO s t h1 h2 h3 k
 clear hdk S hC R hd hA hO
 have mixed := L.mixed; have aE := L.aE; have zE := L.zE; have t0 := L.t0; have a0 := L.a0; have z0 := L.z0; have v0 := L.v0; have t3 := L.t3; have a3 := L.a3; have z3 := L.z3; have v3 := L.v3; have t4 := L.t4; have a4 := L.a4; have z4 := L.z4; have v4 := L.v4; have tS := L.tS; have aS := L.aS; have zS := L.zS; have vS := L.vS; have tF := L.tF; have aF := L.aF; have zF := L.zF; have vF := L.vF; have tU := L.tU; have aU := L.aU; have zU := L.zU; have vU := L.vU
 have uS := run_underlying L.tS; have uU := run_underlying L.tU; have u3 := run_underlying L.t3
 have FG := L.fsy
 clear L
 obtain ⟨hma, hmb, hbl⟩ := hnum
 have q1 : (m : Int) - (a : Int) = 1 := by omega
 have hma1 : a < m := by omega
 have hma2 : m ≤ a + 1 := by omega
 clear hma
 have q1b : (((m : Int) - (a : Int)) == 1) = true := by rw [q1]; decide
 go_enter FG, Tryz.ntmps162
 go_wp2
 clear q1 q1b
 go_loopg [10, 11, 12] (b - m) (fun gk vi vj vh wr => ∃ i j : Nat, vi = .int .i64 i ∧ vj = .int .i64 j ∧ m ≤ i ∧ i ≤ j ∧ j ≤ b ∧ j - i ≤ gk ∧ Aside (SWK enc k w0 blk off dk wr) ∧ Hid (∀ t, m ≤ t → t < i → ltOf cf dk[t]! x0 = true) ∧ Hid (∀ t, j ≤ t → t < b → ltOf cf dk[t]! x0 = false))
 case atStart => exact ⟨m, b, rfl, rfl, Nat.le_refl _, by omega, Nat.le_refl _, by omega, S0, fun t _ _ => by omega, fun t _ _ => by omega⟩
 case round =>
  obtain ⟨i, j, rfl, rfl, hi, hij, hjb, hg, S1, H1, H2⟩ := hrel
  clear S0
  by_cases hlt : i < j
  ·have hlz : (i : Int) < (j : Int) := by omega
   obtain ⟨h, hh⟩ : ∃ h, (i + j) / 2 = h := ⟨_, rfl⟩
   have sh : ((i : Int) + (j : Int)) / 2 = (h : Int) := by omega
   cases hlv : ltOf cf dk[h]! dk[a]! with
   | true =>
    have eA : ((h : Int)).toNat = h := by omega
    have pA : (0 : Int) ≤ (h : Int) := by omega
    have bA : (h : Int) < (len : Int) := by omega
    have rA : IntKind.i64.wrap ((h : Int)) = (h : Int) := by rw [IntKind.wrap_i64]; omega
    have eB : ((a : Int)).toNat = a := by omega
    have pB : (0 : Int) ≤ (a : Int) := by omega
    have bB : (a : Int) < (len : Int) := by omega
    have rB : IntKind.i64.wrap ((a : Int)) = (a : Int) := by rw [IntKind.wrap_i64]; omega
    obtain ⟨xv, hxv⟩ : ∃ x, x = dk[h]! := ⟨_, rfl⟩
    obtain ⟨yv, hyv⟩ : ∃ x, x = dk[a]! := ⟨_, rfl⟩
    have lA := S1.out.ld HR.out (by have := Hd.out; have := Hs.out; omega) P0 h (by have := Hs.out; omega)
    have lB := S1.out.ld HR.out (by have := Hd.out; have := Hs.out; omega) P0 a (by have := Hs.out; omega)
    rw [← hxv] at lA
    rw [← hyv] at lB
    have hC := S1.out.cmp HC.out Hs.out xv yv
    have hv : cf xv yv < 0 := by rw [hxv, hyv]; exact of_decide_eq_true hlv
    have hdv : decide (cf xv yv < 0) = true := decide_eq_true hv
    clear hxv hyv
    go_wp2_with fail
    go_quiet_grown (first | (go_at_fn g; refine Calls.grown_of (hC _ _)))
    have S2 : Aside (SWK enc k w0 blk off dk (Sort.grow (wr.drewN nq) osq)) := S1.out.grown nq osq
    clear lA lB hC S1
    generalize Sort.grow (wr.drewN nq) osq = wv at S2 ⊢
    clear nq osq
    go_wp2
    go_roundg (j - (h + 1))
    case measure => omega
    case rel => exact ⟨h + 1, j, by go_num, rfl, by omega, by omega, hjb, by omega, S2, fun t t1 t2 => Hmono.out t h t1 (by omega) (by omega) (by rw [← hx1]; exact hlv), H2.out⟩
   | false =>
    have eA : ((h : Int)).toNat = h := by omega
    have pA : (0 : Int) ≤ (h : Int) := by omega
    have bA : (h : Int) < (len : Int) := by omega
    have rA : IntKind.i64.wrap ((h : Int)) = (h : Int) := by rw [IntKind.wrap_i64]; omega
    have eB : ((a : Int)).toNat = a := by omega
    have pB : (0 : Int) ≤ (a : Int) := by omega
    have bB : (a : Int) < (len : Int) := by omega
    have rB : IntKind.i64.wrap ((a : Int)) = (a : Int) := by rw [IntKind.wrap_i64]; omega
    obtain ⟨xv, hxv⟩ : ∃ x, x = dk[h]! := ⟨_, rfl⟩
    obtain ⟨yv, hyv⟩ : ∃ x, x = dk[a]! := ⟨_, rfl⟩
    have lA := S1.out.ld HR.out (by have := Hd.out; have := Hs.out; omega) P0 h (by have := Hs.out; omega)
    have lB := S1.out.ld HR.out (by have := Hd.out; have := Hs.out; omega) P0 a (by have := Hs.out; omega)
    rw [← hxv] at lA
    rw [← hyv] at lB
    have hC := S1.out.cmp HC.out Hs.out xv yv
    have hv : ¬ cf xv yv < 0 := by rw [hxv, hyv]; exact of_decide_eq_false hlv
    have hdv : decide (cf xv yv < 0) = false := decide_eq_false hv
    clear hxv hyv
    go_wp2_with fail
    go_quiet_grown (first | (go_at_fn g; refine Calls.grown_of (hC _ _)))
    have S2 : Aside (SWK enc k w0 blk off dk (Sort.grow (wr.drewN nq) osq)) := S1.out.grown nq osq
    clear lA lB hC S1
    generalize Sort.grow (wr.drewN nq) osq = wv at S2 ⊢
    clear nq osq
    go_wp2
    go_roundg (h - i)
    case measure => omega
    case rel => exact ⟨i, h, rfl, rfl, hi, by omega, by omega, by omega, S2, H1.out, fun t t1 t2 => by
     cases e : ltOf cf dk[t]! x0 with
     | false => rfl
     | true => have := Hmono.out h t (by omega) t1 t2 e; rw [← hx1, hlv] at this; cases this⟩
  ·have hlz : ¬ (i : Int) < (j : Int) := by omega
   obtain rfl : i = j := by omega
   obtain ⟨T, hT⟩ : ∃ T, P ++ ((Y.take (i - m) ++ x0 :: Y.drop (i - m)) ++ Q) = T := ⟨_, rfl⟩
   have Hend : Hid (∀ W, SWK enc k w0 blk off T.toArray W → ∃ Z, Z.Perm (x0 :: Y) ∧ Z.Pairwise (sord (ltOf cf) no) ∧ SWK enc k w0 blk off (P ++ (Z ++ Q)).toArray W) := Lib.hid fun W SW => by
    have hA := HA.out
    have g1 := hA.take_right (fun y => ltOf cf y x0 = true) i hjb fun t t1 t2 => by rw [← Hdk.out]; exact H1.out t t1 t2
    have g2 := hA.drop_right (fun y => ltOf cf y x0 = false) i hi fun t t1 t2 => by rw [← Hdk.out]; exact H2.out t t1 t2
    have hY := hA.oY
    have hn := hA.hno
    rw [← List.take_append_drop (i - m) Y] at hY hn
    obtain ⟨o1, o2, o3⟩ := List.pairwise_append.1 hY
    refine ⟨Y.take (i - m) ++ x0 :: Y.drop (i - m), ?_, ?_, by rw [hT]; exact SW⟩
    ·refine List.perm_middle.trans ?_
     rw [List.take_append_drop]
    ·rw [List.pairwise_append]
     refine ⟨o1, List.pairwise_cons.2 ⟨fun y hy => Or.inr ⟨g2 y hy, hn x0 (by rw [hx0]; simp) y (List.mem_append_right _ hy)⟩, o2⟩, ?_⟩
     intro u hu v hv
     rcases List.mem_cons.1 hv with rfl | hv
     ·exact Or.inl (g1 u hu)
     ·exact o3 u hu v hv
   have Hst : Hid (∃ P' U : List α, P'.length = a ∧ U.length = i - 1 - a ∧ (P' ++ (x0 :: (U ++ (Y.drop (i - m) ++ Q)))).length = len ∧ SWK enc k w0 blk off (P' ++ (x0 :: (U ++ (Y.drop (i - m) ++ Q)))).toArray wr ∧ P' ++ (U ++ (x0 :: (Y.drop (i - m) ++ Q))) = T) := Lib.hid (by
    have hA := HA.out
    have hYl := hA.hY
    have e : P ++ (x0 :: (Y.take (i - m) ++ (Y.drop (i - m) ++ Q))) = P ++ (X ++ (Y ++ Q)) := by rw [hx0, ← List.append_assoc (Y.take (i - m)), List.take_append_drop]; rfl
    refine ⟨P, Y.take (i - m), hA.hP, by rw [List.length_take]; omega, ?_, ?_, ?_⟩
    ·rw [e]; have := hA.hlen; simpa using this
    ·rw [e, ← Hdk.out]; exact S1.out
    ·rw [← hT]; simp)
   generalize Y.drop (i - m) ++ Q = V at Hst
   have hi1 : (1 : Int) ≤ (i : Int) := by omega
   clear S1 H1 H2 Hmono HA Hdk hT Hs
   go_wp2
   go_loopg [13] (i - a) (fun gk vk wr => ∃ kk : Nat, vk = .int .i64 kk ∧ a ≤ kk ∧ kk + 1 ≤ i ∧ i - kk ≤ gk ∧ Hid (∃ P' U : List α, P'.length = kk ∧ U.length = i - 1 - kk ∧ (P' ++ (x0 :: (U ++ V))).length = len ∧ SWK enc k w0 blk off (P' ++ (x0 :: (U ++ V))).toArray wr ∧ P' ++ (U ++ (x0 :: V)) = T))
   case atStart => exact ⟨a, rfl, Nat.le_refl _, by omega, by omega, Hst⟩
   case round =>
    obtain ⟨kk, rfl, hk1, hk2, hg2, Hb⟩ := hrel
    clear Hst
    by_cases hlt2 : kk + 1 < i
    ·have hlz2 : (kk : Int) < (i : Int) - 1 := by omega
     obtain ⟨q, hq⟩ : ∃ q, kk + 1 = q := ⟨_, rfl⟩
     have hqz : (kk : Int) + 1 = (q : Int) := by omega
     obtain ⟨P', U, u1, u2, u3, S1, u4⟩ := Hb.out
     clear Hb
     cases U with
     | nil => simp at u2; omega
     | cons y U2 =>
     have hsw := ygs P' [] (U2 ++ V) x0 y kk q (by omega) (by simp; omega)
     have ha : P' ++ (x0 :: (y :: U2 ++ V)) = P' ++ x0 :: ([] ++ y :: (U2 ++ V)) := by simp
     rw [ha] at S1 u3
     have hds : (P' ++ x0 :: ([] ++ y :: (U2 ++ V))).toArray.size = d0.size := by rw [List.size_toArray, u3, Hd.out]
     have hdl : (P' ++ x0 :: ([] ++ y :: (U2 ++ V))).toArray.size = len := by rw [List.size_toArray, u3]
     have Hnew : Hid (∀ W, SWK enc k w0 blk off (swp (P' ++ x0 :: ([] ++ y :: (U2 ++ V))).toArray kk q) W → ∃ P' U : List α, P'.length = kk + 1 ∧ U.length = i - 1 - (kk + 1) ∧ (P' ++ (x0 :: (U ++ V))).length = len ∧ SWK enc k w0 blk off (P' ++ (x0 :: (U ++ V))).toArray W ∧ P' ++ (U ++ (x0 :: V)) = T) := Lib.hid fun W SW => by
      rw [hsw] at SW
      refine ⟨P' ++ [y], U2, by simp [u1], by simp at u2; omega, by rw [← u3]; simp <;> omega, by simpa using SW, by rw [← u4]; simp⟩
     generalize (P' ++ x0 :: ([] ++ y :: (U2 ++ V))).toArray = dj at *
     clear ha u1 u2 u3 u4 hsw
     have S2 : Aside (SWK enc k w0 blk off dj wr) := S1
     clear S1
     have eA : ((kk : Int)).toNat = kk := by omega
     have pA : (0 : Int) ≤ (kk : Int) := by omega
     have bA : (kk : Int) < (len : Int) := by omega
     have rA : IntKind.i64.wrap ((kk : Int)) = (kk : Int) := by rw [IntKind.wrap_i64]; omega
     have eB : ((q : Int)).toNat = q := by omega
     have pB : (0 : Int) ≤ (q : Int) := by omega
     have bB : (q : Int) < (len : Int) := by omega
     have rB : IntKind.i64.wrap ((q : Int)) = (q : Int) := by rw [IntKind.wrap_i64]; omega
     have S3 : Aside (SWK enc k w0 blk off (swp dj kk q) ((wr.drew.setCells blk (off + kk * k) (enc dj[q]!)).setCells blk (off + q * k) (enc dj[kk]!))) := S2.out.swapped HR.out kk q (by omega) (by omega)
     have lA := S2.out.ld1 HR.out hds P0 kk (by omega)
     have lB := S2.out.ld1 HR.out hds P0 q (by omega)
     have sA := S2.out.st1 HR.out hds P0 kk (by omega) dj[q]!
     have sB := S2.out.st2 HR.out hds P0 kk q (by omega) (by omega) dj[q]! dj[kk]!
     have nA : (enc dj[kk]!).length = k := HR.out.hk _
     have nB : (enc dj[q]!).length = k := HR.out.hk _
     generalize enc dj[kk]! = cI at S3 lA sB nA
     generalize enc dj[q]! = cJ at S3 lB sA sB nB
     clear S2
     go_wp2_with fail
     go_big_region_o
     clear lA lB sA sB
     generalize (wr.drew.setCells blk (off + kk * k) cJ).setCells blk (off + q * k) cI = w2 at S3 ⊢
     go_wp2
     go_roundg (i - (kk + 1))
     case measure => omega
     case rel => exact ⟨kk + 1, by go_num, by omega, by omega, by omega, Lib.hid (Hnew.out _ S3.out)⟩
    ·have hlz2 : ¬ (kk : Int) < (i : Int) - 1 := by omega
     go_wp2
     (try simp only [Exit.inBlock, Exit.then])
     refine bodyPost_ret (results_none rfl _ _ _) rfl ?_
     refine ⟨rfl, Hend.out _ ?_⟩
     obtain ⟨P', U, u1, u2, u3, S1, u4⟩ := Hb.out
     have e : U = [] := List.length_eq_zero_iff.1 (by omega)
     subst e
     rw [← u4]
     exact S1
end
section
variable {P0 : Program} {k : Nat} {α : Type} [Inhabited α] {enc : α → List Value} {w0 : World} {blk off : Nat} {d0 : Array α} {cf : α → α → Int} {no : α → Nat}
set_option maxHeartbeats 4000000 in
set_option maxRecDepth 1000000 in
theorem symm_two (L : ydU P0 k) (hO : SWO (ltOf cf)) (g : Nat) (cb : Array Value) (P X Y Q : List α) (a m b len cap : Nat) (w : World) (eg : ∀ args w, (callFunc g args).run P0 w = .ok (.enter g args) w) (hC : CmpLays P0 g cb enc k cf blk off len w0)
  (y0 : α) (hy0 : Y = [y0]) (hX0 : 1 < X.length) (hA : Both (ltOf cf) no P X Y Q (P ++ (X ++ (Y ++ Q))).toArray a m b len) (hsz : len < 4611686018427387904)
  (R : RowK enc k w0 blk off d0) (hd : d0.size = len) (S : SWK enc k w0 blk off (P ++ (X ++ (Y ++ Q))).toArray w) :
  Calls P0 162 #[.slice (some ⟨blk, off, none⟩) len cap, .int .i64 a, .int .i64 m, .int .i64 b, .func (.func g) #[] cb] w fun e w' =>
   e = .returned (.tuple #[]) ∧ ∃ Z, Z.Perm (X ++ Y) ∧ Z.Pairwise (sord (ltOf cf) no) ∧ SWK enc k w0 blk off (P ++ (Z ++ Q)).toArray w' := by
 have HA := Lib.hid hA
 have Hd := Lib.hid hd
 have HO := Lib.hid hO
 have HR : Aside (RowK enc k w0 blk off d0) := R
 have HC : Aside (CmpLays P0 g cb enc k cf blk off len w0) := hC
 obtain ⟨dk, hdk⟩ : ∃ dk, dk = (P ++ (X ++ (Y ++ Q))).toArray := ⟨_, rfl⟩
 have S0 : Aside (SWK enc k w0 blk off dk w) := by rw [hdk]; exact S
 have Hdk := Lib.hid hdk
 have Hs : Hid (dk.size = len) := Lib.hid (by rw [hdk]; exact hA.hlen)
 have hnum : a + 1 < m ∧ b = m + 1 ∧ b ≤ len := by have h1 := hA.size; have h2 := hA.hX; have h3 := hA.hY; have h4 : Y.length = 1 := (by rw [hy0]; rfl); omega
 have hx1 : dk[m]! = y0 := by
  rw [hdk, hy0, ← List.append_assoc]
  exact ydn (P ++ X) _ y0 m (by rw [List.length_append, hA.hP, hA.hX])
 have Hmono : Hid (∀ s t, a ≤ s → s ≤ t → t < m → ltOf cf y0 dk[t]! = false → ltOf cf y0 dk[s]! = false) := Lib.hid fun s t h1 h2 h3 k => by
  rw [hdk] at *
  exact hA.left.ge_down hO s t h1 h2 h3 k
 clear hdk S hC R hd hA hO
 have mixed := L.mixed; have aE := L.aE; have zE := L.zE; have t0 := L.t0; have a0 := L.a0; have z0 := L.z0; have v0 := L.v0; have t3 := L.t3; have a3 := L.a3; have z3 := L.z3; have v3 := L.v3; have t4 := L.t4; have a4 := L.a4; have z4 := L.z4; have v4 := L.v4; have tS := L.tS; have aS := L.aS; have zS := L.zS; have vS := L.vS; have tF := L.tF; have aF := L.aF; have zF := L.zF; have vF := L.vF; have tU := L.tU; have aU := L.aU; have zU := L.zU; have vU := L.vU
 have uS := run_underlying L.tS; have uU := run_underlying L.tU; have u3 := run_underlying L.t3
 have FG := L.fsy
 clear L
 obtain ⟨hma, hmb, hbl⟩ := hnum
 have q1 : (b : Int) - (m : Int) = 1 := by omega
 have hma1 : m < b := by omega
 have hma2 : b ≤ m + 1 := by omega
 clear hmb
 have q1b : (((b : Int) - (m : Int)) == 1) = true := by rw [q1]; decide
 have q0b : (((m : Int) - (a : Int)) == 1) = false := by simp; omega
 go_enter FG, Tryz.ntmps162
 go_wp2
 clear q0b
 clear q1 q1b
 go_loopg [14, 15, 16] (m - a) (fun gk vi vj vh wr => ∃ i j : Nat, vi = .int .i64 i ∧ vj = .int .i64 j ∧ a ≤ i ∧ i ≤ j ∧ j ≤ m ∧ j - i ≤ gk ∧ Aside (SWK enc k w0 blk off dk wr) ∧ Hid (∀ t, a ≤ t → t < i → ltOf cf y0 dk[t]! = false) ∧ Hid (∀ t, j ≤ t → t < m → ltOf cf y0 dk[t]! = true))
 case atStart => exact ⟨a, m, rfl, rfl, Nat.le_refl _, by omega, Nat.le_refl _, by omega, S0, fun t _ _ => by omega, fun t _ _ => by omega⟩
 case round =>
  obtain ⟨i, j, rfl, rfl, hi, hij, hjb, hg, S1, H1, H2⟩ := hrel
  clear S0
  by_cases hlt : i < j
  ·have hlz : (i : Int) < (j : Int) := by omega
   obtain ⟨h, hh⟩ : ∃ h, (i + j) / 2 = h := ⟨_, rfl⟩
   have sh : ((i : Int) + (j : Int)) / 2 = (h : Int) := by omega
   cases hlv : ltOf cf dk[m]! dk[h]! with
   | false =>
    have eA : ((m : Int)).toNat = m := by omega
    have pA : (0 : Int) ≤ (m : Int) := by omega
    have bA : (m : Int) < (len : Int) := by omega
    have rA : IntKind.i64.wrap ((m : Int)) = (m : Int) := by rw [IntKind.wrap_i64]; omega
    have eB : ((h : Int)).toNat = h := by omega
    have pB : (0 : Int) ≤ (h : Int) := by omega
    have bB : (h : Int) < (len : Int) := by omega
    have rB : IntKind.i64.wrap ((h : Int)) = (h : Int) := by rw [IntKind.wrap_i64]; omega
    obtain ⟨xv, hxv⟩ : ∃ x, x = dk[m]! := ⟨_, rfl⟩
    obtain ⟨yv, hyv⟩ : ∃ x, x = dk[h]! := ⟨_, rfl⟩
    have lA := S1.out.ld HR.out (by have := Hd.out; have := Hs.out; omega) P0 m (by have := Hs.out; omega)
    have lB := S1.out.ld HR.out (by have := Hd.out; have := Hs.out; omega) P0 h (by have := Hs.out; omega)
    rw [← hxv] at lA
    rw [← hyv] at lB
    have hC := S1.out.cmp HC.out Hs.out xv yv
    have hv : ¬ cf xv yv < 0 := by rw [hxv, hyv]; exact of_decide_eq_false hlv
    have hdv : decide (cf xv yv < 0) = false := decide_eq_false hv
    clear hxv hyv
    go_wp2_with fail
    go_quiet_grown (first | (go_at_fn g; refine Calls.grown_of (hC _ _)))
    have S2 : Aside (SWK enc k w0 blk off dk (Sort.grow (wr.drewN nq) osq)) := S1.out.grown nq osq
    clear lA lB hC S1
    generalize Sort.grow (wr.drewN nq) osq = wv at S2 ⊢
    clear nq osq
    go_wp2
    go_roundg (j - (h + 1))
    case measure => omega
    case rel => exact ⟨h + 1, j, by go_num, rfl, by omega, by omega, hjb, by omega, S2, fun t t1 t2 => Hmono.out t h t1 (by omega) (by omega) (by rw [← hx1]; exact hlv), H2.out⟩
   | true =>
    have eA : ((m : Int)).toNat = m := by omega
    have pA : (0 : Int) ≤ (m : Int) := by omega
    have bA : (m : Int) < (len : Int) := by omega
    have rA : IntKind.i64.wrap ((m : Int)) = (m : Int) := by rw [IntKind.wrap_i64]; omega
    have eB : ((h : Int)).toNat = h := by omega
    have pB : (0 : Int) ≤ (h : Int) := by omega
    have bB : (h : Int) < (len : Int) := by omega
    have rB : IntKind.i64.wrap ((h : Int)) = (h : Int) := by rw [IntKind.wrap_i64]; omega
    obtain ⟨xv, hxv⟩ : ∃ x, x = dk[m]! := ⟨_, rfl⟩
    obtain ⟨yv, hyv⟩ : ∃ x, x = dk[h]! := ⟨_, rfl⟩
    have lA := S1.out.ld HR.out (by have := Hd.out; have := Hs.out; omega) P0 m (by have := Hs.out; omega)
    have lB := S1.out.ld HR.out (by have := Hd.out; have := Hs.out; omega) P0 h (by have := Hs.out; omega)
    rw [← hxv] at lA
    rw [← hyv] at lB
    have hC := S1.out.cmp HC.out Hs.out xv yv
    have hv : cf xv yv < 0 := by rw [hxv, hyv]; exact of_decide_eq_true hlv
    have hdv : decide (cf xv yv < 0) = true := decide_eq_true hv
    clear hxv hyv
    go_wp2_with fail
    go_quiet_grown (first | (go_at_fn g; refine Calls.grown_of (hC _ _)))
    have S2 : Aside (SWK enc k w0 blk off dk (Sort.grow (wr.drewN nq) osq)) := S1.out.grown nq osq
    clear lA lB hC S1
    generalize Sort.grow (wr.drewN nq) osq = wv at S2 ⊢
    clear nq osq
    go_wp2
    go_roundg (h - i)
    case measure => omega
    case rel => exact ⟨i, h, rfl, rfl, hi, by omega, by omega, by omega, S2, H1.out, fun t t1 t2 => by
     cases e : ltOf cf y0 dk[t]! with
     | true => rfl
     | false => have := Hmono.out h t (by omega) t1 t2 e; rw [← hx1, hlv] at this; cases this⟩
  ·have hlz : ¬ (i : Int) < (j : Int) := by omega
   obtain rfl : i = j := by omega
   obtain ⟨T, hT⟩ : ∃ T, P ++ ((X.take (i - a) ++ y0 :: X.drop (i - a)) ++ Q) = T := ⟨_, rfl⟩
   have Hend : Hid (∀ W, SWK enc k w0 blk off T.toArray W → ∃ Z, Z.Perm (X ++ [y0]) ∧ Z.Pairwise (sord (ltOf cf) no) ∧ SWK enc k w0 blk off (P ++ (Z ++ Q)).toArray W) := Lib.hid fun W SW => by
    have hA := HA.out
    have g1 := hA.take_left (fun y => ltOf cf y0 y = false) i hjb fun t t1 t2 => by rw [← Hdk.out]; exact H1.out t t1 t2
    have g2 := hA.drop_left (fun y => ltOf cf y0 y = true) i hi fun t t1 t2 => by rw [← Hdk.out]; exact H2.out t t1 t2
    have hX := hA.oX
    have hn := hA.hno
    rw [← List.take_append_drop (i - a) X] at hX hn
    obtain ⟨o1, o2, o3⟩ := List.pairwise_append.1 hX
    refine ⟨X.take (i - a) ++ y0 :: X.drop (i - a), ?_, ?_, by rw [hT]; exact SW⟩
    ·refine List.perm_middle.trans ?_
     rw [List.take_append_drop]
     exact List.perm_append_comm (l₁ := [y0])
    ·rw [List.pairwise_append]
     refine ⟨o1, List.pairwise_cons.2 ⟨fun y hy => Or.inl (g2 y hy), o2⟩, ?_⟩
     intro u hu v hv
     rcases List.mem_cons.1 hv with e | hv
     ·rw [e]; exact Or.inr ⟨g1 u hu, hn u (List.mem_append_left _ hu) y0 (by rw [hy0]; simp)⟩
     ·exact o3 u hu v hv
   have Hst : Hid (∃ U V : List α, i + U.length = m ∧ ((P ++ X.take (i - a)) ++ (U ++ (y0 :: V))).length = len ∧ SWK enc k w0 blk off ((P ++ X.take (i - a)) ++ (U ++ (y0 :: V))).toArray wr ∧ (P ++ X.take (i - a)) ++ (y0 :: (U ++ V)) = T) := Lib.hid (by
    have hA := HA.out
    have hXl := hA.hX
    have e : (P ++ X.take (i - a)) ++ (X.drop (i - a) ++ (y0 :: Q)) = P ++ (X ++ (Y ++ Q)) := by rw [hy0, List.append_assoc, ← List.append_assoc (X.take (i - a)), List.take_append_drop]; rfl
    refine ⟨X.drop (i - a), Q, by rw [List.length_drop]; omega, ?_, ?_, ?_⟩
    ·rw [e]; have := hA.hlen; simpa using this
    ·rw [e, ← Hdk.out]; exact S1.out
    ·rw [← hT]; simp)
   have hPl : (P ++ X.take (i - a)).length = i := by have := HA.out.hP; have := HA.out.hX; rw [List.length_append, List.length_take]; omega
   generalize P ++ X.take (i - a) = P1 at Hst hPl
   clear S1 H1 H2 Hmono HA Hdk hT Hs
   go_wp2
   go_loopg [17] (m - i) (fun gk vk wr => ∃ kk : Nat, vk = .int .i64 kk ∧ i ≤ kk ∧ kk ≤ m ∧ kk - i ≤ gk ∧ Hid (∃ U V : List α, i + U.length = kk ∧ (P1 ++ (U ++ (y0 :: V))).length = len ∧ SWK enc k w0 blk off (P1 ++ (U ++ (y0 :: V))).toArray wr ∧ P1 ++ (y0 :: (U ++ V)) = T))
   case atStart => exact ⟨m, rfl, hjb, Nat.le_refl _, by omega, Hst⟩
   case round =>
    obtain ⟨kk, rfl, hk1, hk2, hg2, Hb⟩ := hrel
    clear Hst
    by_cases hlt2 : i < kk
    ·have hlz2 : (i : Int) < (kk : Int) := by omega
     obtain ⟨q, hq⟩ : ∃ q, q + 1 = kk := ⟨kk - 1, by omega⟩
     have hqz : (kk : Int) - 1 = (q : Int) := by omega
     have hqw : IntKind.i64.wrap ((kk : Int) - 1) = (q : Int) := by rw [IntKind.wrap_i64]; omega
     obtain ⟨U, V, u2, u3, S1, u4⟩ := Hb.out
     clear Hb
     obtain ⟨U2, y, rfl⟩ : ∃ U2 y, U = U2 ++ [y] := by
      rcases List.eq_nil_or_concat U with e | ⟨U2, y, e⟩
      ·rw [e] at u2; simp at u2; omega
      ·exact ⟨U2, y, by simpa using e⟩
     have hul : (P1 ++ U2).length = q := by rw [List.length_append]; rw [List.length_append] at u2; simp at u2; omega
     have hsw := ygs (P1 ++ U2) [] V y y0 q kk hul.symm (by rw [hul]; simp; omega)
     have ha : P1 ++ ((U2 ++ [y]) ++ (y0 :: V)) = (P1 ++ U2) ++ y :: ([] ++ y0 :: V) := by simp
     rw [ha] at S1 u3
     have hds : ((P1 ++ U2) ++ y :: ([] ++ y0 :: V)).toArray.size = d0.size := by rw [List.size_toArray, u3, Hd.out]
     have hdl : ((P1 ++ U2) ++ y :: ([] ++ y0 :: V)).toArray.size = len := by rw [List.size_toArray, u3]
     rw [swp_comm' _ _ _ (by omega) (by omega)] at hsw
     have Hnew : Hid (∀ W, SWK enc k w0 blk off (swp ((P1 ++ U2) ++ y :: ([] ++ y0 :: V)).toArray kk q) W → ∃ U V : List α, i + U.length = q ∧ (P1 ++ (U ++ (y0 :: V))).length = len ∧ SWK enc k w0 blk off (P1 ++ (U ++ (y0 :: V))).toArray W ∧ P1 ++ (y0 :: (U ++ V)) = T) := Lib.hid fun W SW => by
      rw [hsw] at SW
      refine ⟨U2, y :: V, by rw [List.length_append] at hul; omega, by rw [← u3]; simp, by simpa using SW, by rw [← u4]; simp⟩
     generalize ((P1 ++ U2) ++ y :: ([] ++ y0 :: V)).toArray = dj at *
     clear ha u2 u3 u4 hsw
     have S2 : Aside (SWK enc k w0 blk off dj wr) := S1
     clear S1
     have eA : ((kk : Int)).toNat = kk := by omega
     have pA : (0 : Int) ≤ (kk : Int) := by omega
     have bA : (kk : Int) < (len : Int) := by omega
     have rA : IntKind.i64.wrap ((kk : Int)) = (kk : Int) := by rw [IntKind.wrap_i64]; omega
     have eB : ((q : Int)).toNat = q := by omega
     have pB : (0 : Int) ≤ (q : Int) := by omega
     have bB : (q : Int) < (len : Int) := by omega
     have rB : IntKind.i64.wrap ((q : Int)) = (q : Int) := by rw [IntKind.wrap_i64]; omega
     have S3 : Aside (SWK enc k w0 blk off (swp dj kk q) ((wr.drew.setCells blk (off + kk * k) (enc dj[q]!)).setCells blk (off + q * k) (enc dj[kk]!))) := S2.out.swapped HR.out kk q (by omega) (by omega)
     have lA := S2.out.ld1 HR.out hds P0 kk (by omega)
     have lB := S2.out.ld1 HR.out hds P0 q (by omega)
     have sA := S2.out.st1 HR.out hds P0 kk (by omega) dj[q]!
     have sB := S2.out.st2 HR.out hds P0 kk q (by omega) (by omega) dj[q]! dj[kk]!
     have nA : (enc dj[kk]!).length = k := HR.out.hk _
     have nB : (enc dj[q]!).length = k := HR.out.hk _
     generalize enc dj[kk]! = cI at S3 lA sB nA
     generalize enc dj[q]! = cJ at S3 lB sA sB nB
     clear S2
     go_wp2_with fail
     go_big_region_o
     clear lA lB sA sB
     generalize (wr.drew.setCells blk (off + kk * k) cJ).setCells blk (off + q * k) cI = w2 at S3 ⊢
     go_wp2
     go_roundg (q - i)
     case measure => omega
     case rel => exact ⟨q, by first | rfl | go_num, by omega, by omega, by omega, Lib.hid (Hnew.out _ S3.out)⟩
    ·have hlz2 : ¬ (i : Int) < (kk : Int) := by omega
     go_wp2
     (try simp only [Exit.inBlock, Exit.then])
     refine bodyPost_ret (results_none rfl _ _ _) rfl ?_
     refine ⟨rfl, Hend.out _ ?_⟩
     obtain ⟨U, V, u2, u3, S1, u4⟩ := Hb.out
     have e : U = [] := List.length_eq_zero_iff.1 (by omega)
     subst e
     rw [← u4]
     exact S1
end
end Go.Proofs.YtoinjdmlembgeaaGreat
