/-
  Go's stable sort of a row of structs of two cells: its insertion sort (the library's contract), the exchange of two stretches.
-/
import Derived.Test.YtehpnfijpddcfaaStabM
import Derived.Test.YtehpnfijpddcfaaLenS
import Derived.Sort.WalkB2
import Derived.Sort.WalkB12
import Derived.Deep.LoopGhost
namespace Go.Proofs.Ytehpnfijpddcfaa
set_option linter.unusedSimpArgs false
set_option linter.unusedVariables false
open Go.ChangeShapes Go.WideShapes Go.ChangeAt Go.RowKit Go.Joins Go.Deep Go.Shelf Go.Lib
open Go.Sort (SWO swp size_swp HoldsK)

def stRen : Ren := ⟨fun _ => 39, fun t => if t = 22 then 35 else if t = 24 then 40 else if t = 25 then 52 else t, fun g => g⟩
theorem stLays : SlLaysF0.n20 Try.prog stRen where
  mixed := by kernel_rfl
  f20 := ⟨Try.f39.name, by kernel_rfl, Try.func39.trans (by kernel_rfl)⟩
  t0 := by kernel_rfl
  a0 := Try.isAgg0
  z0 := Try.sizeOf0
  v0 := Try.zeroValue0
  t3 := by kernel_rfl
  a3 := Try.isAgg3
  z3 := Try.sizeOf3
  v3 := Try.zeroValue3
  t4 := by kernel_rfl
  a4 := Try.isAgg4
  z4 := Try.sizeOf4
  v4 := Try.zeroValue4
  t22 := by kernel_rfl
  a22 := Try.isAgg35
  z22 := Try.sizeOf35
  v22 := Try.zeroValue35
  t25 := by kernel_rfl
  a25 := Try.isAgg52
  z25 := Try.sizeOf52
  v25 := Try.zeroValue52

/-- What the sort's bodies lean on, over any program, the size of an element a letter. -/
structure StLays (P : Program) (k : Nat) : Prop where
  mixed : P.follows .mixedOrders = true
  aE : ∀ w, (isAgg 40).run P w = .ok true w
  zE : ∀ w, (Go.sizeOf 40).run P w = .ok k w
  t0 : P.underlying 0 = some (TypeDesc.tuple #[])
  a0 : ∀ w, (isAgg 0).run P w = .ok false w
  z0 : ∀ w, (Go.sizeOf 0).run P w = .ok 1 w
  v0 : ∀ w, (zeroValue 0).run P w = .ok (Value.tuple #[]) w
  t3 : P.underlying 3 = some (TypeDesc.int IntKind.i64)
  a3 : ∀ w, (isAgg 3).run P w = .ok false w
  z3 : ∀ w, (Go.sizeOf 3).run P w = .ok 1 w
  v3 : ∀ w, (zeroValue 3).run P w = .ok (Value.int IntKind.i64 0) w
  t4 : P.underlying 4 = some (TypeDesc.bool)
  a4 : ∀ w, (isAgg 4).run P w = .ok false w
  z4 : ∀ w, (Go.sizeOf 4).run P w = .ok 1 w
  v4 : ∀ w, (zeroValue 4).run P w = .ok (Value.bool false) w
  tS : P.underlying 35 = some (TypeDesc.slice 40)
  aS : ∀ w, (isAgg 35).run P w = .ok false w
  zS : ∀ w, (Go.sizeOf 35).run P w = .ok 1 w
  vS : ∀ w, (zeroValue 35).run P w = .ok (Value.slice none 0 0) w
  tF : P.underlying 52 = some (TypeDesc.func #[40, 40] #[3] false)
  aF : ∀ w, (isAgg 52).run P w = .ok false w
  zF : ∀ w, (Go.sizeOf 52).run P w = .ok 1 w
  vF : ∀ w, (zeroValue 52).run P w = .ok (Value.nilFunc) w
  tU : P.underlying 63 = some (TypeDesc.int IntKind.u64)
  aU : ∀ w, (isAgg 63).run P w = .ok false w
  zU : ∀ w, (Go.sizeOf 63).run P w = .ok 1 w
  vU : ∀ w, (zeroValue 63).run P w = .ok (Value.int IntKind.u64 0) w
  fsw : P.funcs[45]? = some Try.f45
  fro : P.funcs[43]? = some Try.f43
  fsy : P.funcs[40]? = some Try.f40
  fst : P.funcs[36]? = some Try.f36
  fin : P.funcs[39]? = some Try.f39
theorem stAll : StLays Try.prog 2 where
  mixed := by kernel_rfl
  aE := Try.isAgg40
  zE := Try.sizeOf40
  t0 := by kernel_rfl
  a0 := Try.isAgg0
  z0 := Try.sizeOf0
  v0 := Try.zeroValue0
  t3 := by kernel_rfl
  a3 := Try.isAgg3
  z3 := Try.sizeOf3
  v3 := Try.zeroValue3
  t4 := by kernel_rfl
  a4 := Try.isAgg4
  z4 := Try.sizeOf4
  v4 := Try.zeroValue4
  tS := by kernel_rfl
  aS := Try.isAgg35
  zS := Try.sizeOf35
  vS := Try.zeroValue35
  tF := by kernel_rfl
  aF := Try.isAgg52
  zF := Try.sizeOf52
  vF := Try.zeroValue52
  tU := by kernel_rfl
  aU := Try.isAgg63
  zU := Try.sizeOf63
  vU := Try.zeroValue63
  fsw := Try.func45
  fro := Try.func43
  fsy := Try.func40
  fst := Try.func36
  fin := Try.func39

section
variable {P0 : Program} {k : Nat} {α : Type} [Inhabited α] {enc : α → List Value} {w0 : World} {blk off : Nat} {d0 : Array α}
set_option maxHeartbeats 4000000 in
set_option maxRecDepth 1000000 in
/-- Two stretches change places. -/
theorem swapr_any (L : StLays P0 k) (F : Value) (P X M Y Q : List α) (a b n len cap : Nat) (w : World) (hP : P.length = a) (hX : X.length = n) (hY : Y.length = n) (hM : a + n + M.length = b) (hlen : (P ++ (X ++ (M ++ (Y ++ Q)))).length = len) (hsz : len < 4611686018427387904)
    (R : RowK enc k w0 blk off d0) (hd : d0.size = len) (S : SWK enc k w0 blk off (P ++ (X ++ (M ++ (Y ++ Q)))).toArray w) :
    Calls P0 45 #[.slice (some ⟨blk, off, none⟩) len cap, .int .i64 a, .int .i64 b, .int .i64 n, F] w fun e w' =>
      e = .returned (.tuple #[]) ∧ SWK enc k w0 blk off (P ++ (Y ++ (M ++ (X ++ Q)))).toArray w' := by
  obtain ⟨T, hT⟩ : ∃ T, P ++ (Y ++ (M ++ (X ++ Q))) = T := ⟨_, rfl⟩
  rw [hT]
  have Hd := Lib.hid hd
  have HR : Aside (RowK enc k w0 blk off d0) := R
  have Hst : Hid (∃ P' X' M' Y' : List α, P'.length = a + 0 ∧ X'.length = n - 0 ∧ Y'.length = n - 0 ∧ a + n + M'.length = b + 0 ∧ (P' ++ (X' ++ (M' ++ (Y' ++ Q)))).length = len ∧ SWK enc k w0 blk off (P' ++ (X' ++ (M' ++ (Y' ++ Q)))).toArray w ∧ P' ++ (Y' ++ (M' ++ (X' ++ Q))) = T) := ⟨P, X, M, Y, hP, hX, hY, hM, hlen, S, hT⟩
  have hbl : b + n ≤ len ∧ a + n ≤ b := by simp only [List.length_append] at hlen; omega
  have mixed := L.mixed; have aE := L.aE; have zE := L.zE; have t0 := L.t0; have a0 := L.a0; have z0 := L.z0; have v0 := L.v0; have t3 := L.t3; have a3 := L.a3; have z3 := L.z3; have v3 := L.v3; have t4 := L.t4; have a4 := L.a4; have z4 := L.z4; have v4 := L.v4; have tS := L.tS; have aS := L.aS; have zS := L.zS; have vS := L.vS; have tF := L.tF; have aF := L.aF; have zF := L.zF; have vF := L.vF; have tU := L.tU; have aU := L.aU; have zU := L.zU; have vU := L.vU
  have uS := run_underlying L.tS; have uU := run_underlying L.tU; have u3 := run_underlying L.t3
  clear hT S hP hX hY hM hlen R hd P X M Y
  have FG := L.fsw
  go_enter FG, Try.ntmps45
  go_wp2
  go_loopg [10] n (fun g vi wr => ∃ i : Nat, vi = .int .i64 i ∧ i ≤ n ∧ n - i ≤ g ∧ Hid (∃ P' X' M' Y' : List α, P'.length = a + i ∧ X'.length = n - i ∧ Y'.length = n - i ∧ a + n + M'.length = b + i ∧ (P' ++ (X' ++ (M' ++ (Y' ++ Q)))).length = len ∧ SWK enc k w0 blk off (P' ++ (X' ++ (M' ++ (Y' ++ Q)))).toArray wr ∧ P' ++ (Y' ++ (M' ++ (X' ++ Q))) = T))
  case atStart => exact ⟨0, rfl, by omega, by omega, Hst⟩
  case round =>
    obtain ⟨i, rfl, hi, hg, Hs⟩ := hrel
    clear Hst
    by_cases hlt : i < n
    · have hlz : (i : Int) < (n : Int) := by omega
      obtain ⟨p, hp⟩ : ∃ p, a + i = p := ⟨_, rfl⟩
      obtain ⟨q, hq⟩ : ∃ q, b + i = q := ⟨_, rfl⟩
      have hpz : (a : Int) + (i : Int) = (p : Int) := by omega
      have hqz : (b : Int) + (i : Int) = (q : Int) := by omega
      have hpw : IntKind.i64.wrap ((a : Int) + (i : Int)) = (p : Int) := by rw [IntKind.wrap_i64]; omega
      have hqw : IntKind.i64.wrap ((b : Int) + (i : Int)) = (q : Int) := by rw [IntKind.wrap_i64]; omega
      have hpb : (0 : Int) ≤ (p : Int) ∧ (p : Int) < (len : Int) := by omega
      have hqb : (0 : Int) ≤ (q : Int) ∧ (q : Int) < (len : Int) := by omega
      obtain ⟨P', X', M', Y', h1, h2, h3, h4, h5, S1, h6⟩ := Hs.out
      clear Hs
      cases X' with
      | nil => simp at h2; omega
      | cons x X2 =>
      cases Y' with
      | nil => simp at h3; omega
      | cons y Y2 =>
      have ha : P' ++ (x :: X2 ++ (M' ++ (y :: Y2 ++ Q))) = P' ++ x :: ((X2 ++ M') ++ y :: (Y2 ++ Q)) := by simp
      have hb2 : P' ++ y :: ((X2 ++ M') ++ x :: (Y2 ++ Q)) = (P' ++ [y]) ++ (X2 ++ ((M' ++ [x]) ++ (Y2 ++ Q))) := by simp
      rw [ha] at S1 h5
      have hxl : (X2 ++ M').length + 1 + p = q := by simp only [List.length_append, List.length_cons] at h2 ⊢; omega
      have hsw := swp_list P' (X2 ++ M') (Y2 ++ Q) x y p q (by omega) (by omega)
      have hgx : (P' ++ x :: ((X2 ++ M') ++ y :: (Y2 ++ Q))).toArray[p]! = x := get_mid P' _ x p (by omega)
      have hgy : (P' ++ x :: ((X2 ++ M') ++ y :: (Y2 ++ Q))).toArray[q]! = y := by
        rw [show P' ++ x :: ((X2 ++ M') ++ y :: (Y2 ++ Q)) = (P' ++ x :: (X2 ++ M')) ++ y :: (Y2 ++ Q) from by simp]
        exact get_mid _ _ y q (by rw [List.length_append, List.length_cons]; omega)
      have hsl : (P' ++ x :: ((X2 ++ M') ++ y :: (Y2 ++ Q))).toArray.size = len := by rw [List.size_toArray]; exact h5
      have Hnew : Hid (∀ W, SWK enc k w0 blk off (P' ++ y :: ((X2 ++ M') ++ x :: (Y2 ++ Q))).toArray W → ∃ P' X' M' Y' : List α, P'.length = a + (i + 1) ∧ X'.length = n - (i + 1) ∧ Y'.length = n - (i + 1) ∧ a + n + M'.length = b + (i + 1) ∧ (P' ++ (X' ++ (M' ++ (Y' ++ Q)))).length = len ∧ SWK enc k w0 blk off (P' ++ (X' ++ (M' ++ (Y' ++ Q)))).toArray W ∧ P' ++ (Y' ++ (M' ++ (X' ++ Q))) = T) := Lib.hid fun W S => by
        rw [hb2] at S
        refine ⟨P' ++ [y], X2, M' ++ [x], Y2, by simp; omega, by simp at h2; omega, by simp at h3; omega, by simp; omega, ?_, S, ?_⟩
        · rw [← h5]; simp <;> omega
        · rw [← h6]; simp
      rw [← hsw] at Hnew
      generalize (P' ++ x :: ((X2 ++ M') ++ y :: (Y2 ++ Q))).toArray = dk at *
      clear ha hb2 h1 h2 h3 h4 h5 h6 hsw hxl
      have hds : dk.size = d0.size := by have := Hd.out; omega
      have S2 : Aside (SWK enc k w0 blk off (swp dk p q) ((wr.drew.setCells blk (off + p * k) (enc dk[q]!)).setCells blk (off + q * k) (enc dk[p]!))) := S1.swapped HR.out p q (by omega) (by omega)
      have l1 := S1.ld1 HR.out hds P0 p (by omega)
      have l2 := S1.ld1 HR.out hds P0 q (by omega)
      have s1 := S1.st1 HR.out hds P0 p (by omega) dk[q]!
      have s2 := S1.st2 HR.out hds P0 p q (by omega) (by omega) dk[q]! dk[p]!
      have n1 : (enc dk[p]!).length = k := HR.out.hk _
      have n2 : (enc dk[q]!).length = k := HR.out.hk _
      generalize enc dk[p]! = cI at S2 l1 s2 n1
      generalize enc dk[q]! = cJ at S2 l2 s1 s2 n2
      clear S1 hgx hgy hds hsl
      go_wp2_with fail
      go_big_region_o
      clear l1 l2 s1 s2
      generalize (wr.drew.setCells blk (off + p * k) cJ).setCells blk (off + q * k) cI = w2 at S2 ⊢
      go_wp2
      go_roundg (n - (i + 1))
      case measure => omega
      case rel => exact ⟨i + 1, by go_num, by omega, by omega, Lib.hid (Hnew.out _ S2.out)⟩
    · have hlz : ¬ (i : Int) < (n : Int) := by omega
      have hin : i = n := by omega
      subst hin
      go_wp2
      go_end0
      refine ⟨rfl, ?_⟩
      obtain ⟨P', X', M', Y', h1, h2, h3, h4, h5, S1, h6⟩ := Hs.out
      have e1 : X' = [] := List.length_eq_zero_iff.1 (by omega)
      have e2 : Y' = [] := List.length_eq_zero_iff.1 (by omega)
      subst e1 e2
      rw [← h6]
      exact S1
end
end Go.Proofs.Ytehpnfijpddcfaa
