/-
  Go's stable sort of a row of structs: a stretch is rotated.
-/
import Derived.Test.YtehpnfijpddcfaaStabA
namespace Go.Proofs.Ytehpnfijpddcfaa
set_option linter.unusedSimpArgs false
set_option linter.unusedVariables false
open Go.ChangeShapes Go.WideShapes Go.ChangeAt Go.RowKit Go.Joins Go.Deep Go.Shelf Go.Lib
open Go.Sort (SWO swp size_swp HoldsK)

section
variable {P0 : Program} {k : Nat} {α : Type} [Inhabited α] {enc : α → List Value} {w0 : World} {blk off : Nat} {d0 : Array α}
set_option maxHeartbeats 4000000 in
set_option maxRecDepth 1000000 in
/-- Two stretches, one behind the other, change places. -/
theorem rotate_any (L : StLays P0 k) (g : Nat) (cb : Array Value) (P X Y Q : List α) (a m b len cap : Nat) (w : World) (hP : P.length = a) (hX : a + X.length = m) (hY : m + Y.length = b) (hX0 : 0 < X.length) (hY0 : 0 < Y.length) (hlen : (P ++ (X ++ (Y ++ Q))).length = len) (hsz : len < 4611686018427387904)
    (R : RowK enc k w0 blk off d0) (hd : d0.size = len) (S : SWK enc k w0 blk off (P ++ (X ++ (Y ++ Q))).toArray w) :
    Calls P0 43 #[.slice (some ⟨blk, off, none⟩) len cap, .int .i64 a, .int .i64 m, .int .i64 b, .func (.func g) #[] cb] w fun e w' =>
      e = .returned (.tuple #[]) ∧ SWK enc k w0 blk off (P ++ (Y ++ (X ++ Q))).toArray w' := by
  obtain ⟨T, hT⟩ : ∃ T, P ++ (Y ++ (X ++ Q)) = T := ⟨_, rfl⟩
  rw [hT]
  have HL := Lib.hid L
  have Hd := Lib.hid hd
  have HR : Aside (RowK enc k w0 blk off d0) := R
  obtain ⟨i0, hi0⟩ : ∃ i0, X.length = i0 := ⟨_, rfl⟩
  obtain ⟨j0, hj0⟩ : ∃ j0, Y.length = j0 := ⟨_, rfl⟩
  rw [hi0] at hX hX0
  rw [hj0] at hY hY0
  have Hst : Hid (∃ P' X' Y' Q' : List α, P'.length + i0 = m ∧ X'.length = i0 ∧ Y'.length = j0 ∧ (P' ++ (X' ++ (Y' ++ Q'))).length = len ∧ SWK enc k w0 blk off (P' ++ (X' ++ (Y' ++ Q'))).toArray w ∧ P' ++ (Y' ++ (X' ++ Q')) = T) := ⟨P, X, Y, Q, by omega, hi0, hj0, hlen, S, hT⟩
  have hbl : m + j0 ≤ len ∧ i0 ≤ m := by simp only [List.length_append] at hlen; omega
  have hiz : (m : Int) - (a : Int) = (i0 : Int) := by omega
  have hjz : (b : Int) - (m : Int) = (j0 : Int) := by omega
  have hiw : IntKind.i64.wrap ((m : Int) - (a : Int)) = (i0 : Int) := by rw [IntKind.wrap_i64]; omega
  have hjw : IntKind.i64.wrap ((b : Int) - (m : Int)) = (j0 : Int) := by rw [IntKind.wrap_i64]; omega
  clear hT S hP hX hY hlen R hd hi0 hj0 P X Y Q
  have mixed := L.mixed; have aE := L.aE; have zE := L.zE; have t0 := L.t0; have a0 := L.a0; have z0 := L.z0; have v0 := L.v0; have t3 := L.t3; have a3 := L.a3; have z3 := L.z3; have v3 := L.v3; have t4 := L.t4; have a4 := L.a4; have z4 := L.z4; have v4 := L.v4; have tS := L.tS; have aS := L.aS; have zS := L.zS; have vS := L.vS; have tF := L.tF; have aF := L.aF; have zF := L.zF; have vF := L.vF; have tU := L.tU; have aU := L.aU; have zU := L.zU; have vU := L.vU
  have uS := run_underlying L.tS; have uU := run_underlying L.tU; have u3 := run_underlying L.t3
  have esw : ∀ args w, (callFunc 45 args).run P0 w = .ok (.enter 45 args) w := enters_of L.fsw (by kernel_rfl) rfl
  have FG := L.fro
  clear L
  go_enter FG, Try.ntmps43
  go_wp2
  clear hiz hjz hiw hjw
  go_loopg [10, 11] (i0 + j0) (fun gk vi vj wr => ∃ i j : Nat, vi = .int .i64 i ∧ vj = .int .i64 j ∧ 0 < i ∧ 0 < j ∧ i ≤ m ∧ m + j ≤ len ∧ i + j ≤ gk ∧ Hid (∃ P' X' Y' Q' : List α, P'.length + i = m ∧ X'.length = i ∧ Y'.length = j ∧ (P' ++ (X' ++ (Y' ++ Q'))).length = len ∧ SWK enc k w0 blk off (P' ++ (X' ++ (Y' ++ Q'))).toArray wr ∧ P' ++ (Y' ++ (X' ++ Q')) = T))
  case atStart => exact ⟨i0, j0, rfl, rfl, hX0, hY0, by omega, by omega, by omega, Hst⟩
  case round =>
    obtain ⟨i, j, rfl, rfl, hi, hj, him, hjm, hg, Hs⟩ := hrel
    clear Hst hX0 hY0 hbl
    obtain ⟨s, hs⟩ : ∃ s, s + i = m := ⟨m - i, by omega⟩
    have hsz1 : (m : Int) - (i : Int) = (s : Int) := by omega
    have hsw1 : IntKind.i64.wrap ((m : Int) - (i : Int)) = (s : Int) := by rw [IntKind.wrap_i64]; omega
    by_cases heq : i = j
    · subst heq
      have hez : ((i : Int) == (i : Int)) = true := by simp
      have Hcall : Hid (Calls P0 45 #[.slice (some ⟨blk, off, none⟩) len cap, .int .i64 s, .int .i64 m, .int .i64 i, .func (.func g) #[] cb] wr fun e w' => e = .returned (.tuple #[]) ∧ SWK enc k w0 blk off T.toArray w') := Lib.hid (by
        obtain ⟨P', X', Y', Q', h1, h2, h3, h4, S1, h5⟩ := Hs.out
        rw [← h5]
        exact swapr_any HL.out _ P' X' [] Y' Q' s m i len cap wr (by omega) h2 h3 (by simp; omega) h4 hsz HR.out Hd.out S1)
      clear Hs
      go_wp2_with (go_at_fn 45; refine Hcall.out.mono ?_; rintro e w' ⟨rfl, S2⟩)
      go_end0
      exact ⟨rfl, S2⟩
    · have hez : ((i : Int) == (j : Int)) = false := by simp; omega
      have hnz : ¬ (i : Int) = (j : Int) := by omega
      by_cases hgt : j < i
      · have hgz : (j : Int) < (i : Int) := by omega
        have hdz : (i : Int) - (j : Int) = ((i - j : Nat) : Int) := by omega
        have hdw : IntKind.i64.wrap ((i : Int) - (j : Int)) = ((i - j : Nat) : Int) := by rw [IntKind.wrap_i64]; omega
        have Hcall : Hid (Calls P0 45 #[.slice (some ⟨blk, off, none⟩) len cap, .int .i64 s, .int .i64 m, .int .i64 j, .func (.func g) #[] cb] wr fun e w' => e = .returned (.tuple #[]) ∧ ∃ P' X' Y' Q' : List α, P'.length + (i - j) = m ∧ X'.length = i - j ∧ Y'.length = j ∧ (P' ++ (X' ++ (Y' ++ Q'))).length = len ∧ SWK enc k w0 blk off (P' ++ (X' ++ (Y' ++ Q'))).toArray w' ∧ P' ++ (Y' ++ (X' ++ Q')) = T) := Lib.hid (by
          obtain ⟨P', X', Y', Q', h1, h2, h3, h4, S1, h5⟩ := Hs.out
          have hX' : X' = X'.take j ++ X'.drop j := (List.take_append_drop j X').symm
          have hl : (X'.take j).length = j ∧ (X'.drop j).length = i - j := by rw [List.length_take, List.length_drop]; omega
          generalize X'.take j = X1 at hX' hl
          generalize X'.drop j = X2 at hX' hl
          subst hX'
          refine (swapr_any HL.out _ P' X1 X2 Y' Q' s m j len cap wr (by omega) hl.1 h3 (by omega) (by rw [← h4]; simp) hsz HR.out Hd.out (by simpa using S1)).mono ?_
          rintro e w' ⟨rfl, S2⟩
          refine ⟨rfl, P' ++ Y', X2, X1, Q', by simp; omega, hl.2, hl.1, ?_, by simpa using S2, ?_⟩
          · rw [← h4]; simp; omega
          · rw [← h5]; simp)
        clear Hs
        go_wp2_with (go_at_fn 45; refine Hcall.out.mono ?_; rintro e w' ⟨rfl, S2⟩; have Hn := Lib.hid S2; clear S2)
        go_roundg (i - j + j)
        case measure => omega
        case rel => exact ⟨i - j, j, by go_num, rfl, by omega, hj, by omega, hjm, by omega, Hn⟩
      · have hgz : ¬ (j : Int) < (i : Int) := by omega
        have hdz : (j : Int) - (i : Int) = ((j - i : Nat) : Int) := by omega
        have hdw : IntKind.i64.wrap ((j : Int) - (i : Int)) = ((j - i : Nat) : Int) := by rw [IntKind.wrap_i64]; omega
        obtain ⟨q, hq⟩ : ∃ q, m + j = q + i := ⟨m + j - i, by omega⟩
        have hqz : (m : Int) + (j : Int) - (i : Int) = (q : Int) := by omega
        have hqz1 : (m : Int) + (j : Int) = ((m + j : Nat) : Int) := by omega
        have hqw1 : IntKind.i64.wrap ((m : Int) + (j : Int)) = (m : Int) + (j : Int) := by rw [IntKind.wrap_i64]; omega
        have hqw : IntKind.i64.wrap ((m : Int) + (j : Int) - (i : Int)) = (q : Int) := by rw [IntKind.wrap_i64]; omega
        have Hcall : Hid (Calls P0 45 #[.slice (some ⟨blk, off, none⟩) len cap, .int .i64 s, .int .i64 q, .int .i64 i, .func (.func g) #[] cb] wr fun e w' => e = .returned (.tuple #[]) ∧ ∃ P' X' Y' Q' : List α, P'.length + i = m ∧ X'.length = i ∧ Y'.length = j - i ∧ (P' ++ (X' ++ (Y' ++ Q'))).length = len ∧ SWK enc k w0 blk off (P' ++ (X' ++ (Y' ++ Q'))).toArray w' ∧ P' ++ (Y' ++ (X' ++ Q')) = T) := Lib.hid (by
          obtain ⟨P', X', Y', Q', h1, h2, h3, h4, S1, h5⟩ := Hs.out
          have hY' : Y' = Y'.take (j - i) ++ Y'.drop (j - i) := (List.take_append_drop (j - i) Y').symm
          have hl : (Y'.take (j - i)).length = j - i ∧ (Y'.drop (j - i)).length = i := by rw [List.length_take, List.length_drop]; omega
          generalize Y'.take (j - i) = Y1 at hY' hl
          generalize Y'.drop (j - i) = Y2 at hY' hl
          subst hY'
          refine (swapr_any HL.out _ P' X' Y1 Y2 Q' s q i len cap wr (by omega) h2 hl.2 (by omega) (by rw [← h4]; simp) hsz HR.out Hd.out (by simpa using S1)).mono ?_
          rintro e w' ⟨rfl, S2⟩
          refine ⟨rfl, P', Y2, Y1, X' ++ Q', by omega, hl.2, hl.1, ?_, by simpa using S2, ?_⟩
          · rw [← h4]; simp; omega
          · rw [← h5]; simp)
        clear Hs
        go_wp2_with (go_at_fn 45; refine Hcall.out.mono ?_; rintro e w' ⟨rfl, S2⟩; have Hn := Lib.hid S2; clear S2)
        go_roundg (i + (j - i))
        case measure => omega
        case rel => exact ⟨i, j - i, rfl, by go_num, hi, by omega, him, by omega, by omega, Hn⟩
end
end Go.Proofs.Ytehpnfijpddcfaa
