/-
  What the law of the last of these texts stands on, part 24.
-/
import Derived.Test.YtpocpckhcciecaaRows
import Derived.Test.YtpocpckhcciecaaMg01
import Derived.Test.YtpocpckhcciecaaMg02
import Derived.Test.YtpocpckhcciecaaMg03
import Derived.Test.YtpocpckhcciecaaMg04
import Derived.Test.YtpocpckhcciecaaMg05
import Derived.Test.YtpocpckhcciecaaMg06
import Derived.Test.YtpocpckhcciecaaMg23
import Derived.WalkKit
import Derived.WalkSpells
import Derived.WalkLawsBesides
import Derived.ProofKit
import Derived.OpenShut
import Derived.Handy
import Derived.SizedLaws
import Derived.JoinedOf
import Derived.KernelRfl
import Derived.Lib.Hide
import Derived.Lib.SmallJoins
import Derived.Deep.Slices
import Derived.Deep.Fields
import Derived.Deep.SlicePairs
import Derived.Deep.Draws
import Derived.Deep.AppendLies
import Derived.Deep.QuietTactic
import Derived.BigQuiet
import Derived.Deep.RegionHeld3
import Derived.StillTailTactics
import Derived.Laws.OwnMore
import Derived.Laws.Rows
import Derived.Below
import Derived.Carry
import Derived.WalkMore
import Derived.Laws.BytesString
import Derived.Laws.BitsLemmas
import Derived.Laws.Concat
import Derived.Deep.Upon
import Derived.Sort.WalkB2
import Derived.Sort.WalkB12
import Derived.Deep.LoopGhost
import Derived.Shelf.SlSortCmp.KitK
import Derived.Deep.RegionLaw
namespace Go.Proofs.Ytpocpckhcciecaa
set_option linter.unusedSimpArgs false
set_option linter.unusedVariables false
open Go.ChangeShapes Go.WideShapes Go.ChangeAt Go.RowKit Go.Joins Go.Deep Go.Shelf Go.Lib
open Go.Sort (SWO swp size_swp HoldsK)
section
variable {P0 : Program} {k : Nat} {α : Type} [Inhabited α] {enc : α → List Value} {w0 : World} {blk off : Nat} {d0 : Array α}
set_option maxHeartbeats 4000000 in
set_option maxRecDepth 1000000 in
/-- Two stretches, one behind the other, change places. -/
theorem rotate_any (L : StLays P0 k) (g : Nat) (cb : Array Value) (P X Y Q : List α) (a m b len cap : Nat) (w : World) (hP : P.length = a) (hX : a + X.length = m) (hY : m + Y.length = b) (hX0 : 0 < X.length) (hY0 : 0 < Y.length) (hlen : (P ++ (X ++ (Y ++ Q))).length = len) (hsz : len < 4611686018427387904)
    (R : RowK enc k w0 blk off d0) (hd : d0.size = len) (S : SWK enc k w0 blk off (P ++ (X ++ (Y ++ Q))).toArray w) :
    Calls P0 93 #[.slice (some ⟨blk, off, none⟩) len cap, .int .i64 a, .int .i64 m, .int .i64 b, .func (.func g) #[] cb] w fun e w' =>
      e = .returned (.tuple #[]) ∧ SWK enc k w0 blk off (P ++ (Y ++ (X ++ Q))).toArray w' := by
  obtain ⟨T, hT⟩ : ∃ T, P ++ (Y ++ (X ++ Q)) = T := ⟨_, rfl⟩
  rw [hT]
  have HL := Lib.hid L
  have Hd := Lib.hid hd
  have HR : Aside (RowK enc k w0 blk off d0) := R
  obtain ⟨i0, hi0⟩ : ∃ i0, X.length = i0 := ⟨_, rfl⟩
  obtain ⟨j0, hj0⟩ : ∃ j0, Y.length = j0 := ⟨_, rfl⟩
  rw [hi0] at hX hX0
  rw [hj0] at hY hY0
  have Hst : Hid (∃ P' X' Y' Q' : List α, P'.length + i0 = m ∧ X'.length = i0 ∧ Y'.length = j0 ∧ (P' ++ (X' ++ (Y' ++ Q'))).length = len ∧ SWK enc k w0 blk off (P' ++ (X' ++ (Y' ++ Q'))).toArray w ∧ P' ++ (Y' ++ (X' ++ Q')) = T) := ⟨P, X, Y, Q, by omega, hi0, hj0, hlen, S, hT⟩
  have hbl : m + j0 ≤ len ∧ i0 ≤ m := by simp only [List.length_append] at hlen; omega
  have hiz : (m : Int) - (a : Int) = (i0 : Int) := by omega
  have hjz : (b : Int) - (m : Int) = (j0 : Int) := by omega
  have hiw : IntKind.i64.wrap ((m : Int) - (a : Int)) = (i0 : Int) := by rw [IntKind.wrap_i64]; omega
  have hjw : IntKind.i64.wrap ((b : Int) - (m : Int)) = (j0 : Int) := by rw [IntKind.wrap_i64]; omega
  clear hT S hP hX hY hlen R hd hi0 hj0 P X Y Q
  have mixed := L.mixed; have aE := L.aE; have zE := L.zE; have t0 := L.t0; have a0 := L.a0; have z0 := L.z0; have v0 := L.v0; have t3 := L.t3; have a3 := L.a3; have z3 := L.z3; have v3 := L.v3; have t4 := L.t4; have a4 := L.a4; have z4 := L.z4; have v4 := L.v4; have tS := L.tS; have aS := L.aS; have zS := L.zS; have vS := L.vS; have tF := L.tF; have aF := L.aF; have zF := L.zF; have vF := L.vF; have tU := L.tU; have aU := L.aU; have zU := L.zU; have vU := L.vU
  have uS := run_underlying L.tS; have uU := run_underlying L.tU; have u3 := run_underlying L.t3
  have esw : ∀ args w, (callFunc 95 args).run P0 w = .ok (.enter 95 args) w := enters_of L.fsw (by kernel_rfl) rfl
  have FG := L.fro
  clear L
  go_enter FG, Try.ntmps93
  go_wp2
  clear hiz hjz hiw hjw
  go_loopg [10, 11] (i0 + j0) (fun gk vi vj wr => ∃ i j : Nat, vi = .int .i64 i ∧ vj = .int .i64 j ∧ 0 < i ∧ 0 < j ∧ i ≤ m ∧ m + j ≤ len ∧ i + j ≤ gk ∧ Hid (∃ P' X' Y' Q' : List α, P'.length + i = m ∧ X'.length = i ∧ Y'.length = j ∧ (P' ++ (X' ++ (Y' ++ Q'))).length = len ∧ SWK enc k w0 blk off (P' ++ (X' ++ (Y' ++ Q'))).toArray wr ∧ P' ++ (Y' ++ (X' ++ Q')) = T))
  case atStart => exact ⟨i0, j0, rfl, rfl, hX0, hY0, by omega, by omega, by omega, Hst⟩
  case round =>
    obtain ⟨i, j, rfl, rfl, hi, hj, him, hjm, hg, Hs⟩ := hrel
    clear Hst hX0 hY0 hbl
    obtain ⟨s, hs⟩ : ∃ s, s + i = m := ⟨m - i, by omega⟩
    have hsz1 : (m : Int) - (i : Int) = (s : Int) := by omega
    have hsw1 : IntKind.i64.wrap ((m : Int) - (i : Int)) = (s : Int) := by rw [IntKind.wrap_i64]; omega
    by_cases heq : i = j
    · subst heq
      have hez : ((i : Int) == (i : Int)) = true := by simp
      have Hcall : Hid (Calls P0 95 #[.slice (some ⟨blk, off, none⟩) len cap, .int .i64 s, .int .i64 m, .int .i64 i, .func (.func g) #[] cb] wr fun e w' => e = .returned (.tuple #[]) ∧ SWK enc k w0 blk off T.toArray w') := Lib.hid (by
        obtain ⟨P', X', Y', Q', h1, h2, h3, h4, S1, h5⟩ := Hs.out
        rw [← h5]
        exact swapr_any HL.out _ P' X' [] Y' Q' s m i len cap wr (by omega) h2 h3 (by simp; omega) h4 hsz HR.out Hd.out S1)
      clear Hs
      go_wp2_with (go_at_fn 95; refine Hcall.out.mono ?_; rintro e w' ⟨rfl, S2⟩)
      go_end0
      exact ⟨rfl, S2⟩
    · have hez : ((i : Int) == (j : Int)) = false := by simp; omega
      have hnz : ¬ (i : Int) = (j : Int) := by omega
      by_cases hgt : j < i
      · have hgz : (j : Int) < (i : Int) := by omega
        have hdz : (i : Int) - (j : Int) = ((i - j : Nat) : Int) := by omega
        have hdw : IntKind.i64.wrap ((i : Int) - (j : Int)) = ((i - j : Nat) : Int) := by rw [IntKind.wrap_i64]; omega
        have Hcall : Hid (Calls P0 95 #[.slice (some ⟨blk, off, none⟩) len cap, .int .i64 s, .int .i64 m, .int .i64 j, .func (.func g) #[] cb] wr fun e w' => e = .returned (.tuple #[]) ∧ ∃ P' X' Y' Q' : List α, P'.length + (i - j) = m ∧ X'.length = i - j ∧ Y'.length = j ∧ (P' ++ (X' ++ (Y' ++ Q'))).length = len ∧ SWK enc k w0 blk off (P' ++ (X' ++ (Y' ++ Q'))).toArray w' ∧ P' ++ (Y' ++ (X' ++ Q')) = T) := Lib.hid (by
          obtain ⟨P', X', Y', Q', h1, h2, h3, h4, S1, h5⟩ := Hs.out
          have hX' : X' = X'.take j ++ X'.drop j := (List.take_append_drop j X').symm
          have hl : (X'.take j).length = j ∧ (X'.drop j).length = i - j := by rw [List.length_take, List.length_drop]; omega
          generalize X'.take j = X1 at hX' hl
          generalize X'.drop j = X2 at hX' hl
          subst hX'
          refine (swapr_any HL.out _ P' X1 X2 Y' Q' s m j len cap wr (by omega) hl.1 h3 (by omega) (by rw [← h4]; simp) hsz HR.out Hd.out (by simpa using S1)).mono ?_
          rintro e w' ⟨rfl, S2⟩
          refine ⟨rfl, P' ++ Y', X2, X1, Q', by simp; omega, hl.2, hl.1, ?_, by simpa using S2, ?_⟩
          · rw [← h4]; simp; omega
          · rw [← h5]; simp)
        clear Hs
        go_wp2_with (go_at_fn 95; refine Hcall.out.mono ?_; rintro e w' ⟨rfl, S2⟩; have Hn := Lib.hid S2; clear S2)
        go_roundg (i - j + j)
        case measure => omega
        case rel => exact ⟨i - j, j, by go_num, rfl, by omega, hj, by omega, hjm, by omega, Hn⟩
      · have hgz : ¬ (j : Int) < (i : Int) := by omega
        have hdz : (j : Int) - (i : Int) = ((j - i : Nat) : Int) := by omega
        have hdw : IntKind.i64.wrap ((j : Int) - (i : Int)) = ((j - i : Nat) : Int) := by rw [IntKind.wrap_i64]; omega
        obtain ⟨q, hq⟩ : ∃ q, m + j = q + i := ⟨m + j - i, by omega⟩
        have hqz : (m : Int) + (j : Int) - (i : Int) = (q : Int) := by omega
        have hqz1 : (m : Int) + (j : Int) = ((m + j : Nat) : Int) := by omega
        have hqw1 : IntKind.i64.wrap ((m : Int) + (j : Int)) = (m : Int) + (j : Int) := by rw [IntKind.wrap_i64]; omega
        have hqw : IntKind.i64.wrap ((m : Int) + (j : Int) - (i : Int)) = (q : Int) := by rw [IntKind.wrap_i64]; omega
        have Hcall : Hid (Calls P0 95 #[.slice (some ⟨blk, off, none⟩) len cap, .int .i64 s, .int .i64 q, .int .i64 i, .func (.func g) #[] cb] wr fun e w' => e = .returned (.tuple #[]) ∧ ∃ P' X' Y' Q' : List α, P'.length + i = m ∧ X'.length = i ∧ Y'.length = j - i ∧ (P' ++ (X' ++ (Y' ++ Q'))).length = len ∧ SWK enc k w0 blk off (P' ++ (X' ++ (Y' ++ Q'))).toArray w' ∧ P' ++ (Y' ++ (X' ++ Q')) = T) := Lib.hid (by
          obtain ⟨P', X', Y', Q', h1, h2, h3, h4, S1, h5⟩ := Hs.out
          have hY' : Y' = Y'.take (j - i) ++ Y'.drop (j - i) := (List.take_append_drop (j - i) Y').symm
          have hl : (Y'.take (j - i)).length = j - i ∧ (Y'.drop (j - i)).length = i := by rw [List.length_take, List.length_drop]; omega
          generalize Y'.take (j - i) = Y1 at hY' hl
          generalize Y'.drop (j - i) = Y2 at hY' hl
          subst hY'
          refine (swapr_any HL.out _ P' X' Y1 Y2 Q' s q i len cap wr (by omega) h2 hl.2 (by omega) (by rw [← h4]; simp) hsz HR.out Hd.out (by simpa using S1)).mono ?_
          rintro e w' ⟨rfl, S2⟩
          refine ⟨rfl, P', Y2, Y1, X' ++ Q', by omega, hl.2, hl.1, ?_, by simpa using S2, ?_⟩
          · rw [← h4]; simp; omega
          · rw [← h5]; simp)
        clear Hs
        go_wp2_with (go_at_fn 95; refine Hcall.out.mono ?_; rintro e w' ⟨rfl, S2⟩; have Hn := Lib.hid S2; clear S2)
        go_roundg (i + (j - i))
        case measure => omega
        case rel => exact ⟨i, j - i, rfl, by go_num, hi, by omega, him, by omega, by omega, Hn⟩
end
end Go.Proofs.Ytpocpckhcciecaa
namespace Go.Proofs.Ytpocpckhcciecaa
set_option linter.unusedSimpArgs false
set_option linter.unusedVariables false
open Go.Sort
section
variable {α : Type} [Inhabited α] {lt : α → α → Bool} {no : α → Nat}
theorem part_get (P Y Q : List α) (t : Nat) (h1 : P.length ≤ t) (h2 : t - P.length < Y.length) : (P ++ (Y ++ Q)).toArray[t]! = Y[t - P.length] := by
  rw [get_list (by simp only [List.length_append]; omega), List.getElem_append_right h1, List.getElem_append_left h2]
theorem part_le (P Y Q : List α) (hY : Y.Pairwise (sord lt no)) (s t : Nat) (h1 : P.length ≤ s) (h2 : s ≤ t) (h3 : t < P.length + Y.length) :
    (P ++ (Y ++ Q)).toArray[s]! = (P ++ (Y ++ Q)).toArray[t]! ∨ sord lt no (P ++ (Y ++ Q)).toArray[s]! (P ++ (Y ++ Q)).toArray[t]! := by
  rcases Nat.eq_or_lt_of_le h2 with e | e
  · exact Or.inl (by rw [e])
  · rw [part_get P Y Q s h1 (by omega), part_get P Y Q t (by omega) (by omega)]
    exact Or.inr (List.pairwise_iff_getElem.1 hY _ _ _ _ (by omega))
/-- Places of which none stands behind a later one. -/
def Goes (lt : α → α → Bool) (no : α → Nat) (A : Array α) (lo hi : Nat) : Prop := ∀ s t, lo ≤ s → s ≤ t → t < hi → A[s]! = A[t]! ∨ sord lt no A[s]! A[t]!
theorem Goes.lt_down (hO : SWO lt) {A : Array α} {lo hi : Nat} (h : Goes lt no A lo hi) {x : α} (s t : Nat) (h1 : lo ≤ s) (h2 : s ≤ t) (h3 : t < hi) (k : lt A[t]! x = true) : lt A[s]! x = true := by
  rcases h s t h1 h2 h3 with e | e
  · rw [e]; exact k
  · exact sord_up hO e k
theorem Goes.ge_down (hO : SWO lt) {A : Array α} {lo hi : Nat} (h : Goes lt no A lo hi) {x : α} (s t : Nat) (h1 : lo ≤ s) (h2 : s ≤ t) (h3 : t < hi) (k : lt x A[t]! = false) : lt x A[s]! = false := by
  rcases h s t h1 h2 h3 with e | e
  · rw [e]; exact k
  · exact sord_down hO e k
theorem part_take (P Y Q : List α) (p : α → Prop) (e : Nat) (he : e ≤ P.length + Y.length) (h : ∀ t, P.length ≤ t → t < e → p (P ++ (Y ++ Q)).toArray[t]!) : ∀ y ∈ Y.take (e - P.length), p y := by
  intro y hy
  obtain ⟨i, hi, rfl⟩ := List.getElem_of_mem hy
  rw [List.length_take] at hi
  rw [List.getElem_take]
  have := h (P.length + i) (by omega) (by omega)
  rw [part_get P Y Q _ (by omega) (by omega)] at this
  simpa using this
theorem part_drop (P Y Q : List α) (p : α → Prop) (e : Nat) (he : P.length ≤ e) (h : ∀ t, e ≤ t → t < P.length + Y.length → p (P ++ (Y ++ Q)).toArray[t]!) : ∀ y ∈ Y.drop (e - P.length), p y := by
  intro y hy
  obtain ⟨i, hi, rfl⟩ := List.getElem_of_mem hy
  rw [List.length_drop] at hi
  rw [List.getElem_drop]
  have := h (e + i) (by omega) (by omega)
  rw [part_get P Y Q _ (by omega) (by omega)] at this
  have e2 : e - P.length + i = e + i - P.length := by omega
  simp only [e2]
  exact this
/-- Both parts of a row. -/
structure Both (lt : α → α → Bool) (no : α → Nat) (P X Y Q : List α) (A : Array α) (a m b len : Nat) : Prop where
  eA : A = (P ++ (X ++ (Y ++ Q))).toArray
  hP : P.length = a
  hX : a + X.length = m
  hY : m + Y.length = b
  hlen : A.size = len
  oX : X.Pairwise (sord lt no)
  oY : Y.Pairwise (sord lt no)
  hno : ∀ x ∈ X, ∀ y ∈ Y, no x < no y
section
variable {P X Y Q : List α} {A : Array α} {a m b len : Nat}
omit [Inhabited α] in
theorem Both.size (h : Both lt no P X Y Q A a m b len) : b + Q.length = len := by
  have h1 := h.hlen
  rw [h.eA, List.size_toArray] at h1
  simp only [List.length_append] at h1
  have := h.hP; have := h.hX; have := h.hY
  omega
theorem Both.left (h : Both lt no P X Y Q A a m b len) : Goes lt no A a m := by
  intro s t h1 h2 h3
  rw [h.eA]
  exact part_le P X _ h.oX s t (by rw [h.hP]; exact h1) h2 (by rw [h.hP, h.hX]; exact h3)
theorem Both.right (h : Both lt no P X Y Q A a m b len) : Goes lt no A m b := by
  intro s t h1 h2 h3
  rw [h.eA, ← List.append_assoc P X]
  have e : (P ++ X).length = m := by rw [List.length_append, h.hP, h.hX]
  exact part_le (P ++ X) Y _ h.oY s t (by rw [e]; exact h1) h2 (by rw [e, h.hY]; exact h3)
theorem Both.take_left (h : Both lt no P X Y Q A a m b len) (p : α → Prop) (e : Nat) (he : e ≤ m) (k : ∀ t, a ≤ t → t < e → p A[t]!) : ∀ y ∈ X.take (e - a), p y := by
  rw [← h.hP]
  refine part_take P X (Y ++ Q) p e (by rw [h.hP, h.hX]; exact he) fun t h1 h2 => ?_
  rw [← h.eA]
  exact k t (by rw [← h.hP]; exact h1) h2
theorem Both.drop_left (h : Both lt no P X Y Q A a m b len) (p : α → Prop) (e : Nat) (he : a ≤ e) (k : ∀ t, e ≤ t → t < m → p A[t]!) : ∀ y ∈ X.drop (e - a), p y := by
  rw [← h.hP]
  refine part_drop P X (Y ++ Q) p e (by rw [h.hP]; exact he) fun t h1 h2 => ?_
  rw [← h.eA]
  exact k t h1 (by rw [← h.hX, ← h.hP]; exact h2)
theorem Both.take_right (h : Both lt no P X Y Q A a m b len) (p : α → Prop) (e : Nat) (he : e ≤ b) (k : ∀ t, m ≤ t → t < e → p A[t]!) : ∀ y ∈ Y.take (e - m), p y := by
  have e2 : (P ++ X).length = m := by rw [List.length_append, h.hP, h.hX]
  rw [← e2]
  refine part_take (P ++ X) Y Q p e (by rw [e2, h.hY]; exact he) fun t h1 h2 => ?_
  rw [List.append_assoc, ← h.eA]
  exact k t (by rw [← e2]; exact h1) h2
theorem Both.drop_right (h : Both lt no P X Y Q A a m b len) (p : α → Prop) (e : Nat) (he : m ≤ e) (k : ∀ t, e ≤ t → t < b → p A[t]!) : ∀ y ∈ Y.drop (e - m), p y := by
  have e2 : (P ++ X).length = m := by rw [List.length_append, h.hP, h.hX]
  rw [← e2]
  refine part_drop (P ++ X) Y Q p e (by rw [e2]; exact he) fun t h1 h2 => ?_
  rw [List.append_assoc, ← h.eA]
  exact k t h1 (by rw [← h.hY, ← e2]; exact h2)
/-- A cut of both parts at a found place. -/
theorem Both.cut (hO : SWO lt) (h : Both lt no P X Y Q A a m b len) (start stop c0 r0 mid : Nat) (h0 : c0 ≤ start) (h1 : start ≤ r0) (hn : mid + m = start + stop)
    (hc : (mid < m ∧ mid + m = c0 + b ∧ r0 = mid) ∨ (m ≤ mid ∧ c0 = a ∧ r0 = m)) (hab : a ≤ start ∧ start ≤ m ∧ m ≤ stop ∧ stop ≤ b)
    (f : ∀ c, c0 ≤ c → c < start → lt A[mid + m - 1 - c]! A[c]! = false) (t : ∀ c, start ≤ c → c < r0 → lt A[mid + m - 1 - c]! A[c]! = true) :
    (∀ x ∈ X.take (start - a), ∀ y ∈ Y.drop (stop - m), lt y x = false) ∧ (∀ y ∈ Y.take (stop - m), ∀ x ∈ X.drop (start - a), lt y x = true) := by
  constructor
  · refine h.take_left (fun x => ∀ y ∈ Y.drop (stop - m), lt y x = false) start hab.2.1 fun i i1 i2 => ?_
    refine h.drop_right (fun y => lt y A[i]! = false) stop hab.2.2.1 fun j j1 j2 => ?_
    have k := f (start - 1) (by omega) (by omega)
    rw [show mid + m - 1 - (start - 1) = stop from by omega] at k
    have k2 := h.left.ge_down hO i (start - 1) i1 (by omega) (by omega) k
    cases e : lt A[j]! A[i]! with
    | false => rfl
    | true => rw [h.right.lt_down hO stop j (by omega) j1 j2 e] at k2; cases k2
  · refine h.take_right (fun y => ∀ x ∈ X.drop (start - a), lt y x = true) stop hab.2.2.2 fun j j1 j2 => ?_
    refine h.drop_left (fun x => lt A[j]! x = true) start hab.1 fun i i1 i2 => ?_
    have k := t start (Nat.le_refl _) (by omega)
    rw [show mid + m - 1 - start = stop - 1 from by omega] at k
    have k2 := h.right.lt_down hO j (stop - 1) j1 (by omega) (by omega) k
    cases e : lt A[j]! A[i]! with
    | true => rfl
    | false => rw [h.left.ge_down hO start i (by omega) i1 i2 e] at k2; cases k2
/-- The test goes over from no to yes just once. -/
theorem Both.turns (hO : SWO lt) (h : Both lt no P X Y Q A a m b len) (n c d : Nat) (hcd : c ≤ d) (h1 : a ≤ c) (h2 : d < m) (h3 : m ≤ n - d) (h4 : n - c < b) (k : lt A[n - d]! A[d]! = false) : lt A[n - c]! A[c]! = false := by
  have k2 := h.left.ge_down hO c d h1 hcd h2 k
  cases e : lt A[n - c]! A[c]! with
  | false => rfl
  | true => rw [h.right.lt_down hO (n - d) (n - c) h3 (by omega) h4 e] at k2; cases k2
end
end
end Go.Proofs.Ytpocpckhcciecaa
