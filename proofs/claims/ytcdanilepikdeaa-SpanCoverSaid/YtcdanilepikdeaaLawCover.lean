/-
  For any two ranges a, b and any number n: both lie within what covers them, its ends are theirs, each number of one of them is in it, it is the same the other way round, and the layer's probe holds (SpanCover). No condition.
-/
import Derived.Test.YtcdanilepikdeaaCoverFf
import Derived.Test.YtcdanilepikdeaaCoverFt
import Derived.Test.YtcdanilepikdeaaCoverT
namespace Go.Proofs.Ytcdanilepikdeaa
set_option linter.unusedSimpArgs false
set_option linter.unusedVariables false
open Go.ChangeShapes Go.WideShapes Go.ChangeAt Go.RowKit Go.Joins Go.Deep

theorem cover_ff (a b : Int × Int) (n : Int) (w : World) (hA : hasF a n = false) (hB : hasF b n = false) :
    Calls Try.prog 6 #[.agg #[.int .i64 a.1, .int .i64 a.2], .agg #[.int .i64 b.1, .int .i64 b.2], .int .i64 n] w fun e w' => e = .returned (.bool true) ∧ Below w.heap.size w w' := by
  have no : ∀ x y : Int, x ≠ y → (x == y) = false := fun x y h => by simpa using h
  have yes : ∀ x y : Int, x = y → (x == y) = true := fun x y h => by simpa using h
  cases eA : emptyF a
  · obtain ⟨l, h⟩ := cover_ends a b (.inl eA)
    by_cases l1 : (coverF [a, b]).1 = a.1
    · by_cases r1 : (coverF [a, b]).2 = a.2
      · exact cover_ff_nll a b _ n w rfl (cover_swap a b) (cover_within_l a b) (cover_within_r a b) hA hB eA (yes _ _ l1) (yes _ _ r1)
      · rcases h with ⟨r, _⟩ | ⟨r, eB⟩
        · exact absurd r r1
        · exact cover_ff_nlr a b _ n w rfl (cover_swap a b) (cover_within_l a b) (cover_within_r a b) hA hB eA eB (yes _ _ l1) (no _ _ r1) (yes _ _ r)
    · rcases l with ⟨l, _⟩ | ⟨l, eB⟩
      · exact absurd l l1
      · by_cases r1 : (coverF [a, b]).2 = a.2
        · exact cover_ff_nrl a b _ n w rfl (cover_swap a b) (cover_within_l a b) (cover_within_r a b) hA hB eA eB (no _ _ l1) (yes _ _ l) (yes _ _ r1)
        · rcases h with ⟨r, _⟩ | ⟨r, _⟩
          · exact absurd r r1
          · exact cover_ff_nrr a b _ n w rfl (cover_swap a b) (cover_within_l a b) (cover_within_r a b) hA hB eA eB (no _ _ l1) (yes _ _ l) (no _ _ r1) (yes _ _ r)
  · cases eB : emptyF b
    · obtain ⟨l, h⟩ := cover_ends a b (.inr eB)
      rw [eA] at l h
      have l' : (coverF [a, b]).1 = b.1 := by rcases l with ⟨_, h⟩ | ⟨h, _⟩; exact absurd h (by decide); exact h
      have h' : (coverF [a, b]).2 = b.2 := by rcases h with ⟨_, h⟩ | ⟨h, _⟩; exact absurd h (by decide); exact h
      by_cases l1 : (coverF [a, b]).1 = a.1 <;> by_cases r1 : (coverF [a, b]).2 = a.2
      · exact cover_ff_ell a b _ n w rfl (cover_swap a b) (cover_within_l a b) (cover_within_r a b) hA hB eA eB (yes _ _ l1) (yes _ _ l') (yes _ _ r1) (yes _ _ h')
      · exact cover_ff_elr a b _ n w rfl (cover_swap a b) (cover_within_l a b) (cover_within_r a b) hA hB eA eB (yes _ _ l1) (yes _ _ l') (no _ _ r1) (yes _ _ h')
      · exact cover_ff_erl a b _ n w rfl (cover_swap a b) (cover_within_l a b) (cover_within_r a b) hA hB eA eB (no _ _ l1) (yes _ _ l') (yes _ _ r1) (yes _ _ h')
      · exact cover_ff_err a b _ n w rfl (cover_swap a b) (cover_within_l a b) (cover_within_r a b) hA hB eA eB (no _ _ l1) (yes _ _ l') (no _ _ r1) (yes _ _ h')
    · exact cover_ff_ee a b _ n w rfl (cover_swap a b) (cover_within_l a b) (cover_within_r a b) hA hB eA eB (cover_empty a b eA eB)

theorem cover_ft (a b : Int × Int) (n : Int) (w : World) (hA : hasF a n = false) (hB : hasF b n = true) :
    Calls Try.prog 6 #[.agg #[.int .i64 a.1, .int .i64 a.2], .agg #[.int .i64 b.1, .int .i64 b.2], .int .i64 n] w fun e w' => e = .returned (.bool true) ∧ Below w.heap.size w w' := by
  have no : ∀ x y : Int, x ≠ y → (x == y) = false := fun x y h => by simpa using h
  have yes : ∀ x y : Int, x = y → (x == y) = true := fun x y h => by simpa using h
  cases eA : emptyF a
  · obtain ⟨l, h⟩ := cover_ends a b (.inl eA)
    by_cases l1 : (coverF [a, b]).1 = a.1
    · by_cases r1 : (coverF [a, b]).2 = a.2
      · exact cover_ft_nll a b _ n w rfl (cover_swap a b) (cover_within_l a b) (cover_within_r a b) hA hB (cover_has a b n (.inr hB)) eA (yes _ _ l1) (yes _ _ r1)
      · rcases h with ⟨r, _⟩ | ⟨r, eB⟩
        · exact absurd r r1
        · exact cover_ft_nlr a b _ n w rfl (cover_swap a b) (cover_within_l a b) (cover_within_r a b) hA hB (cover_has a b n (.inr hB)) eA eB (yes _ _ l1) (no _ _ r1) (yes _ _ r)
    · rcases l with ⟨l, _⟩ | ⟨l, eB⟩
      · exact absurd l l1
      · by_cases r1 : (coverF [a, b]).2 = a.2
        · exact cover_ft_nrl a b _ n w rfl (cover_swap a b) (cover_within_l a b) (cover_within_r a b) hA hB (cover_has a b n (.inr hB)) eA eB (no _ _ l1) (yes _ _ l) (yes _ _ r1)
        · rcases h with ⟨r, _⟩ | ⟨r, _⟩
          · exact absurd r r1
          · exact cover_ft_nrr a b _ n w rfl (cover_swap a b) (cover_within_l a b) (cover_within_r a b) hA hB (cover_has a b n (.inr hB)) eA eB (no _ _ l1) (yes _ _ l) (no _ _ r1) (yes _ _ r)
  · cases eB : emptyF b
    · obtain ⟨l, h⟩ := cover_ends a b (.inr eB)
      rw [eA] at l h
      have l' : (coverF [a, b]).1 = b.1 := by rcases l with ⟨_, h⟩ | ⟨h, _⟩; exact absurd h (by decide); exact h
      have h' : (coverF [a, b]).2 = b.2 := by rcases h with ⟨_, h⟩ | ⟨h, _⟩; exact absurd h (by decide); exact h
      by_cases l1 : (coverF [a, b]).1 = a.1 <;> by_cases r1 : (coverF [a, b]).2 = a.2
      · exact cover_ft_ell a b _ n w rfl (cover_swap a b) (cover_within_l a b) (cover_within_r a b) hA hB (cover_has a b n (.inr hB)) eA eB (yes _ _ l1) (yes _ _ l') (yes _ _ r1) (yes _ _ h')
      · exact cover_ft_elr a b _ n w rfl (cover_swap a b) (cover_within_l a b) (cover_within_r a b) hA hB (cover_has a b n (.inr hB)) eA eB (yes _ _ l1) (yes _ _ l') (no _ _ r1) (yes _ _ h')
      · exact cover_ft_erl a b _ n w rfl (cover_swap a b) (cover_within_l a b) (cover_within_r a b) hA hB (cover_has a b n (.inr hB)) eA eB (no _ _ l1) (yes _ _ l') (yes _ _ r1) (yes _ _ h')
      · exact cover_ft_err a b _ n w rfl (cover_swap a b) (cover_within_l a b) (cover_within_r a b) hA hB (cover_has a b n (.inr hB)) eA eB (no _ _ l1) (yes _ _ l') (no _ _ r1) (yes _ _ h')
    · exact cover_ft_ee a b _ n w rfl (cover_swap a b) (cover_within_l a b) (cover_within_r a b) hA hB (cover_has a b n (.inr hB)) eA eB (cover_empty a b eA eB)

theorem cover_t (a b : Int × Int) (n : Int) (w : World) (hA : hasF a n = true) :
    Calls Try.prog 6 #[.agg #[.int .i64 a.1, .int .i64 a.2], .agg #[.int .i64 b.1, .int .i64 b.2], .int .i64 n] w fun e w' => e = .returned (.bool true) ∧ Below w.heap.size w w' := by
  have no : ∀ x y : Int, x ≠ y → (x == y) = false := fun x y h => by simpa using h
  have yes : ∀ x y : Int, x = y → (x == y) = true := fun x y h => by simpa using h
  cases eA : emptyF a
  · obtain ⟨l, h⟩ := cover_ends a b (.inl eA)
    by_cases l1 : (coverF [a, b]).1 = a.1
    · by_cases r1 : (coverF [a, b]).2 = a.2
      · exact cover_t_nll a b _ n w rfl (cover_swap a b) (cover_within_l a b) (cover_within_r a b) hA (cover_has a b n (.inl hA)) eA (yes _ _ l1) (yes _ _ r1)
      · rcases h with ⟨r, _⟩ | ⟨r, eB⟩
        · exact absurd r r1
        · exact cover_t_nlr a b _ n w rfl (cover_swap a b) (cover_within_l a b) (cover_within_r a b) hA (cover_has a b n (.inl hA)) eA eB (yes _ _ l1) (no _ _ r1) (yes _ _ r)
    · rcases l with ⟨l, _⟩ | ⟨l, eB⟩
      · exact absurd l l1
      · by_cases r1 : (coverF [a, b]).2 = a.2
        · exact cover_t_nrl a b _ n w rfl (cover_swap a b) (cover_within_l a b) (cover_within_r a b) hA (cover_has a b n (.inl hA)) eA eB (no _ _ l1) (yes _ _ l) (yes _ _ r1)
        · rcases h with ⟨r, _⟩ | ⟨r, _⟩
          · exact absurd r r1
          · exact cover_t_nrr a b _ n w rfl (cover_swap a b) (cover_within_l a b) (cover_within_r a b) hA (cover_has a b n (.inl hA)) eA eB (no _ _ l1) (yes _ _ l) (no _ _ r1) (yes _ _ r)
  · cases eB : emptyF b
    · obtain ⟨l, h⟩ := cover_ends a b (.inr eB)
      rw [eA] at l h
      have l' : (coverF [a, b]).1 = b.1 := by rcases l with ⟨_, h⟩ | ⟨h, _⟩; exact absurd h (by decide); exact h
      have h' : (coverF [a, b]).2 = b.2 := by rcases h with ⟨_, h⟩ | ⟨h, _⟩; exact absurd h (by decide); exact h
      by_cases l1 : (coverF [a, b]).1 = a.1 <;> by_cases r1 : (coverF [a, b]).2 = a.2
      · exact cover_t_ell a b _ n w rfl (cover_swap a b) (cover_within_l a b) (cover_within_r a b) hA (cover_has a b n (.inl hA)) eA eB (yes _ _ l1) (yes _ _ l') (yes _ _ r1) (yes _ _ h')
      · exact cover_t_elr a b _ n w rfl (cover_swap a b) (cover_within_l a b) (cover_within_r a b) hA (cover_has a b n (.inl hA)) eA eB (yes _ _ l1) (yes _ _ l') (no _ _ r1) (yes _ _ h')
      · exact cover_t_erl a b _ n w rfl (cover_swap a b) (cover_within_l a b) (cover_within_r a b) hA (cover_has a b n (.inl hA)) eA eB (no _ _ l1) (yes _ _ l') (yes _ _ r1) (yes _ _ h')
      · exact cover_t_err a b _ n w rfl (cover_swap a b) (cover_within_l a b) (cover_within_r a b) hA (cover_has a b n (.inl hA)) eA eB (no _ _ l1) (yes _ _ l') (no _ _ r1) (yes _ _ h')
    · exact cover_t_ee a b _ n w rfl (cover_swap a b) (cover_within_l a b) (cover_within_r a b) hA (cover_has a b n (.inl hA)) eA eB (cover_empty a b eA eB)

theorem cover_walk (a b : Int × Int) (n : Int) (w : World) :
    Calls Try.prog 6 #[.agg #[.int .i64 a.1, .int .i64 a.2], .agg #[.int .i64 b.1, .int .i64 b.2], .int .i64 n] w fun e w' => e = .returned (.bool true) ∧ Below w.heap.size w w' := by
  cases hA : hasF a n
  · cases hB : hasF b n
    · exact cover_ff a b n w hA hB
    · exact cover_ft a b n w hA hB
  · exact cover_t a b n w hA

namespace SpanCover
set_option maxRecDepth 100000 in
theorem lifted (os : Os) (started : os.Started) (H : Type) (enc : TypeId × Value → H) :
    ReturnsInHanded {} Try.checked os 6 .any (Rows.spanCoverSpec.pre6 enc Try.prog Try.f6 Rows.spanCoverRow.domain false) (Rows.spanCoverSpec.post enc Try.prog Try.f6 false true false false) := by
  refine law_sized (C := Try.checked) (tb := 4) own started (by kernel_rfl) Try.func6
    (ChangeSpec.witness6 (enc := enc) (C := Try.checked) false ⟨#[], #[.agg #[.int .i64 0, .int .i64 0], .agg #[.int .i64 0, .int .i64 0], .int .i64 0], []⟩ 8 (by kernel_rfl) (by kernel_rfl) (by kernel_rfl) (by kernel_rfl))
    laid (by kernel_rfl) rfl (by kernel_rfl) Try.underlying4 (by intro ds h; match ds, h with | [_, _, _], _ => rfl) ?_
  intro W base args ds p hval0 hA0 hlt _
  have hval : ∀ (j : Nat) t v, Try.f6.params[j]? = some t → args[j]? = some v → Value.okWide Try.prog W .any base t v := hval0
  have hA : DataW.TrodAll enc Try.prog W 0 (fun _ => true) true Try.f6.params.toList args.toList ds p := hA0
  rw [Try.params6] at hA hval
  obtain ⟨v0, v1, v2, d0, d1, d2, p0, p1, p2, rfl, rfl, rfl, h0, h1, h2⟩ := trodAll_three hA
  obtain ⟨a, a', rfl, wa, wa'⟩ := open_pair Try.underlying23 (by kernel_rfl) rangeCells Try.underlying3 Try.underlying3 (hval 0 23 v0 rfl rfl) h0
  obtain ⟨b, b', rfl, wb, wb'⟩ := open_pair Try.underlying23 (by kernel_rfl) rangeCells Try.underlying3 Try.underlying3 (hval 1 23 v1 rfl rfl) h1
  obtain ⟨n, rfl, rfl, rfl, wn⟩ := open_int Try.underlying3 (hval 2 3 v2 rfl rfl) h2
  exact cover_walk (a, a') (b, b') n W

theorem holds : Rows.SpanCoverSaid :=
  OpenClaim.holds_of_wide 6 Try.f6 rfl rfl rfl rfl rfl rfl rfl ⟨rfl, rfl, rfl, rfl, rfl⟩ rfl rfl rfl rfl rfl (by kernel_rfl) Try.func6 (by kernel_rfl)
    (of_decide_eq_true (by kernel_rfl)) (by unfold Func.isWrapper; first | (rw [if_pos (by decide +kernel)]; kernel_rfl) | (rw [if_neg (by decide +kernel)]; exact ⟨rfl, rfl⟩))
    (fun os started H enc _ => lifted os started H enc)
end SpanCover
end Go.Proofs.Ytcdanilepikdeaa
