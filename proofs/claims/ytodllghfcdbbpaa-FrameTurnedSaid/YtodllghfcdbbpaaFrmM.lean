/-
  Layer 16, plain: frames as bytes; back (P16.4), prefix (P16.5), a byte that was turned (P16.2) (ahead of the code's landing).
-/
import Derived.Test.YtodllghfcdbbpaaVarM
import Derived.Test.YtodllghfcdbbpaaCrcV
import Derived.Test.YtodllghfcdbbpaaCrcB
namespace Go.Proofs.Ytodllghfcdbbpaa
set_option linter.unusedSimpArgs false
set_option linter.unusedVariables false
open Go.ChangeShapes Go.WideShapes Go.ChangeAt Go.RowKit Go.Joins Go.Deep
abbrev Fr := Int × List UInt8 × Int × Int
def fnone : Fr := (0, [], 0, 0)
def fsum (l : List UInt8) : List UInt8 := fx 4 (moreT T0 0#32 l).toNat
theorem fsum_len (l : List UInt8) : (fsum l).length = 4 := fx_length 4 _
def fhd (k : Nat) (b : List UInt8) : List UInt8 := UInt8.ofNat k :: (fx 4 b.length ++ b)
theorem fhd_len (k : Nat) (b : List UInt8) : (fhd k b).length = 5 + b.length := by
  unfold fhd
  rw [List.length_cons, List.length_append, fx_length]
  omega
def fB (k : Nat) (b : List UInt8) : List UInt8 := fhd k b ++ fsum (fhd k b)
theorem fB_len (k : Nat) (b : List UInt8) : (fB k b).length = 9 + b.length := by
  unfold fB
  rw [List.length_append, fhd_len, fsum_len]
  omega
def fputF (k : Int) (b : List UInt8) : List UInt8 × Int := if k < 1 ∨ 4 < k then ([], 160) else if 60000 < b.length then ([], 3) else (fB k.toNat b, 0)
def fgR (t : List UInt8) : Nat × List UInt8 × Nat × Int :=
  if t.length < 5 then (0, [], 0, 4)
  else if (t.getD 0 0).toNat < 1 ∨ 4 < (t.getD 0 0).toNat then (0, [], 0, 160)
  else if 60000 < val8 ((t.drop 1).take 4) then (0, [], 0, 3)
  else if t.length < 9 + val8 ((t.drop 1).take 4) then (0, [], 0, 4)
  else if fsum (t.take (5 + val8 ((t.drop 1).take 4))) ≠ (t.drop (5 + val8 ((t.drop 1).take 4))).take 4 then (0, [], 0, 7)
  else ((t.getD 0 0).toNat, (t.drop 5).take (val8 ((t.drop 1).take 4)), 9 + val8 ((t.drop 1).take 4), 0)
def fgetF (s : List UInt8) (p : Int) : Fr × Int :=
  if 0 ≤ p ∧ p ≤ s.length then (if (fgR (s.drop p.toNat)).2.2.2 ≠ 0 then (fnone, (fgR (s.drop p.toNat)).2.2.2) else (((fgR (s.drop p.toNat)).1, (fgR (s.drop p.toNat)).2.1, p, p + (fgR (s.drop p.toNat)).2.2.1), 0)) else (fnone, 2)
theorem fgR_put (k : Nat) (b u : List UInt8) (h1 : 1 ≤ k) (h4 : k ≤ 4) (hb : b.length ≤ 60000) : fgR (fB k b ++ u) = (k, b, 9 + b.length, 0) := by
  have e1 : fB k b ++ u = UInt8.ofNat k :: (fx 4 b.length ++ (b ++ (fsum (fhd k b) ++ u))) := by
    unfold fB fhd
    simp only [List.cons_append, List.append_assoc]
  have e2 : fB k b ++ u = fhd k b ++ (fsum (fhd k b) ++ u) := by unfold fB; rw [List.append_assoc]
  have hl : (fB k b ++ u).length = 9 + b.length + u.length := by rw [List.length_append, fB_len]
  have x1 : (fB k b ++ u).getD 0 0 = UInt8.ofNat k := by rw [e1]; rfl
  have x2 : ((fB k b ++ u).drop 1).take 4 = fx 4 b.length := by rw [e1, List.drop_succ_cons, List.drop_zero]; exact List.take_left' (fx_length 4 _)
  have x3 : (fB k b ++ u).take (5 + b.length) = fhd k b := by rw [e2]; exact List.take_left' (fhd_len k b)
  have x4 : ((fB k b ++ u).drop (5 + b.length)).take 4 = fsum (fhd k b) := by rw [e2, List.drop_left' (fhd_len k b)]; exact List.take_left' (fsum_len _)
  have x5 : ((fB k b ++ u).drop 5).take b.length = b := by
    rw [e1]
    have : UInt8.ofNat k :: (fx 4 b.length ++ (b ++ (fsum (fhd k b) ++ u))) = (UInt8.ofNat k :: fx 4 b.length) ++ (b ++ (fsum (fhd k b) ++ u)) := rfl
    rw [this, List.drop_left' (by rw [List.length_cons, fx_length]), List.take_left' rfl]
  generalize fB k b ++ u = t at *
  have hv : val8 (fx 4 b.length) = b.length := fx_val 4 _ (by omega)
  have hk : (UInt8.ofNat k).toNat = k := u8_ofNat k (by omega)
  unfold fgR
  rw [x1, x2, hv, hk, x3, x4, x5, if_neg (by omega), if_neg (by omega), if_neg (by omega), if_neg (by omega), if_neg (by simp)]
theorem fx_val8 : ∀ l : List UInt8, fx l.length (val8 l) = l
  | [] => rfl
  | b :: t => by
    have hb := u8_lt b
    have e1 : (b.toNat + 256 * val8 t) % 256 = b.toNat := by omega
    have e2 : (b.toNat + 256 * val8 t) / 256 = val8 t := by omega
    show UInt8.ofNat ((b.toNat + 256 * val8 t) % 256) :: fx t.length ((b.toNat + 256 * val8 t) / 256) = b :: t
    rw [e1, e2, fx_val8 t, UInt8.ofNat_toNat]
theorem fgR_ok {t : List UInt8} (h : (fgR t).2.2.2 = 0) : 1 ≤ (fgR t).1 ∧ (fgR t).1 ≤ 4 ∧ (fgR t).2.1.length ≤ 60000 ∧ (fgR t).2.2.1 = 9 + (fgR t).2.1.length ∧ (fgR t).2.2.1 ≤ t.length ∧ t = fB (fgR t).1 (fgR t).2.1 ++ t.drop (fgR t).2.2.1 := by
  unfold fgR at h ⊢
  by_cases h1 : t.length < 5
  · rw [if_pos h1] at h
    cases h
  rw [if_neg h1] at h ⊢
  by_cases h2 : (t.getD 0 0).toNat < 1 ∨ 4 < (t.getD 0 0).toNat
  · rw [if_pos h2] at h
    cases h
  rw [if_neg h2] at h ⊢
  by_cases h3 : 60000 < val8 ((t.drop 1).take 4)
  · rw [if_pos h3] at h
    cases h
  rw [if_neg h3] at h ⊢
  by_cases h4 : t.length < 9 + val8 ((t.drop 1).take 4)
  · rw [if_pos h4] at h
    cases h
  rw [if_neg h4] at h ⊢
  by_cases h5 : fsum (t.take (5 + val8 ((t.drop 1).take 4))) ≠ (t.drop (5 + val8 ((t.drop 1).take 4))).take 4
  · rw [if_pos h5] at h
    cases h
  rw [if_neg h5]
  have h6 : fsum (t.take (5 + val8 ((t.drop 1).take 4))) = (t.drop (5 + val8 ((t.drop 1).take 4))).take 4 := Classical.not_not.1 h5
  dsimp only
  have hfx := fx_val8 ((t.drop 1).take 4)
  rw [show ((t.drop 1).take 4).length = 4 from by rw [List.length_take, List.length_drop]; omega] at hfx
  generalize hn : val8 ((t.drop 1).take 4) = n at *
  have hbl : ((t.drop 5).take n).length = n := by rw [List.length_take, List.length_drop]; omega
  have hh : fhd (t.getD 0 0).toNat ((t.drop 5).take n) = t.take (5 + n) := by
    unfold fhd
    rw [hbl, hfx, UInt8.ofNat_toNat]
    cases t with
    | nil => simp at h1
    | cons a v =>
      rw [show 5 + n = (4 + n) + 1 from by omega, List.take_succ_cons, List.take_add]
      rfl
  refine ⟨by omega, by omega, by omega, by omega, by omega, ?_⟩
  unfold fB
  have k9 := List.take_append_drop 4 (t.drop (5 + n))
  rw [List.drop_drop] at k9
  rw [hh, h6, show 9 + n = (5 + n) + 4 from by omega, List.append_assoc, k9, List.take_append_drop]
theorem fgR_more {t : List UInt8} (u : List UInt8) (h : (fgR t).2.2.2 = 0) : fgR (t ++ u) = fgR t := by
  obtain ⟨a1, a2, a3, a4, a5, a6⟩ := fgR_ok h
  have e : fgR t = ((fgR t).1, (fgR t).2.1, (fgR t).2.2.1, 0) := Prod.ext rfl (Prod.ext rfl (Prod.ext rfl h))
  rw [e]
  generalize (fgR t).1 = k at *
  generalize (fgR t).2.1 = b at *
  generalize (fgR t).2.2.1 = z at *
  rw [a6, List.append_assoc, fgR_put k b _ a1 a2 a3, a4]
theorem fgR_cut {t : List UInt8} (c : Nat) (h : (fgR t).2.2.2 = 0) (hc : (fgR t).2.2.1 ≤ c) : fgR (t.take c) = fgR t := by
  obtain ⟨a1, a2, a3, a4, a5, a6⟩ := fgR_ok h
  have e : fgR t = ((fgR t).1, (fgR t).2.1, (fgR t).2.2.1, 0) := Prod.ext rfl (Prod.ext rfl (Prod.ext rfl h))
  rw [e]
  generalize (fgR t).1 = k at *
  generalize (fgR t).2.1 = b at *
  generalize (fgR t).2.2.1 = z at *
  rw [a6, List.take_append, List.take_of_length_le (by rw [fB_len]; omega), fgR_put k b _ a1 a2 a3, a4]
theorem fgR_take {t : List UInt8} (c : Nat) (h : (fgR (t.take c)).2.2.2 = 0) : fgR t = fgR (t.take c) := by
  have := fgR_more (t.drop c) h
  rwa [List.take_append_drop] at this
inductive FScan (s : List UInt8) : Nat → List Fr → Nat → Prop
  | stop (p : Nat) : (fgR (s.drop p)).2.2.2 ≠ 0 → FScan s p [] p
  | more (p : Nat) (L : List Fr) (e : Nat) : (fgR (s.drop p)).2.2.2 = 0 → FScan s (p + (fgR (s.drop p)).2.2.1) L e → FScan s p (((fgR (s.drop p)).1, (fgR (s.drop p)).2.1, (p : Int), (p : Int) + (fgR (s.drop p)).2.2.1) :: L) e
def fsc (s : List UInt8) : Nat → Nat → List Fr × Nat
  | 0, p => ([], p)
  | f + 1, p => if (fgR (s.drop p)).2.2.2 ≠ 0 then ([], p) else (((fgR (s.drop p)).1, (fgR (s.drop p)).2.1, (p : Int), (p : Int) + (fgR (s.drop p)).2.2.1) :: (fsc s f (p + (fgR (s.drop p)).2.2.1)).1, (fsc s f (p + (fgR (s.drop p)).2.2.1)).2)
theorem fgR_size {s : List UInt8} {p : Nat} (h : (fgR (s.drop p)).2.2.2 = 0) : 9 ≤ (fgR (s.drop p)).2.2.1 ∧ p + (fgR (s.drop p)).2.2.1 ≤ s.length := by
  obtain ⟨_, _, _, a4, a5, _⟩ := fgR_ok h
  rw [List.length_drop] at a5
  omega
theorem fsc_is (s : List UInt8) : ∀ (f p : Nat), s.length < p + f → FScan s p (fsc s f p).1 (fsc s f p).2
  | 0, p, h => by
    refine .stop p ?_
    rw [List.drop_of_length_le (by omega)]
    decide
  | f + 1, p, h => by
    unfold fsc
    by_cases hE : (fgR (s.drop p)).2.2.2 ≠ 0
    · rw [if_pos hE]
      exact .stop p hE
    · rw [if_neg hE]
      have hE0 : (fgR (s.drop p)).2.2.2 = 0 := Classical.not_not.1 hE
      have := fgR_size hE0
      exact .more p _ _ hE0 (fsc_is s f _ (by omega))
theorem FScan.only {s : List UInt8} {p : Nat} {L : List Fr} {e : Nat} (h : FScan s p L e) : ∀ {L' e'}, FScan s p L' e' → L' = L ∧ e' = e := by
  induction h with
  | stop p hE =>
    intro L' e' h'
    cases h' with
    | stop _ _ => exact ⟨rfl, rfl⟩
    | more _ L e h0 _ => exact absurd h0 hE
  | more p L e h0 _ ih =>
    intro L' e' h'
    cases h' with
    | stop _ hE => exact absurd h0 hE
    | more _ L2 _ _ h2 =>
      obtain ⟨rfl, rfl⟩ := ih h2
      exact ⟨rfl, rfl⟩
theorem FScan.bounds {s : List UInt8} {p : Nat} {L : List Fr} {e : Nat} (h : FScan s p L e) : p ≤ e ∧ (p ≤ s.length → e ≤ s.length) ∧ 9 * L.length ≤ e - p := by
  induction h with
  | stop p _ => exact ⟨Nat.le_refl _, id, Nat.zero_le _⟩
  | more p L e h0 _ ih =>
    have := fgR_size h0
    rw [List.length_cons]
    refine ⟨by omega, fun _ => ih.2.1 (by omega), by omega⟩
def fscanF (s : List UInt8) (p : Int) : List Fr × Int := if 0 ≤ p ∧ p ≤ s.length then ((fsc s (s.length + 1) p.toNat).1, ((fsc s (s.length + 1) p.toNat).2 : Int)) else ([], p)
theorem fscan_is (s : List UInt8) (p : Nat) (h : p ≤ s.length) : ∃ e : Nat, FScan s p (fscanF s p).1 e ∧ (fscanF s p).2 = (e : Int) := by
  unfold fscanF
  rw [if_pos (by omega), Int.toNat_natCast]
  exact ⟨_, fsc_is s _ _ (by omega), rfl⟩
theorem fscan_cut {s : List UInt8} {c : Nat} (hc : c ≤ s.length) {p : Nat} {B : List Fr} {e : Nat} (h : FScan (s.take c) p B e) (hp : p ≤ c) : ∀ {A e'}, FScan s p A e' → ∃ R, A = B ++ R ∧ ∀ f ∈ R.head?, (c : Int) < f.2.2.2 := by
  induction h with
  | stop p hE =>
    intro A e' hA
    refine ⟨A, rfl, ?_⟩
    cases hA with
    | stop _ _ => intro f hf; cases hf
    | more _ L e h0 _ =>
      intro f hf
      simp only [List.head?_cons, Option.mem_def, Option.some.injEq] at hf
      subst hf
      dsimp only
      by_cases hz : p + (fgR (s.drop p)).2.2.1 ≤ c
      · refine absurd ?_ hE
        rw [List.drop_take, fgR_cut (c - p) h0 (by omega)]
        exact h0
      · omega
  | more p L e h0 _ ih =>
    intro A e' hA
    have hb := fgR_size h0
    rw [List.length_take] at hb
    have e1 : fgR ((s.take c).drop p) = fgR (s.drop p) := by
      rw [List.drop_take] at h0 ⊢
      exact (fgR_take (c - p) h0).symm
    rw [e1] at ih hb h0 ⊢
    cases hA with
    | stop _ hE => exact absurd h0 hE
    | more _ L2 _ _ h2 =>
      obtain ⟨R, rfl, hR⟩ := ih (by omega) h2
      exact ⟨R, rfl, hR⟩
theorem fscan_on {s u : List UInt8} {p : Nat} {A : List Fr} {e : Nat} (h : FScan s p A e) : ∀ {X : List Fr} {e2 : Nat}, e ≤ s.length → FScan (s.take e ++ u) e X e2 → FScan (s.take e ++ u) p (A ++ X) e2 := by
  induction h with
  | stop p _ => intro X e2 _ hX; exact hX
  | more p L e h0 h1 ih =>
    intro X e2 he hX
    have hb := fgR_size h0
    have hb2 := h1.bounds
    have e1 : fgR ((s.take e ++ u).drop p) = fgR (s.drop p) := by
      rw [List.drop_append_of_le_length (by rw [List.length_take]; omega), List.drop_take]
      have := fgR_cut (e - p) h0 (by omega)
      rw [← this] at h0 ⊢
      exact fgR_more u h0
    have h2 := ih he hX
    have := FScan.more (s := s.take e ++ u) p (L ++ X) e2 (by rw [e1]; exact h0) (by rw [e1]; exact h2)
    rwa [e1] at this
theorem fscan_one {s b : List UInt8} {A : List Fr} {e : Nat} (k : Nat) (h1 : 1 ≤ k) (h4 : k ≤ 4) (hb : b.length ≤ 60000) (h : FScan s 0 A e) (he : e ≤ s.length) :
    FScan (s.take e ++ fB k b) 0 (A ++ [((k : Int), b, (e : Int), (e : Int) + (9 + b.length : Nat))]) (e + (9 + b.length)) := by
  refine fscan_on h he ?_
  have hd : (s.take e ++ fB k b).drop e = fB k b := List.drop_left' (by rw [List.length_take]; omega)
  have hg : fgR ((s.take e ++ fB k b).drop e) = (k, b, 9 + b.length, 0) := by
    have := fgR_put k b [] h1 h4 hb
    rwa [List.append_nil, ← hd] at this
  have hs := FScan.more (s := s.take e ++ fB k b) e [] (e + (9 + b.length)) (by rw [hg]) (by
    rw [hg]
    dsimp only
    refine .stop _ ?_
    rw [List.drop_of_length_le (by rw [List.length_append, fB_len, List.length_take]; omega)]
    decide)
  rwa [hg] at hs
theorem fx_inj : ∀ (w m n : Nat), m < 256 ^ w → n < 256 ^ w → fx w m = fx w n → m = n := fun w m n hm hn h => by
  rw [← fx_val w m hm, ← fx_val w n hn, h]
theorem bb_ne {b : UInt8} (h : b ≠ 0) : bb b ≠ 0#32 := fun e => h (u8_eq (by
  have := congrArg BitVec.toNat e
  unfold bb at this
  rw [BitVec.toNat_ofNat] at this
  have hb := u8_lt b
  rw [Nat.mod_eq_of_lt (by omega)] at this
  exact this))
theorem fsum_turned (p q : List UInt8) (x y : UInt8) (h : y ≠ 0) : fsum (p ++ ((x ^^^ y) :: q)) ≠ fsum (p ++ (x :: q)) := by
  intro e
  have e1 := fx_inj 4 _ _ (by have := (moreT T0 0#32 (p ++ ((x ^^^ y) :: q))).isLt; omega) (by have := (moreT T0 0#32 (p ++ (x :: q))).isLt; omega) e
  have e2 := BitVec.eq_of_toNat_eq e1
  unfold moreT at e2
  rw [rest_T0, rest_T0] at e2
  have e3 : rest (~~~0#32) (p ++ ((x ^^^ y) :: q)) = rest (~~~0#32) (p ++ (x :: q)) := by
    have := congrArg (fun c => ~~~c) e2
    simpa using this
  have t := rest_turned p [x] q [y] (~~~0#32) rfl
  have e4 : xorL [x] [y] ++ q = (x ^^^ y) :: q := rfl
  rw [e4, show [x] ++ q = x :: q from rfl, e3] at t
  have e5 : rest (rest 0#32 [y]) (List.replicate q.length 0) = 0#32 := by
    have := congrArg (fun c => rest (~~~0#32) (p ++ (x :: q)) ^^^ c) t
    simp only [← BitVec.xor_assoc, BitVec.xor_self, BitVec.zero_xor] at this
    exact this.symm
  rw [rest_noughts] at e5
  refine sn_ne _ ?_ e5
  show sn 8 (0#32 ^^^ bb y) ≠ 0#32
  rw [BitVec.zero_xor]
  exact sn_ne 8 (bb_ne h)
end Go.Proofs.Ytodllghfcdbbpaa
