/-
  Layer 10, plain: the bits of lengths run by run, and what reading them tells (ahead of the code's landing).
-/
import Derived.Test.YtckekhghcelcpaaLenR
import Derived.Test.YtckekhghcelcpaaBitG
namespace Go.Proofs.Ytckekhghcelcpaa
set_option linter.unusedSimpArgs false
set_option linter.unusedVariables false
open Go.ChangeShapes Go.WideShapes Go.ChangeAt Go.RowKit Go.Joins Go.Deep

/-- The bits of a run of c lengths x. -/
def trb (x : Int) (c : Nat) : List Nat := digI x 4 ++ gam c
def tbP (x : Int) (c : Nat) : List Int → List Nat
  | [] => trb x c
  | y :: t => if y = x then tbP x (c + 1) t else trb x c ++ tbP y 1 t
/-- The bits of lengths. -/
def tbits : List Int → List Nat
  | [] => []
  | x :: t => tbP x 1 t
theorem tbP_run (x : Int) (t : List Int) : ∀ (d c : Nat), tbP x c (List.replicate d x ++ t) = tbP x (c + d) t
  | 0, c => rfl
  | d + 1, c => by
    rw [List.replicate_succ, List.cons_append]
    show (if x = x then tbP x (c + 1) (List.replicate d x ++ t) else _) = _
    rw [if_pos rfl, tbP_run x t d (c + 1), show c + 1 + d = c + (d + 1) from by omega]
theorem tbP_stop (x : Int) (c : Nat) : ∀ t : List Int, t.head? ≠ some x → tbP x c t = trb x c ++ tbits t
  | [], _ => by simp [tbP, tbits]
  | y :: t, h => by
    show (if y = x then tbP x (c + 1) t else trb x c ++ tbP y 1 t) = _
    rw [if_neg (fun e => h (by rw [e]; rfl))]
    rfl
/-- A run, and what stands behind it. -/
theorem tbits_run (x : Int) (d : Nat) (t : List Int) (hd : 0 < d) (h : t.head? ≠ some x) : tbits (List.replicate d x ++ t) = trb x d ++ tbits t := by
  obtain ⟨k, rfl⟩ : ∃ k, d = k + 1 := ⟨d - 1, by omega⟩
  rw [List.replicate_succ, List.cons_append]
  show tbP x 1 (List.replicate k x ++ t) = _
  rw [tbP_run, tbP_stop x (1 + k) t h, Nat.add_comm]
theorem trun_drop (l : List Int) (x : Int) (i : Nat) : ∀ d, i + d ≤ l.length → (∀ j (hj : j < l.length), i ≤ j → j < i + d → l[j] = x) → l.drop i = List.replicate d x ++ l.drop (i + d)
  | 0, _, _ => rfl
  | d + 1, hk, h => by
    have ih := trun_drop l x i d (by omega) fun j hj h1 h2 => h j hj h1 (by omega)
    rw [ih, List.drop_eq_getElem_cons (by omega : i + d < l.length), h (i + d) (by omega) (by omega) (by omega), List.replicate_succ', List.append_assoc]
    rfl
/-- The same by places. -/
theorem tbits_at (l : List Int) (x : Int) (i k : Nat) (hi : i < k) (hk : k ≤ l.length) (h : ∀ j (hj : j < l.length), i ≤ j → j < k → l[j] = x) (hs : ∀ hj : k < l.length, l[k] ≠ x) : tbits (l.drop i) = trb x (k - i) ++ tbits (l.drop k) := by
  obtain ⟨d, rfl⟩ : ∃ d, k = i + d := ⟨k - i, by omega⟩
  rw [trun_drop l x i d hk h, tbits_run x d _ (by omega), Nat.add_sub_cancel_left]
  intro e
  rcases Nat.lt_or_ge (i + d) l.length with e2 | e2
  · rw [List.drop_eq_getElem_cons e2, List.head?_cons] at e
    injection e with e
    exact hs e2 e
  · rw [List.drop_of_length_le e2] at e
    cases e
/-- Each run ends. -/
theorem trun_end (l : List Int) : ∀ (f i : Nat) (hi : i < l.length), l.length - i ≤ f → ∃ k, i < k ∧ k ≤ l.length ∧ (∀ j (hj : j < l.length), i ≤ j → j < k → l[j] = l[i]) ∧ ∀ hj : k < l.length, l[k] ≠ l[i]
  | 0, i, hi, hf => by omega
  | f + 1, i, hi, hf => by
    by_cases h : ∃ h2 : i + 1 < l.length, l[i + 1] = l[i]
    · obtain ⟨h2, e⟩ := h
      obtain ⟨k, h3, h4, h5, h6⟩ := trun_end l f (i + 1) h2 (by omega)
      refine ⟨k, by omega, h4, fun j hj a b => ?_, fun hj => by rw [← e]; exact h6 hj⟩
      by_cases ej : j = i
      · subst ej; rfl
      · rw [h5 j hj (by omega) b, e]
    · refine ⟨i + 1, by omega, by omega, fun j hj a b => ?_, fun hj e => h ⟨hj, e⟩⟩
      have : j = i := by omega
      subst this
      rfl
/-- A run more, at the end. -/
theorem tbP_snoc (x : Int) (d : Nat) (hd : 0 < d) : ∀ (t : List Int) (y : Int) (c : Nat), (y :: t).getLast? ≠ some x → tbP y c (t ++ List.replicate d x) = tbP y c t ++ trb x d
  | [], y, c, h => by
    obtain ⟨k, rfl⟩ : ∃ k, d = k + 1 := ⟨d - 1, by omega⟩
    have hy : ¬ x = y := fun e => h (by rw [e]; rfl)
    rw [List.nil_append, List.replicate_succ]
    show (if x = y then tbP y (c + 1) (List.replicate k x) else trb y c ++ tbP x 1 (List.replicate k x)) = trb y c ++ trb x (k + 1)
    rw [if_neg hy]
    have := tbP_run x [] k 1
    rw [List.append_nil] at this
    rw [this, Nat.add_comm]
    rfl
  | z :: u, y, c, h => by
    have h2 : (z :: u).getLast? ≠ some x := by rw [List.getLast?_cons_cons] at h; exact h
    rw [List.cons_append]
    show (if z = y then tbP y (c + 1) (u ++ List.replicate d x) else trb y c ++ tbP z 1 (u ++ List.replicate d x)) = (if z = y then tbP y (c + 1) u else trb y c ++ tbP z 1 u) ++ trb x d
    by_cases e : z = y
    · rw [if_pos e, if_pos e]
      subst e
      exact tbP_snoc x d hd u z (c + 1) h2
    · rw [if_neg e, if_neg e, tbP_snoc x d hd u z 1 h2, List.append_assoc]
theorem tbits_snoc (x : Int) (d : Nat) (hd : 0 < d) : ∀ (l : List Int), l.getLast? ≠ some x → tbits (l ++ List.replicate d x) = tbits l ++ trb x d
  | [], _ => by
    have := tbits_run x d [] hd (by simp)
    simpa [tbits] using this
  | y :: t, h => tbP_snoc x d hd t y 1 h
theorem gam_len (n : Nat) (h0 : n ≠ 0) (h : n < 4294967296) : (gam n).length ≤ 63 := by
  have h1 := (ungam_gam n [] h0 h).2
  have h2 := bl_le h0 h
  omega
theorem trb_bin (x : Int) (c : Nat) : Bin (trb x c) := (dig_bin _ _).app (gam_bin c)
theorem trb_len (x : Int) (c : Nat) (h0 : c ≠ 0) (h : c < 4294967296) : (trb x c).length ≤ 67 := by
  unfold trb digI
  rw [List.length_append, dig_length]
  have := gam_len c h0 h
  show 4 + _ ≤ 67
  omega
theorem tbP_bin : ∀ (t : List Int) (x : Int) (c : Nat), Bin (tbP x c t)
  | [], x, c => trb_bin x c
  | y :: t, x, c => by
    show Bin (if y = x then tbP x (c + 1) t else trb x c ++ tbP y 1 t)
    by_cases e : y = x
    · rw [if_pos e]; exact tbP_bin t x (c + 1)
    · rw [if_neg e]; exact (trb_bin x c).app (tbP_bin t y 1)
theorem tbits_bin : ∀ l, Bin (tbits l)
  | [] => bin_nil
  | x :: t => tbP_bin t x 1
theorem tbP_len : ∀ (t : List Int) (x : Int) (c : Nat), 0 < c → c + t.length < 4294967296 → (tbP x c t).length ≤ 67 * (1 + t.length)
  | [], x, c, h0, h => by
    have := trb_len x c (by omega) (by simpa using h)
    show (trb x c).length ≤ 67 * (1 + 0)
    omega
  | y :: t, x, c, h0, h => by
    rw [List.length_cons] at h
    show (if y = x then tbP x (c + 1) t else trb x c ++ tbP y 1 t).length ≤ 67 * (1 + (t.length + 1))
    by_cases e : y = x
    · rw [if_pos e]
      have := tbP_len t x (c + 1) (by omega) (by omega)
      omega
    · rw [if_neg e, List.length_append]
      have h1 := trb_len x c (by omega) (by omega)
      have h2 := tbP_len t y 1 (by omega) (by omega)
      omega
theorem tbits_len (l : List Int) (h : l.length < 4294967290) : (tbits l).length ≤ 67 * l.length := by
  cases l with
  | nil => exact Nat.zero_le _
  | cons x t =>
    rw [List.length_cons] at h ⊢
    have := tbP_len t x 1 (by omega) (by omega)
    rw [Nat.add_comm t.length 1]
    exact this

/-! ### Reading -/
/-- What runs are, from a place on: the lengths, the place behind them, the error. -/
def tget1 (L : List Nat) (n : Nat) : Nat → Nat → Int → List Int → List Int × Nat × Int
  | 0, to, _, out => (out, to, 0)
  | f + 1, to, last, out =>
    if n ≤ out.length then (out, to, 0)
    else if (bgetF L to 4).2 ≠ 0 then ([], to, (bgetF L to 4).2)
    else if (ungam (L.drop (to + 4))).2.2 ≠ 0 then ([], to, (ungam (L.drop (to + 4))).2.2)
    else if (bgetF L to 4).1 = last then ([], to, 5)
    else if (n : Int) - out.length < (ungam (L.drop (to + 4))).1 then ([], to, 40)
    else tget1 L n f (to + 4 + (ungam (L.drop (to + 4))).2.1) (bgetF L to 4).1 (out ++ List.replicate (ungam (L.drop (to + 4))).1.toNat (bgetF L to 4).1)
/-- What Get answers. -/
def tgetF (L : List Nat) (p : Nat) (n : Int) : List Int × Nat × Int :=
  if n < 0 ∨ 257 < n then ([], p, 2)
  else if (tget1 L n.toNat (n.toNat + 1) p (-1) []).2.2 ≠ 0 then ([], p, (tget1 L n.toNat (n.toNat + 1) p (-1) []).2.2)
  else if checkF (tget1 L n.toNat (n.toNat + 1) p (-1) []).1 ≠ 0 then ([], p, checkF (tget1 L n.toNat (n.toNat + 1) p (-1) []).1)
  else ((tget1 L n.toNat (n.toNat + 1) p (-1) []).1, (tget1 L n.toNat (n.toNat + 1) p (-1) []).2.1, 0)
theorem tget1_step (L : List Nat) (n f to : Nat) (last : Int) (out : List Int) : tget1 L n (f + 1) to last out =
    if n ≤ out.length then (out, to, 0)
    else if (bgetF L to 4).2 ≠ 0 then ([], to, (bgetF L to 4).2)
    else if (ungam (L.drop (to + 4))).2.2 ≠ 0 then ([], to, (ungam (L.drop (to + 4))).2.2)
    else if (bgetF L to 4).1 = last then ([], to, 5)
    else if (n : Int) - out.length < (ungam (L.drop (to + 4))).1 then ([], to, 40)
    else tget1 L n f (to + 4 + (ungam (L.drop (to + 4))).2.1) (bgetF L to 4).1 (out ++ List.replicate (ungam (L.drop (to + 4))).1.toNat (bgetF L to 4).1) := rfl
theorem lz_take : ∀ R : List Nat, R.take (lz R) = List.replicate (lz R) 0
  | [] => rfl
  | d :: t => by
    have ih := lz_take t
    by_cases h : d = 0
    · subst h
      show (0 :: t).take (lz t + 1) = List.replicate (lz t + 1) 0
      rw [List.take_succ_cons, List.replicate_succ, ih]
    · have e : lz (d :: t) = 0 := by show (if d = 0 then lz t + 1 else 0) = 0; rw [if_neg h]
      rw [e]
      rfl
theorem lz_next : ∀ (R : List Nat) (z : Nat), lz R = z → ∀ h : z < R.length, R[z] ≠ 0
  | [], z, _, h => absurd h (by simp)
  | d :: t, z, e, h => by
    by_cases hd : d = 0
    · subst hd
      have e2 : lz t + 1 = z := e
      subst e2
      have := lz_next t (lz t) rfl (by simpa using h)
      simpa using this
    · have e2 : lz (d :: t) = 0 := by show (if d = 0 then lz t + 1 else 0) = 0; rw [if_neg hd]
      rw [e2] at e
      subst e
      simpa using hd
/-- What gamma bits were taken are those of the number. -/
theorem ungam_take {R : List Nat} (hb : Bin R) (n : Int) (k : Nat) (h : ungam R = (n, k, 0)) : k ≤ R.length ∧ 1 ≤ n ∧ n < 4294967296 ∧ R.take k = gam n.toNat ∧ (gam n.toNat).length = k := by
  unfold ungam at h
  by_cases a1 : lz R = R.length
  · rw [if_pos a1] at h; simp at h
  rw [if_neg a1] at h
  by_cases a2 : 32 ≤ lz R
  · rw [if_pos a2] at h; simp at h
  rw [if_neg a2] at h
  by_cases a3 : R.length < 2 * lz R + 1
  · rw [if_pos a3] at h; simp at h
  rw [if_neg a3] at h
  simp only [Prod.mk.injEq, and_true] at h
  obtain ⟨hn, hk⟩ := h
  obtain ⟨z, hz⟩ : ∃ z, lz R = z := ⟨_, rfl⟩
  have hzt := lz_take R
  rw [hz] at hn hk a1 a2 a3 hzt
  have hlz := lz_le R
  rw [hz] at hlz
  have hone : R[z]'(by omega) = 1 := by
    have h1 := lz_next R z hz (by omega)
    have h2 := hb _ (List.getElem_mem (by omega : z < R.length))
    omega
  have h1 : (R.drop z).take (z + 1) = 1 :: (R.drop (z + 1)).take z := by
    rw [List.drop_eq_getElem_cons (by omega), List.take_succ_cons, hone]
  have hb2 : Bin ((R.drop (z + 1)).take z) := fun d hd => hb d (List.mem_of_mem_drop (List.mem_of_mem_take hd))
  have hl2 : ((R.drop (z + 1)).take z).length = z := by rw [List.length_take, List.length_drop]; omega
  have hv : num ((R.drop z).take (z + 1)) = 2 ^ z + num ((R.drop (z + 1)).take z) := by
    rw [h1]
    have := num_append [1] ((R.drop (z + 1)).take z)
    rw [hl2] at this
    rw [List.singleton_append] at this
    rw [this]
    show 1 * 2 ^ z + _ = _
    rw [Nat.one_mul]
  have hlt := num_lt hb2
  rw [hl2] at hlt
  obtain ⟨N, hN⟩ : ∃ N, num ((R.drop z).take (z + 1)) = N := ⟨_, rfl⟩
  rw [hN] at hn hv
  subst hn
  have hp : 0 < (2 : Nat) ^ z := Nat.pow_pos (by omega)
  have hz32 : (2 : Nat) ^ (z + 1) ≤ 2 ^ 32 := Nat.pow_le_pow_right (by omega) (by omega)
  have hps : (2 : Nat) ^ (z + 1) = 2 ^ z * 2 := Nat.pow_succ ..
  have h32 : (2 : Nat) ^ 32 = 4294967296 := by decide
  have hg := gam_is (n := N) (k := z) (by omega) (by omega) (by omega)
  rw [Int.toNat_natCast, hg]
  refine ⟨by omega, by omega, by omega, ?_, by rw [List.length_append, List.length_replicate, dig_length]; omega⟩
  have hd := dig_num_of (z + 1) ((R.drop z).take (z + 1)) (by rw [List.length_take, List.length_drop]; omega) fun d hd => hb d (List.mem_of_mem_drop (List.mem_of_mem_take hd))
  rw [hN] at hd
  rw [← hk, show 2 * z + 1 = z + (z + 1) from by omega, List.take_add, hzt, hd]
end Go.Proofs.Ytckekhghcelcpaa
