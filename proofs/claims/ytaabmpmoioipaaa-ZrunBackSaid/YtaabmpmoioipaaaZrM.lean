/-
  Layer 7, plain: the digits of a number, symbols, ranks, counts, and that each comes back.
-/
import Derived.Test.YtaabmpmoioipaaaMore
namespace Go.Proofs.Ytaabmpmoioipaaa
set_option linter.unusedSimpArgs false
set_option linter.unusedVariables false
open Go.ChangeShapes Go.WideShapes Go.ChangeAt Go.RowKit Go.Joins Go.Deep

/-- The digits of a number, each less 1, the lowest one first. -/
def zd (n : Nat) : List Int := if h : n = 0 then [] else (((n - 1) % 2 : Nat) : Int) :: zd ((n - 1) / 2)
termination_by n
decreasing_by omega
/-- The number whose digits, each less 1, these are. -/
def zv : List Int → Nat
  | [] => 0
  | s :: t => s.toNat + 1 + 2 * zv t
/-- All are from 0 to top. -/
def zgood (top : Int) (l : List Int) : Bool := l.all fun k => decide (0 ≤ k) && decide (k ≤ top)
/-- The symbols of ranks, r noughts having gone ahead. -/
def zpk (r : Nat) : List Int → List Int
  | [] => zd r
  | x :: t => if x = 0 then zpk (r + 1) t else zd r ++ (x + 1) :: zpk 0 t
/-- The ranks of symbols, the symbols d of a run having gone ahead. -/
def zun (d : List Int) : List Int → List Int
  | [] => List.replicate (zv d) 0
  | s :: t => if 0 ≤ s ∧ s ≤ 1 then zun (d ++ [s]) t else List.replicate (zv d) 0 ++ (s - 1) :: zun [] t
/-- How many ranks symbols have. -/
def zct (d : List Int) : List Int → Nat
  | [] => zv d
  | s :: t => if 0 ≤ s ∧ s ≤ 1 then zct (d ++ [s]) t else zv d + (if 2 ≤ s ∧ s ≤ 256 then 1 else 0) + zct [] t
def zcountF (l : List Int) : Nat := min (zct [] l) 100001
def zpackF (l : List Int) : List Int × Int := if zgood 255 l = true then (zpk 0 l, 0) else ([], 60)
def zunF (l : List Int) (most : Int) : List Int × Int :=
  if zgood 256 l = true then (if (zcountF l : Int) > most ∨ (zcountF l : Int) > 100000 then ([], 3) else (zun [] l, 0)) else ([], 70)

theorem zd_zero : zd 0 = [] := by unfold zd; simp
theorem zd_pos (n : Nat) (h : n ≠ 0) : zd n = (((n - 1) % 2 : Nat) : Int) :: zd ((n - 1) / 2) := by
  conv => lhs; unfold zd
  rw [dif_neg h]
theorem zgood_cons (top s : Int) (t : List Int) : zgood top (s :: t) = true ↔ (0 ≤ s ∧ s ≤ top) ∧ zgood top t = true := by simp [zgood]
theorem zgood_nil (top : Int) : zgood top [] = true := rfl
theorem zgood_app (top : Int) (a b : List Int) : zgood top (a ++ b) = true ↔ zgood top a = true ∧ zgood top b = true := by simp [zgood, List.all_append]
theorem zgood_get {top : Int} {l : List Int} (h : zgood top l = true) (i : Nat) (hi : i < l.length) : 0 ≤ l[i] ∧ l[i] ≤ top := by
  unfold zgood at h
  rw [List.all_eq_true] at h
  have := h l[i] (List.getElem_mem hi)
  simpa using this
theorem zgood_of {top : Int} {l : List Int} (h : ∀ i (hi : i < l.length), 0 ≤ l[i] ∧ l[i] ≤ top) : zgood top l = true := by
  unfold zgood
  rw [List.all_eq_true]
  intro x hx
  obtain ⟨i, hi, rfl⟩ := List.getElem_of_mem hx
  simpa using h i hi
theorem zgood_bad {top : Int} {l : List Int} (i : Nat) (hi : i < l.length) (hb : ¬(0 ≤ l[i] ∧ l[i] ≤ top)) : zgood top l = false := by
  cases h : zgood top l with
  | false => rfl
  | true => exact absurd (zgood_get h i hi) hb
theorem zgood_zd (n : Nat) : zgood 1 (zd n) = true := by
  induction n using Nat.strongRecOn with
  | _ n ih =>
    by_cases h : n = 0
    · subst h; rw [zd_zero]; rfl
    · rw [zd_pos n h, zgood_cons]
      exact ⟨by omega, ih _ (by omega)⟩
theorem zv_zd (n : Nat) : zv (zd n) = n := by
  induction n using Nat.strongRecOn with
  | _ n ih =>
    by_cases h : n = 0
    · subst h; rw [zd_zero]; rfl
    · rw [zd_pos n h]
      unfold zv
      rw [ih _ (by omega)]
      omega
theorem zd_zv : ∀ d : List Int, zgood 1 d = true → zd (zv d) = d
  | [], _ => zd_zero
  | s :: t, h => by
    rw [zgood_cons] at h
    have ih := zd_zv t h.2
    unfold zv
    rw [zd_pos _ (by omega), show (s.toNat + 1 + 2 * zv t - 1) / 2 = zv t from by omega, ih]
    congr 1
    omega

/-! ### Runs -/
theorem zpk_run : ∀ (r : Nat) (p t : List Int), (∀ x ∈ p, x = 0) → zpk r (p ++ t) = zpk (r + p.length) t
  | r, [], t, _ => rfl
  | r, x :: p, t, h => by
    have h0 := h x (List.mem_cons_self ..)
    have ih := zpk_run (r + 1) p t fun y hy => h y (List.mem_cons_of_mem _ hy)
    show zpk r (x :: (p ++ t)) = _
    conv => lhs; unfold zpk
    rw [if_pos h0, ih, List.length_cons, show r + 1 + p.length = r + (p.length + 1) from by omega]
/-- What begins with no nought: the digits of the noughts ahead, and the rest. -/
theorem zpk_end (r : Nat) (t : List Int) (h : ∀ x s, t = x :: s → x ≠ 0) : zpk r t = zd r ++ zpk 0 t := by
  cases t with
  | nil => simp [zpk, zd_zero]
  | cons x s =>
    have := h x s rfl
    unfold zpk
    rw [if_neg this, if_neg this, zd_zero]
    rfl
theorem zpk_cons (x : Int) (t : List Int) (h : x ≠ 0) : zpk 0 (x :: t) = (x + 1) :: zpk 0 t := by
  conv => lhs; unfold zpk
  rw [if_neg h, zd_zero]
  rfl
theorem zun_run : ∀ (d p t : List Int), zgood 1 p = true → zun d (p ++ t) = zun (d ++ p) t
  | d, [], t, _ => by rw [List.append_nil]; rfl
  | d, s :: p, t, h => by
    rw [zgood_cons] at h
    have ih := zun_run (d ++ [s]) p t h.2
    show zun d (s :: (p ++ t)) = _
    conv => lhs; unfold zun
    rw [if_pos h.1, ih, List.append_assoc]
    rfl
theorem zun_end (d t : List Int) (h : ∀ s u, t = s :: u → ¬(0 ≤ s ∧ s ≤ 1)) : zun d t = List.replicate (zv d) 0 ++ zun [] t := by
  cases t with
  | nil => simp [zun, zv]
  | cons s u =>
    have := h s u rfl
    unfold zun
    rw [if_neg this, if_neg this]
    simp [zv]
theorem zun_cons (s : Int) (t : List Int) (h : ¬(0 ≤ s ∧ s ≤ 1)) : zun [] (s :: t) = (s - 1) :: zun [] t := by
  conv => lhs; unfold zun
  rw [if_neg h]
  simp [zv]
theorem zct_run : ∀ (d p t : List Int), zgood 1 p = true → zct d (p ++ t) = zct (d ++ p) t
  | d, [], t, _ => by rw [List.append_nil]; rfl
  | d, s :: p, t, h => by
    rw [zgood_cons] at h
    have ih := zct_run (d ++ [s]) p t h.2
    show zct d (s :: (p ++ t)) = _
    conv => lhs; unfold zct
    rw [if_pos h.1, ih, List.append_assoc]
    rfl
theorem zct_end (d t : List Int) (h : ∀ s u, t = s :: u → ¬(0 ≤ s ∧ s ≤ 1)) : zct d t = zv d + zct [] t := by
  cases t with
  | nil => simp [zct, zv]
  | cons s u =>
    have := h s u rfl
    unfold zct
    rw [if_neg this, if_neg this]
    simp only [zv]
    omega
theorem zct_cons (s : Int) (t : List Int) (h : ¬(0 ≤ s ∧ s ≤ 1)) : zct [] (s :: t) = (if 2 ≤ s ∧ s ≤ 256 then 1 else 0) + zct [] t := by
  conv => lhs; unfold zct
  rw [if_neg h]
  simp only [zv]
  omega
theorem zun_len : ∀ (l d : List Int), zgood 256 l = true → (zun d l).length = zct d l
  | [], d, _ => by simp [zun, zct]
  | s :: t, d, h => by
    rw [zgood_cons] at h
    unfold zun zct
    by_cases h1 : 0 ≤ s ∧ s ≤ 1
    · rw [if_pos h1, if_pos h1, zun_len t _ h.2]
    · rw [if_neg h1, if_neg h1, if_pos (by omega), List.length_append, List.length_cons, List.length_replicate, zun_len t _ h.2]
      omega

/-! ### Back -/
theorem zun_zpk : ∀ (l : List Int) (r : Nat), zgood 255 l = true → zun [] (zpk r l) = List.replicate r 0 ++ l
  | [], r, _ => by
    have h := zun_run [] (zd r) [] (zgood_zd r)
    rw [List.append_nil, List.nil_append] at h
    unfold zpk
    rw [h]
    unfold zun
    rw [zv_zd, List.append_nil]
  | x :: t, r, h => by
    rw [zgood_cons] at h
    unfold zpk
    by_cases h0 : x = 0
    · rw [if_pos h0, zun_zpk t (r + 1) h.2, h0, List.replicate_succ', List.append_assoc]
      rfl
    · rw [if_neg h0, zun_run [] (zd r) _ (zgood_zd r), List.nil_append]
      conv => lhs; unfold zun
      rw [if_neg (by omega), zv_zd, zun_zpk t 0 h.2]
      simp
theorem zpk_zun : ∀ (l d : List Int), zgood 1 d = true → zgood 256 l = true → zpk 0 (zun d l) = d ++ l
  | [], d, hd, _ => by
    unfold zun
    have := zpk_run 0 (List.replicate (zv d) 0) [] (fun x hx => (List.mem_replicate.1 hx).2)
    rw [List.append_nil] at this
    rw [this, List.length_replicate, Nat.zero_add]
    unfold zpk
    rw [zd_zv d hd, List.append_nil]
  | s :: t, d, hd, h => by
    rw [zgood_cons] at h
    unfold zun
    by_cases h1 : 0 ≤ s ∧ s ≤ 1
    · rw [if_pos h1, zpk_zun t (d ++ [s]) (by rw [zgood_app, zgood_cons]; exact ⟨hd, h1, rfl⟩) h.2]
      simp
    · rw [if_neg h1, zpk_run 0 _ _ (fun x hx => (List.mem_replicate.1 hx).2), List.length_replicate, Nat.zero_add]
      conv => lhs; unfold zpk
      rw [if_neg (by omega), zd_zv d hd, zpk_zun t [] rfl h.2]
      simp
theorem zpk_good : ∀ (l : List Int) (r : Nat), zgood 255 l = true → zgood 256 (zpk r l) = true
  | [], r, _ => by
    unfold zpk
    exact zgood_of fun i hi => by have := zgood_get (zgood_zd r) i hi; omega
  | x :: t, r, h => by
    rw [zgood_cons] at h
    unfold zpk
    by_cases h0 : x = 0
    · rw [if_pos h0]; exact zpk_good t _ h.2
    · rw [if_neg h0, zgood_app, zgood_cons]
      exact ⟨zgood_of fun i hi => by have := zgood_get (zgood_zd r) i hi; omega, by omega, zpk_good t 0 h.2⟩
theorem zun_good : ∀ (l d : List Int), zgood 256 l = true → zgood 255 (zun d l) = true
  | [], d, _ => by
    unfold zun
    exact zgood_of fun i hi => by simp
  | s :: t, d, h => by
    rw [zgood_cons] at h
    unfold zun
    by_cases h1 : 0 ≤ s ∧ s ≤ 1
    · rw [if_pos h1]; exact zun_good t _ h.2
    · rw [if_neg h1, zgood_app, zgood_cons]
      exact ⟨zgood_of fun i hi => by simp, by omega, zun_good t [] h.2⟩
theorem zd_len (n : Nat) : (zd n).length ≤ n := by
  induction n using Nat.strongRecOn with
  | _ n ih =>
    by_cases h : n = 0
    · subst h; rw [zd_zero]; simp
    · rw [zd_pos n h, List.length_cons]
      have := ih ((n - 1) / 2) (by omega)
      omega
theorem zpk_len : ∀ (l : List Int) (r : Nat), (zpk r l).length ≤ r + l.length
  | [], r => by unfold zpk; have := zd_len r; simp; omega
  | x :: t, r => by
    unfold zpk
    by_cases h0 : x = 0
    · rw [if_pos h0]; have := zpk_len t (r + 1); rw [List.length_cons]; omega
    · rw [if_neg h0, List.length_append, List.length_cons, List.length_cons]
      have := zpk_len t 0
      have := zd_len r
      omega
/-- Ranks come back of their symbols. -/
theorem zback (l : List Int) (hl : l.length ≤ 100000) (h : zgood 255 l = true) : zunF (zpk 0 l) l.length = (l, 0) ∧ zcountF (zpk 0 l) = l.length ∧ (zpk 0 l).length ≤ l.length := by
  have hu := zun_zpk l 0 h
  have hg := zpk_good l 0 h
  have hc : zcountF (zpk 0 l) = l.length := by
    unfold zcountF
    rw [← zun_len _ _ hg, hu]
    simp
    omega
  refine ⟨?_, hc, by have := zpk_len l 0; omega⟩
  unfold zunF
  rw [if_pos hg, hc, if_neg (by omega), hu]
  rfl
/-- Symbols come back of their ranks. -/
theorem zforth (l r : List Int) (most : Int) (h : zunF l most = (r, 0)) : zpackF r = (l, 0) ∧ r.length ≤ 100000 := by
  unfold zunF at h
  by_cases hg : zgood 256 l = true
  · rw [if_pos hg] at h
    by_cases hc : (zcountF l : Int) > most ∨ (zcountF l : Int) > 100000
    · rw [if_pos hc] at h
      simp at h
    · rw [if_neg hc] at h
      simp only [Prod.mk.injEq] at h
      obtain ⟨h, -⟩ := h
      subst h
      refine ⟨?_, ?_⟩
      · unfold zpackF
        rw [if_pos (zun_good _ _ hg), zpk_zun l [] rfl hg]
        rfl
      · rw [zun_len _ _ hg]
        unfold zcountF at hc
        omega
  · rw [if_neg hg] at h
    simp at h
theorem zunF_bad (l r : List Int) (most e : Int) (h : zunF l most = (r, e)) (he : e ≠ 0) : r = [] := by
  unfold zunF at h
  split at h
  · split at h
    · simp only [Prod.mk.injEq] at h; exact h.1.symm
    · simp only [Prod.mk.injEq] at h; exact absurd h.2.symm he
  · simp only [Prod.mk.injEq] at h; exact h.1.symm

/-! ### A run of noughts alone -/
/-- How often a number can be halved until it is 1. -/
def zlog (m : Nat) : Nat := if h : m ≤ 1 then 0 else zlog (m / 2) + 1
termination_by m
decreasing_by omega
theorem zlog_one (m : Nat) (h : m ≤ 1) : zlog m = 0 := by unfold zlog; rw [dif_pos h]
theorem zlog_more (m : Nat) (h : 1 < m) : zlog m = zlog (m / 2) + 1 := by
  conv => lhs; unfold zlog
  rw [dif_neg (by omega)]
theorem zd_log (n : Nat) : (zd n).length = zlog (n + 1) := by
  induction n using Nat.strongRecOn with
  | _ n ih =>
    by_cases h : n = 0
    · subst h; rw [zd_zero, zlog_one 1 (by omega)]; rfl
    · rw [zd_pos n h, List.length_cons, ih _ (by omega), zlog_more (n + 1) (by omega)]
      congr 2
      omega
theorem zlog_lt : ∀ (k m : Nat), m < 2 ^ (k + 1) → zlog m ≤ k
  | 0, m, h => by rw [zlog_one m (by simp at h; omega)]; omega
  | k + 1, m, h => by
    by_cases h1 : m ≤ 1
    · rw [zlog_one m h1]; omega
    · rw [zlog_more m (by omega)]
      have := zlog_lt k (m / 2) (by rw [Nat.pow_succ] at h; omega)
      omega
theorem zpk_noughts (n : Nat) : zpk 0 (List.replicate n 0) = zd n := by
  have := zpk_run 0 (List.replicate n 0) [] (fun x hx => (List.mem_replicate.1 hx).2)
  rw [List.append_nil, List.length_replicate, Nat.zero_add] at this
  rw [this]
  rfl
/-- What the first k digits come to. -/
theorem zv_take : ∀ (d : List Int) (k : Nat) (h : k < d.length), zv (d.take (k + 1)) = zv (d.take k) + 2 ^ k * (d[k].toNat + 1)
  | s :: t, 0, _ => by simp [zv]
  | s :: t, k + 1, h => by
    have ht : k < t.length := by simpa using h
    have ih := zv_take t k ht
    simp only [List.take_succ_cons, zv, List.getElem_cons_succ, Nat.pow_succ] at ih ⊢
    rw [ih, Nat.mul_comm (2 ^ k) 2, Nat.mul_assoc]
    omega
end Go.Proofs.Ytaabmpmoioipaaa
