/-
 What the law of the last of these texts stands on, part 11.
-/
import Derived.Test.YtanjhbkbpalnaaaGreatMa07
set_option maxRecDepth 100000
set_option maxHeartbeats 8000000
open Go.Proofs.Tryz
namespace Go.Proofs.YtanjhbkbpalnaaaGreat
set_option linter.unusedSimpArgs false
set_option linter.unusedVariables false
open Go.ChangeShapes Go.WideShapes Go.ChangeAt Go.RowKit Go.Joins Go.Deep
def zd (n : Nat) : List Int := if h : n = 0 then [] else (((n - 1) % 2 : Nat) : Int) :: zd ((n - 1) / 2)
termination_by n
decreasing_by omega
def zv : List Int → Nat
 | [] => 0
 | s :: t => s.toNat + 1 + 2 * zv t
def ya2 (top : Int) (l : List Int) : Bool := l.all fun k => decide (0 ≤ k) && decide (k ≤ top)
def zpk (r : Nat) : List Int → List Int
 | [] => zd r
 | x :: t => if x = 0 then zpk (r + 1) t else zd r ++ (x + 1) :: zpk 0 t
def zun (d : List Int) : List Int → List Int
 | [] => List.replicate (zv d) 0
 | s :: t => if 0 ≤ s ∧ s ≤ 1 then zun (d ++ [s]) t else List.replicate (zv d) 0 ++ (s - 1) :: zun [] t
def zct (d : List Int) : List Int → Nat
 | [] => zv d
 | s :: t => if 0 ≤ s ∧ s ≤ 1 then zct (d ++ [s]) t else zv d + (if 2 ≤ s ∧ s ≤ 256 then 1 else 0) + zct [] t
def yaZ (l : List Int) : Nat := min (zct [] l) 100001
def ybm (l : List Int) : List Int × Int := if ya2 255 l = true then (zpk 0 l, 0) else ([], 60)
def zunF (l : List Int) (most : Int) : List Int × Int :=
 if ya2 256 l = true then (if (yaZ l : Int) > most ∨ (yaZ l : Int) > 100000 then ([], 3) else (zun [] l, 0)) else ([], 70)
theorem ybf : zd 0 = [] := by unfold zd; simp
theorem yhu (n : Nat) (h : n ≠ 0) : zd n = (((n - 1) % 2 : Nat) : Int) :: zd ((n - 1) / 2) := by
 conv => lhs; unfold zd
 rw [dif_neg h]
theorem yaM (top s : Int) (t : List Int) : ya2 top (s :: t) = true ↔ (0 ≤ s ∧ s ≤ top) ∧ ya2 top t = true := by simp [ya2]
theorem yer (top : Int) (a b : List Int) : ya2 top (a ++ b) = true ↔ ya2 top a = true ∧ ya2 top b = true := by simp [ya2, List.all_append]
theorem yaX {top : Int} {l : List Int} (h : ya2 top l = true) (i : Nat) (hi : i < l.length) : 0 ≤ l[i] ∧ l[i] ≤ top := by
 unfold ya2 at h
 rw [qbH] at h
 have := h l[i] (qaq hi)
 simpa using this
theorem yeA {top : Int} {l : List Int} (h : ∀ i (hi : i < l.length), 0 ≤ l[i] ∧ l[i] ≤ top) : ya2 top l = true := by
 unfold ya2
 rw [qbH]
 intro x hx
 obtain ⟨i, hi, rfl⟩ := qaJ hx
 simpa using h i hi
theorem zgood_bad {top : Int} {l : List Int} (i : Nat) (hi : i < l.length) (hb : ¬(0 ≤ l[i] ∧ l[i] ≤ top)) : ya2 top l = false := by
 cases h : ya2 top l with
 | false => rfl
 | true => exact absurd (yaX h i hi) hb
theorem yci (n : Nat) : ya2 1 (zd n) = true := by
 induction n using Nat.strongRecOn with
 | _ n ih =>
  by_cases h : n = 0
  ·subst h; rw [ybf]; rfl
  ·rw [yhu n h, yaM]
   exact ⟨by omega, ih _ (by omega)⟩
theorem zv_zd (n : Nat) : zv (zd n) = n := by
 induction n using Nat.strongRecOn with
 | _ n ih =>
  by_cases h : n = 0
  ·subst h; rw [ybf]; rfl
  ·rw [yhu n h]
   unfold zv
   rw [ih _ (by omega)]
   omega
theorem zpk_run : ∀ (r : Nat) (p t : List Int), (∀ x ∈ p, x = 0) → zpk r (p ++ t) = zpk (r + p.length) t
 | r, [], t, _ => rfl
 | r, x :: p, t, h => by
  have h0 := h x (qa5 ..)
  have ih := zpk_run (r + 1) p t fun y hy => h y (qa4 _ hy)
  show zpk r (x :: (p ++ t)) = _
  conv => lhs; unfold zpk
  rw [qag h0, ih, qap, show r + 1 + p.length = r + (p.length + 1) from by omega]
theorem zpk_end (r : Nat) (t : List Int) (h : ∀ x s, t = x :: s → x ≠ 0) : zpk r t = zd r ++ zpk 0 t := by
 cases t with
 | nil => simp [zpk, ybf]
 | cons x s =>
  have := h x s rfl
  unfold zpk
  rw [qae this, qae this, ybf]
  rfl
theorem yd6 (x : Int) (t : List Int) (h : x ≠ 0) : zpk 0 (x :: t) = (x + 1) :: zpk 0 t := by
 conv => lhs; unfold zpk
 rw [qae h, ybf]
 rfl
theorem zun_run : ∀ (d p t : List Int), ya2 1 p = true → zun d (p ++ t) = zun (d ++ p) t
 | d, [], t, _ => by rw [qa8]; rfl
 | d, s :: p, t, h => by
  rw [yaM] at h
  have ih := zun_run (d ++ [s]) p t h.2
  show zun d (s :: (p ++ t)) = _
  conv => lhs; unfold zun
  rw [qag h.1, ih, qam]
  rfl
theorem zun_end (d t : List Int) (h : ∀ s u, t = s :: u → ¬(0 ≤ s ∧ s ≤ 1)) : zun d t = List.replicate (zv d) 0 ++ zun [] t := by
 cases t with
 | nil => simp [zun, zv]
 | cons s u =>
  have := h s u rfl
  unfold zun
  rw [qae this, qae this]
  simp [zv]
theorem zun_cons (s : Int) (t : List Int) (h : ¬(0 ≤ s ∧ s ≤ 1)) : zun [] (s :: t) = (s - 1) :: zun [] t := by
 conv => lhs; unfold zun
 rw [qae h]
 simp [zv]
theorem zct_run : ∀ (d p t : List Int), ya2 1 p = true → zct d (p ++ t) = zct (d ++ p) t
 | d, [], t, _ => by rw [qa8]; rfl
 | d, s :: p, t, h => by
  rw [yaM] at h
  have ih := zct_run (d ++ [s]) p t h.2
  show zct d (s :: (p ++ t)) = _
  conv => lhs; unfold zct
  rw [qag h.1, ih, qam]
  rfl
theorem zct_end (d t : List Int) (h : ∀ s u, t = s :: u → ¬(0 ≤ s ∧ s ≤ 1)) : zct d t = zv d + zct [] t := by
 cases t with
 | nil => simp [zct, zv]
 | cons s u =>
  have := h s u rfl
  unfold zct
  rw [qae this, qae this]
  simp only [zv]
  omega
theorem zct_cons (s : Int) (t : List Int) (h : ¬(0 ≤ s ∧ s ≤ 1)) : zct [] (s :: t) = (if 2 ≤ s ∧ s ≤ 256 then 1 else 0) + zct [] t := by
 conv => lhs; unfold zct
 rw [qae h]
 simp only [zv]
 omega
theorem zun_len : ∀ (l d : List Int), ya2 256 l = true → (zun d l).length = zct d l
 | [], d, _ => by simp [zun, zct]
 | s :: t, d, h => by
  rw [yaM] at h
  unfold zun zct
  by_cases h1 : 0 ≤ s ∧ s ≤ 1
  ·rw [qag h1, qag h1, zun_len t _ h.2]
  ·rw [qae h1, qae h1, qag (by omega), qab, qap, qav, zun_len t _ h.2]
   omega
theorem zun_zpk : ∀ (l : List Int) (r : Nat), ya2 255 l = true → zun [] (zpk r l) = List.replicate r 0 ++ l
 | [], r, _ => by
  have h := zun_run [] (zd r) [] (yci r)
  rw [qa8, qbc] at h
  unfold zpk
  rw [h]
  unfold zun
  rw [zv_zd, qa8]
 | x :: t, r, h => by
  rw [yaM] at h
  unfold zpk
  by_cases h0 : x = 0
  ·rw [qag h0, zun_zpk t (r + 1) h.2, h0, qcf, qam]
   rfl
  ·rw [qae h0, zun_run [] (zd r) _ (yci r), qbc]
   conv => lhs; unfold zun
   rw [qae (by omega), zv_zd, zun_zpk t 0 h.2]
   simp
theorem ygg : ∀ (l : List Int) (r : Nat), ya2 255 l = true → ya2 256 (zpk r l) = true
 | [], r, _ => by
  unfold zpk
  exact yeA fun i hi => by have := yaX (yci r) i hi; omega
 | x :: t, r, h => by
  rw [yaM] at h
  unfold zpk
  by_cases h0 : x = 0
  ·rw [qag h0]; exact ygg t _ h.2
  ·rw [qae h0, yer, yaM]
   exact ⟨yeA fun i hi => by have := yaX (yci r) i hi; omega, by omega, ygg t 0 h.2⟩
theorem zun_good : ∀ (l d : List Int), ya2 256 l = true → ya2 255 (zun d l) = true
 | [], d, _ => by
  unfold zun
  exact yeA fun i hi => by simp
 | s :: t, d, h => by
  rw [yaM] at h
  unfold zun
  by_cases h1 : 0 ≤ s ∧ s ≤ 1
  ·rw [qag h1]; exact zun_good t _ h.2
  ·rw [qae h1, yer, yaM]
   exact ⟨yeA fun i hi => by simp, by omega, zun_good t [] h.2⟩
theorem zd_len (n : Nat) : (zd n).length ≤ n := by
 induction n using Nat.strongRecOn with
 | _ n ih =>
  by_cases h : n = 0
  ·subst h; rw [ybf]; simp
  ·rw [yhu n h, qap]
   have := ih ((n - 1) / 2) (by omega)
   omega
theorem yeZ : ∀ (l : List Int) (r : Nat), (zpk r l).length ≤ r + l.length
 | [], r => by unfold zpk; have := zd_len r; simp; omega
 | x :: t, r => by
  unfold zpk
  by_cases h0 : x = 0
  ·rw [qag h0]; have := yeZ t (r + 1); rw [qap]; omega
  ·rw [qae h0, qab, qap, qap]
   have := yeZ t 0
   have := zd_len r
   omega
theorem zback (l : List Int) (hl : l.length ≤ 100000) (h : ya2 255 l = true) : zunF (zpk 0 l) l.length = (l, 0) ∧ yaZ (zpk 0 l) = l.length ∧ (zpk 0 l).length ≤ l.length := by
 have hu := zun_zpk l 0 h
 have hg := ygg l 0 h
 have hc : yaZ (zpk 0 l) = l.length := by
  unfold yaZ
  rw [← zun_len _ _ hg, hu]
  simp
  omega
 refine ⟨?_, hc, by have := yeZ l 0; omega⟩
 unfold zunF
 rw [qag hg, hc, qae (by omega), hu]
 rfl
def zlog (m : Nat) : Nat := if h : m ≤ 1 then 0 else zlog (m / 2) + 1
termination_by m
decreasing_by omega
theorem zlog_one (m : Nat) (h : m ≤ 1) : zlog m = 0 := by unfold zlog; rw [dif_pos h]
theorem zlog_more (m : Nat) (h : 1 < m) : zlog m = zlog (m / 2) + 1 := by
 conv => lhs; unfold zlog
 rw [dif_neg (by omega)]
theorem zd_log (n : Nat) : (zd n).length = zlog (n + 1) := by
 induction n using Nat.strongRecOn with
 | _ n ih =>
  by_cases h : n = 0
  ·subst h; rw [ybf, zlog_one 1 (by omega)]; rfl
  ·rw [yhu n h, qap, ih _ (by omega), zlog_more (n + 1) (by omega)]
   congr 2
   omega
theorem zlog_lt : ∀ (k m : Nat), m < 2 ^ (k + 1) → zlog m ≤ k
 | 0, m, h => by rw [zlog_one m (by simp at h; omega)]; omega
 | k + 1, m, h => by
  by_cases h1 : m ≤ 1
  ·rw [zlog_one m h1]; omega
  ·rw [zlog_more m (by omega)]
   have := zlog_lt k (m / 2) (by rw [qaR] at h; omega)
   omega
theorem ydT (n : Nat) : zpk 0 (List.replicate n 0) = zd n := by
 have := zpk_run 0 (List.replicate n 0) [] (fun x hx => (List.mem_replicate.1 hx).2)
 rw [qa8, qav, qaz] at this
 rw [this]
 rfl
def trb (x : Int) (c : Nat) : List Nat := digI x 4 ++ gam c
def tbP (x : Int) (c : Nat) : List Int → List Nat
 | [] => trb x c
 | y :: t => if y = x then tbP x (c + 1) t else trb x c ++ tbP y 1 t
def yaw : List Int → List Nat
 | [] => []
 | x :: t => tbP x 1 t
theorem tbP_run (x : Int) (t : List Int) : ∀ (d c : Nat), tbP x c (List.replicate d x ++ t) = tbP x (c + d) t
 | 0, c => rfl
 | d + 1, c => by
  rw [qaP, qb3]
  show (if x = x then tbP x (c + 1) (List.replicate d x ++ t) else _) = _
  rw [qag rfl, tbP_run x t d (c + 1), show c + 1 + d = c + (d + 1) from by omega]
theorem tbP_stop (x : Int) (c : Nat) : ∀ t : List Int, t.head? ≠ some x → tbP x c t = trb x c ++ yaw t
 | [], _ => by simp [tbP, yaw]
 | y :: t, h => by
  show (if y = x then tbP x (c + 1) t else trb x c ++ tbP y 1 t) = _
  rw [qae (fun e => h (by rw [e]; rfl))]
  rfl
theorem yhg (x : Int) (d : Nat) (t : List Int) (hd : 0 < d) (h : t.head? ≠ some x) : yaw (List.replicate d x ++ t) = trb x d ++ yaw t := by
 obtain ⟨k, rfl⟩ : ∃ k, d = k + 1 := ⟨d - 1, by omega⟩
 rw [qaP, qb3]
 show tbP x 1 (List.replicate k x ++ t) = _
 rw [tbP_run, tbP_stop x (1 + k) t h, qcC]
theorem yg5 (l : List Int) (x : Int) (i : Nat) : ∀ d, i + d ≤ l.length → (∀ j (hj : j < l.length), i ≤ j → j < i + d → l[j] = x) → l.drop i = List.replicate d x ++ l.drop (i + d)
 | 0, _, _ => rfl
 | d + 1, hk, h => by
  have ih := yg5 l x i d (by omega) fun j hj h1 h2 => h j hj h1 (by omega)
  rw [ih, qau (by omega : i + d < l.length), h (i + d) (by omega) (by omega) (by omega), qcf, qam]
  rfl
theorem tbits_at (l : List Int) (x : Int) (i k : Nat) (hi : i < k) (hk : k ≤ l.length) (h : ∀ j (hj : j < l.length), i ≤ j → j < k → l[j] = x) (hs : ∀ hj : k < l.length, l[k] ≠ x) : yaw (l.drop i) = trb x (k - i) ++ yaw (l.drop k) := by
 obtain ⟨d, rfl⟩ : ∃ d, k = i + d := ⟨k - i, by omega⟩
 rw [yg5 l x i d hk h, yhg x d _ (by omega), qbV]
 intro e
 rcases qbe (i + d) l.length with e2 | e2
 ·rw [qau e2, List.head?_cons] at e
  injection e with e
  exact hs e2 e
 ·rw [qaH e2] at e
  cases e
theorem trun_end (l : List Int) : ∀ (f i : Nat) (hi : i < l.length), l.length - i ≤ f → ∃ k, i < k ∧ k ≤ l.length ∧ (∀ j (hj : j < l.length), i ≤ j → j < k → l[j] = l[i]) ∧ ∀ hj : k < l.length, l[k] ≠ l[i]
 | 0, i, hi, hf => by omega
 | f + 1, i, hi, hf => by
  by_cases h : ∃ h2 : i + 1 < l.length, l[i + 1] = l[i]
  ·obtain ⟨h2, e⟩ := h
   obtain ⟨k, h3, h4, h5, h6⟩ := trun_end l f (i + 1) h2 (by omega)
   refine ⟨k, by omega, h4, fun j hj a b => ?_, fun hj => by rw [← e]; exact h6 hj⟩
   by_cases ej : j = i
   ·subst ej; rfl
   ·rw [h5 j hj (by omega) b, e]
  ·refine ⟨i + 1, by omega, by omega, fun j hj a b => ?_, fun hj e => h ⟨hj, e⟩⟩
   have : j = i := by omega
   subst this
   rfl
theorem gam_len (n : Nat) (h0 : n ≠ 0) (h : n < 4294967296) : (gam n).length ≤ 63 := by
 have h1 := (yg6 n [] h0 h).2
 have h2 := bl_le h0 h
 omega
theorem trb_bin (x : Int) (c : Nat) : Bin (trb x c) := (ycD _ _).app (gam_bin c)
theorem trb_len (x : Int) (c : Nat) (h0 : c ≠ 0) (h : c < 4294967296) : (trb x c).length ≤ 67 := by
 unfold trb digI
 rw [qab, yad]
 have := gam_len c h0 h
 show 4 + _ ≤ 67
 omega
theorem tbP_bin : ∀ (t : List Int) (x : Int) (c : Nat), Bin (tbP x c t)
 | [], x, c => trb_bin x c
 | y :: t, x, c => by
  show Bin (if y = x then tbP x (c + 1) t else trb x c ++ tbP y 1 t)
  by_cases e : y = x
  ·rw [qag e]; exact tbP_bin t x (c + 1)
  ·rw [qae e]; exact (trb_bin x c).app (tbP_bin t y 1)
theorem tbits_bin : ∀ l, Bin (yaw l)
 | [] => yfi
 | x :: t => tbP_bin t x 1
theorem tbP_len : ∀ (t : List Int) (x : Int) (c : Nat), 0 < c → c + t.length < 4294967296 → (tbP x c t).length ≤ 67 * (1 + t.length)
 | [], x, c, h0, h => by
  have := trb_len x c (by omega) (by simpa using h)
  show (trb x c).length ≤ 67 * (1 + 0)
  omega
 | y :: t, x, c, h0, h => by
  rw [qap] at h
  show (if y = x then tbP x (c + 1) t else trb x c ++ tbP y 1 t).length ≤ 67 * (1 + (t.length + 1))
  by_cases e : y = x
  ·rw [qag e]
   have := tbP_len t x (c + 1) (by omega) (by omega)
   omega
  ·rw [qae e, qab]
   have h1 := trb_len x c (by omega) (by omega)
   have h2 := tbP_len t y 1 (by omega) (by omega)
   omega
theorem tbits_len (l : List Int) (h : l.length < 4294967290) : (yaw l).length ≤ 67 * l.length := by
 cases l with
 | nil => exact qcb _
 | cons x t =>
  rw [qap] at h ⊢
  have := tbP_len t x 1 (by omega) (by omega)
  rw [qcC t.length 1]
  exact this
def ycn (L : List Nat) (n : Nat) : Nat → Nat → Int → List Int → List Int × Nat × Int
 | 0, to, _, out => (out, to, 0)
 | f + 1, to, last, out =>
  if n ≤ out.length then (out, to, 0)
  else if (ybq L to 4).2 ≠ 0 then ([], to, (ybq L to 4).2)
  else if (ybr (L.drop (to + 4))).2.2 ≠ 0 then ([], to, (ybr (L.drop (to + 4))).2.2)
  else if (ybq L to 4).1 = last then ([], to, 5)
  else if (n : Int) - out.length < (ybr (L.drop (to + 4))).1 then ([], to, 40)
  else ycn L n f (to + 4 + (ybr (L.drop (to + 4))).2.1) (ybq L to 4).1 (out ++ List.replicate (ybr (L.drop (to + 4))).1.toNat (ybq L to 4).1)
def ybB (L : List Nat) (p : Nat) (n : Int) : List Int × Nat × Int :=
 if n < 0 ∨ 257 < n then ([], p, 2)
 else if (ycn L n.toNat (n.toNat + 1) p (-1) []).2.2 ≠ 0 then ([], p, (ycn L n.toNat (n.toNat + 1) p (-1) []).2.2)
 else if yat (ycn L n.toNat (n.toNat + 1) p (-1) []).1 ≠ 0 then ([], p, yat (ycn L n.toNat (n.toNat + 1) p (-1) []).1)
 else ((ycn L n.toNat (n.toNat + 1) p (-1) []).1, (ycn L n.toNat (n.toNat + 1) p (-1) []).2.1, 0)
theorem yc2 (L : List Nat) (n f to : Nat) (last : Int) (out : List Int) : ycn L n (f + 1) to last out =
  if n ≤ out.length then (out, to, 0)
  else if (ybq L to 4).2 ≠ 0 then ([], to, (ybq L to 4).2)
  else if (ybr (L.drop (to + 4))).2.2 ≠ 0 then ([], to, (ybr (L.drop (to + 4))).2.2)
  else if (ybq L to 4).1 = last then ([], to, 5)
  else if (n : Int) - out.length < (ybr (L.drop (to + 4))).1 then ([], to, 40)
  else ycn L n f (to + 4 + (ybr (L.drop (to + 4))).2.1) (ybq L to 4).1 (out ++ List.replicate (ybr (L.drop (to + 4))).1.toNat (ybq L to 4).1) := rfl
theorem lz_take : ∀ R : List Nat, R.take (lz R) = List.replicate (lz R) 0
 | [] => rfl
 | d :: t => by
  have ih := lz_take t
  by_cases h : d = 0
  ·subst h
   show (0 :: t).take (lz t + 1) = List.replicate (lz t + 1) 0
   rw [qaM, qaP, ih]
  ·have e : lz (d :: t) = 0 := by show (if d = 0 then lz t + 1 else 0) = 0; rw [qae h]
   rw [e]
   rfl
theorem lz_next : ∀ (R : List Nat) (z : Nat), lz R = z → ∀ h : z < R.length, R[z] ≠ 0
 | [], z, _, h => absurd h (by simp)
 | d :: t, z, e, h => by
  by_cases hd : d = 0
  ·subst hd
   have e2 : lz t + 1 = z := e
   subst e2
   have := lz_next t (lz t) rfl (by simpa using h)
   simpa using this
  ·have e2 : lz (d :: t) = 0 := by show (if d = 0 then lz t + 1 else 0) = 0; rw [qae hd]
   rw [e2] at e
   subst e
   simpa using hd
theorem ungam_take {R : List Nat} (hb : Bin R) (n : Int) (k : Nat) (h : ybr R = (n, k, 0)) : k ≤ R.length ∧ 1 ≤ n ∧ n < 4294967296 ∧ R.take k = gam n.toNat ∧ (gam n.toNat).length = k := by
 unfold ybr at h
 by_cases a1 : lz R = R.length
 ·rw [qag a1] at h; simp at h
 rw [qae a1] at h
 by_cases a2 : 32 ≤ lz R
 ·rw [qag a2] at h; simp at h
 rw [qae a2] at h
 by_cases a3 : R.length < 2 * lz R + 1
 ·rw [qag a3] at h; simp at h
 rw [qae a3] at h
 simp only [qb8, and_true] at h
 obtain ⟨hn, hk⟩ := h
 obtain ⟨z, hz⟩ : ∃ z, lz R = z := ⟨_, rfl⟩
 have hzt := lz_take R
 rw [hz] at hn hk a1 a2 a3 hzt
 have hlz := lz_le R
 rw [hz] at hlz
 have hone : R[z]'(by omega) = 1 := by
  have h1 := lz_next R z hz (by omega)
  have h2 := hb _ (qaq (by omega : z < R.length))
  omega
 have h1 : (R.drop z).take (z + 1) = 1 :: (R.drop (z + 1)).take z := by
  rw [qau (by omega), qaM, hone]
 have hb2 : Bin ((R.drop (z + 1)).take z) := fun d hd => hb d (qbg (qaN hd))
 have hl2 : ((R.drop (z + 1)).take z).length = z := by rw [qao, qas]; omega
 have hv : num ((R.drop z).take (z + 1)) = 2 ^ z + num ((R.drop (z + 1)).take z) := by
  rw [h1]
  have := ybH [1] ((R.drop (z + 1)).take z)
  rw [hl2] at this
  rw [List.singleton_append] at this
  rw [this]
  show 1 * 2 ^ z + _ = _
  rw [Nat.one_mul]
 have hlt := ydN hb2
 rw [hl2] at hlt
 obtain ⟨N, hN⟩ : ∃ N, num ((R.drop z).take (z + 1)) = N := ⟨_, rfl⟩
 rw [hN] at hn hv
 subst hn
 have hp : 0 < (2 : Nat) ^ z := qaX (by omega)
 have hz32 : (2 : Nat) ^ (z + 1) ≤ 2 ^ 32 := qa0 (by omega) (by omega)
 have hps : (2 : Nat) ^ (z + 1) = 2 ^ z * 2 := qaR ..
 have h32 : (2 : Nat) ^ 32 = 4294967296 := by decide
 have hg := gam_is (n := N) (k := z) (by omega) (by omega) (by omega)
 rw [qan, hg]
 refine ⟨by omega, by omega, by omega, ?_, by rw [qab, qav, yad]; omega⟩
 have hd := yd2 (z + 1) ((R.drop z).take (z + 1)) (by rw [qao, qas]; omega) fun d hd => hb d (qbg (qaN hd))
 rw [hN] at hd
 rw [← hk, show 2 * z + 1 = z + (z + 1) from by omega, qcH, hzt, hd]
theorem ycv : (prog.info? 3).map (fun i => (i.zero, i.size, i.bytes)) = some (some (.int .i64 0), 1, 8) := by kernel_rfl
theorem yeD (fn : Fn) (first cap : Array Value) (w : World) : (Instr.makeFunc fn first cap).run prog w = .ok (.func fn first cap) w := rfl
def zin (top n : Int) : Bool := decide (0 ≤ n) && decide (n ≤ top)
theorem ybW (top n : Int) : zin top n = true ↔ 0 ≤ n ∧ n ≤ top := by simp [zin]
theorem zin_no (top n : Int) (h : ¬(0 ≤ n ∧ n ≤ top)) : zin top n = false := by
 cases h2 : zin top n with
 | false => rfl
 | true => exact absurd ((ybW top n).1 h2) h
theorem ycN (n top : Int) (w : World) : Calls prog 120 #[.int .i64 n, .int .i64 top] w fun e w' => e = .returned (.bool (zin top n)) ∧ w' = w := by
 by_cases h0 : 0 ≤ n
 ·by_cases h1 : n ≤ top
  ·have fin : zin top n = true := (ybW _ _).2 ⟨h0, h1⟩
   rw [fin]
   clear fin
   go_enter func120, ntmps120
   go_wp2
   go_ret
   exact ⟨rfl, rfl⟩
  ·have fin : zin top n = false := zin_no _ _ fun h => h1 h.2
   rw [fin]
   clear fin
   go_enter func120, ntmps120
   go_wp2
   go_ret
   exact ⟨rfl, rfl⟩
 ·have fin : zin top n = false := zin_no _ _ fun h => h0 h.1
  rw [fin]
  clear fin
  go_enter func120, ntmps120
  go_wp2
  go_ret
  exact ⟨rfl, rfl⟩
theorem zr_not_any (n top : Int) (pb : Nat) (w : World) (hP : Blk w pb 3 #[.int .i64 top]) : Calls prog 119 #[.int .i64 n, .pointer (some ⟨pb, 0, none⟩)] w fun e w' => e = .returned (.bool (!zin top n)) ∧ w' = w := by
 have c1 : w.cell? ⟨pb, 0, none⟩ = some (.int .i64 top) := hP.cell 0
 clear hP
 go_enter func119, ntmps119
 go_wp2_with (go_at_call 120; refine (ycN n top _).mono ?_; rintro e w1 ⟨rfl, rfl⟩)
 go_ret
 exact ⟨rfl, rfl⟩
theorem zr_index_any (l : List Int) (top : Int) (A : Option Addr) (n c pb : Nat) (w : World) (hm : n ≤ 4611686018427387904) (hr : Reads w w.heap.size 1 A n (ints l)) (hP : Blk w pb 3 #[.int .i64 top]) :
  Calls prog 164 #[.slice A n c, .func (.func 119) #[] #[.pointer (some ⟨pb, 0, none⟩)]] w fun e w' => ∃ r : Int, e = .returned (.int .i64 r) ∧ (decide (0 ≤ r)) = !ya2 top l ∧ w' = w := by
 have en : l.length = n := by have := hr.1; rw [yab] at this; omega
 have Hcell : Hid (0 < n → ∃ b off, A = some ⟨b, off, none⟩ ∧ ∀ k, (hk : k < l.length) → w.cell? ⟨b, off + k, none⟩ = some (.int .i64 l[k])) := qaa fun h => by
  obtain ⟨b, off, e, hb, hc⟩ := hr.2 h
  exact ⟨b, off, e, fun k hk => hc k _ (yai l k hk)⟩
 have Hcl := qaa fun n => zr_not_any n top pb w hP
 have Hbad : Hid (∀ k (hk : k < l.length), zin top l[k] = false → ya2 top l = false) := qaa fun k hk h => zgood_bad k hk fun h2 => by rw [(ybW _ _).2 h2] at h; cases h
 have Hgood : Hid ((∀ k (hk : k < l.length), zin top l[k] = true) → ya2 top l = true) := qaa fun h => yeA fun k hk => (ybW _ _).1 (h k hk)
 have En := qaa en
 clear hr hP en
 go_enter func164, ntmps164
 go_wp2
 go_loop [8] (fun i => ∃ k : Nat, k ≤ n ∧ i = .int .i64 k ∧ Hid (∀ j (hj : j < l.length), j < k → zin top l[j] = true)) (fun i => n - (intOf i).toNat)
 case atStart => exact ⟨0, by omega, rfl, fun j _ h => by omega⟩
 case round =>
  obtain ⟨k, hk, rfl, Hk⟩ := hrel
  by_cases hlt : k < n
  ·have hkl : k < l.length := by rw [En.out]; exact hlt
   obtain ⟨b, off, rfl, hc⟩ := Hcell.out (by omega)
   have hcell := hc k hkl
   have hki : (0 : Int) ≤ (k : Int) ∧ (k : Int) < n := by omega
   have Hc2 := qaa (Hcl.out l[k])
   clear hc
   cases hz : zin top l[k] with
   | true =>
    have Hn : Hid (∀ j (hj : j < l.length), j < k + 1 → zin top l[j] = true) := qaa fun j hj h => by
     rcases qbe j k with h1 | h1
     ·exact Hk.out j hj h1
     ·obtain rfl : j = k := by omega
      exact hz
    rw [hz] at Hc2
    clear hz Hbad Hgood
    generalize l[k] = x at *
    go_wp2_with (go_at_call 119; refine Hc2.out.mono ?_; rintro e w1 ⟨rfl, rfl⟩)
    go_round
    case rel => exact ⟨k + 1, by omega, iv (by omega), Hn.out⟩
    case measure => simp only [intOf]; omega
   | false =>
    have Hf := qaa (Hbad.out k hkl hz)
    rw [hz] at Hc2
    clear hz Hbad Hgood
    generalize l[k] = x at *
    go_wp2_with (go_at_call 119; refine Hc2.out.mono ?_; rintro e w1 ⟨rfl, rfl⟩)
    go_ret
    exact ⟨_, rfl, by rw [Hf.out]; simp, rfl⟩
  ·obtain rfl : k = n := by omega
   have Hg := qaa (Hgood.out fun j hj => Hk.out j hj (by have := En.out; omega))
   clear Hbad Hgood
   go_wp2
   go_ret
   exact ⟨_, rfl, by rw [Hg.out]; rfl, rfl⟩
theorem yhj (l : List Int) (top : Int) (A : Option Addr) (n c pb : Nat) (w : World) (hm : n ≤ 4611686018427387904) (hr : Reads w w.heap.size 1 A n (ints l)) (hP : Blk w pb 3 #[.int .i64 top]) :
  Calls prog 118 #[.slice A n c, .func (.func 119) #[] #[.pointer (some ⟨pb, 0, none⟩)]] w fun e w' => e = .returned (.bool (!ya2 top l)) ∧ w' = w := by
 have Hi := qaa (zr_index_any l top A n c pb w hm hr hP)
 clear hr hP
 generalize ya2 top l = g at *
 go_enter func118, ntmps118
 go_wp2_with (go_at_call 164; refine Hi.out.mono ?_; rintro e w1 ⟨r, rfl, hd, rfl⟩; have Hd := qaa hd; clear hd)
 go_ret
 exact ⟨by rw [← Hd.out]; rfl, rfl⟩
theorem zr_all_any (l : List Int) (top : Int) (A : Option Addr) (n c : Nat) (w : World) (hm : n ≤ 4611686018427387904) (hr : Reads w w.heap.size 1 A n (ints l)) :
  Calls prog 69 #[.slice A n c, .int .i64 top] w fun e w' => e = .returned (.bool (ya2 top l)) ∧ Below w.heap.size w w' := by
 have hmf := yeD
 have hb : Below w.heap.size w (w.alloc (.cells #[.int .i64 top] 3)) := (qak _ _).alloc (qad _) _
 have Hc := qaa (yhj l top A n c w.heap.size (w.alloc (.cells #[.int .i64 top] 3)) hm ((hr.below hb).more hb.size) (Blk.new w _ _))
 have Hb := qaa hb
 clear hr hb
 generalize ya2 top l = g at *
 go_enter func69, ntmps69
 go_wp2_with (go_at_call 118; refine Hc.out.mono ?_; rintro e w1 ⟨rfl, rfl⟩)
 go_ret
 exact ⟨by cases g <;> rfl, Hb.out⟩
def yaR (n : Int) : List Int := (zd n.toNat).map (· + 1)
theorem zdigF_len (n : Int) (h : n < 9223372036854775808) : (yaR n).length ≤ 63 := by
 unfold yaR
 rw [qaD, zd_log]
 exact zlog_lt 63 _ (by simp; omega)
theorem zr_digits_any (n : Int) (hn : n < 9223372036854775808) (w : World) :
  Calls prog 73 #[.int .i64 n] w fun e w' => ∃ A c, e = .returned (.slice A (yaR n).length c) ∧ (yaR n).length ≤ c ∧ w'.ownsRow w.heap.size 3 1 (.slice A (yaR n).length c) (yaR n).length (ints (yaR n)) ∧ Below w.heap.size w w' := by
 obtain ⟨i0, hi, hz0, hz1, hz2⟩ := qb1 ycv
 have hl63 := zdigF_len n hn
 by_cases h0 : n ≤ 0
 ·have e0 : yaR n = [] := by unfold yaR; rw [show n.toNat = 0 from by omega, ybf]; rfl
  rw [e0]
  clear e0 hl63
  go_enter func73, ntmps73
  go_wp2
  go_loopw [0, 3] (fun i v wr => i = .int .i64 n ∧ v = .slice none 0 0 ∧ wr = w) (fun _ _ _ => 0)
  case atStart => exact ⟨rfl, rfl, rfl⟩
  case round =>
   obtain ⟨rfl, rfl, rfl⟩ := hrel
   go_wp2
   go_ret
   exact ⟨none, 0, rfl, qad _, qbn _ _ _ _, qak _ _⟩
 ·obtain ⟨N, rfl⟩ : ∃ N : Nat, n = N := ⟨n.toNat, by omega⟩
  have hD : yaR (N : Int) = (zd N).map (· + 1) := by unfold yaR; rw [qan]
  have Hstart : Hid ([] ++ (zd N).map (· + 1) = yaR (N : Int)) := qaa (by rw [hD]; rfl)
  clear hD h0
  generalize yaR (N : Int) = D at *
  go_enter func73, ntmps73
  go_wp2
  go_loopw [0, 3] (fun i v wr => ∃ (m : Nat) (acc : List Int), i = .int .i64 m ∧ (m : Int) < 9223372036854775808 ∧ Hid (acc ++ (zd m).map (· + 1) = D) ∧ Hid (wr.ownsRow w.heap.size 3 1 v acc.length (ints acc)) ∧ Hid (Below w.heap.size w wr)) (fun i _ _ => (intOf i).toNat)
  case atStart => exact ⟨N, [], rfl, hn, Hstart.out, qbn _ _ _ _, qak _ _⟩
  case round =>
   obtain ⟨m, acc, rfl, hm, Hacc, Hown, Hb⟩ := hrel
   cases m with
   | zero =>
    have hf := Hacc.out
    rw [ybf] at hf
    simp at hf
    subst hf
    obtain ⟨A2, c2, rfl, hc2, hr2⟩ := yae Hown.out
    go_wp2
    go_ret
    exact ⟨A2, c2, rfl, hc2, Hown.out, Hb.out⟩
   | succ p =>
    have hf := Hacc.out
    rw [yhu _ (by omega), show p + 1 - 1 = p from by omega, qcz] at hf
    have hle : acc.length ≤ 62 := by
     have := qbC List.length hf
     rw [qab, qap] at this
     omega
    have hsub : ((p + 1 : Nat) : Int) - 1 = (p : Int) := by omega
    have hw1 : IntKind.i64.wrap (((p + 1 : Nat) : Int) - 1) = (p : Int) := by rw [qal]; omega
    have hmod : Int.tmod (p : Int) 2 = ((p % 2 : Nat) : Int) := by rw [Int.tmod_eq_emod_of_nonneg (by omega)]; omega
    have hdiv : Int.tdiv (p : Int) 2 = ((p / 2 : Nat) : Int) := by rw [Int.tdiv_eq_ediv_of_nonneg (by omega)]; omega
    have Hn : Hid ((acc ++ [((p % 2 : Nat) : Int) + 1]) ++ (zd (p / 2)).map (· + 1) = D) := qaa (by rw [← hf]; simp)
    have hp2 : p % 2 < 2 := Nat.mod_lt _ (by omega)
    have hszr := Hb.out.size
    have hpp : p / 2 ≤ p := by omega
    clear hf Hacc
    generalize p % 2 = q at *
    generalize p / 2 = m2 at *
    go_wp2_with (at_builtin; refine wpList_append_own _ rfl _ _ 28 rfl w.heap.size 3 i0 (.int .i64 0) 1 8 underlying28 hi hz0 hz1 hz2 rfl (by decide) _ _ _ rfl (Hown.out.alloc _) ⟨wr.heap.size, 0, none⟩ 1 1 [.int .i64 ((q : Int) + 1)] rfl rfl ?c1 ?c2 ?c3 ?c4 ?c5 ?_)
    case c1 =>
     intro j u hj
     match j, hj with
     | 0, hj => simp at hj; subst hj; simp [Addr.add]
    case c2 => intro u hu; simp at hu; subst hu; rfl
    case c3 => unfold maxLen; omega
    case c4 => omega
    case c5 => simp; omega
    intro v' w1 hown' hgrow _
    have Hb' : Hid (Below w.heap.size w w1) := qaa ((Below.trans Hb.out (by go_grown)).grown hgrow (by simp; omega) (fun g hg => (Hown.out.lt g hg).1))
    have Hown' : Hid (w1.ownsRow w.heap.size 3 1 v' (acc ++ [(q : Int) + 1]).length (ints (acc ++ [(q : Int) + 1]))) := qaa (by
     have e1 : (acc ++ [(q : Int) + 1]).length = acc.length + 1 := by simp
     have e2 : ints (acc ++ [(q : Int) + 1]) = ints acc ++ [.int .i64 ((q : Int) + 1)] := by simp [ints]
     rw [e1, e2]
     exact hown')
    clear hown' hgrow
    go_wp2
    go_roundw
    case rel => exact ⟨m2, _, rfl, by omega, Hn.out, Hown'.out, Hb'.out⟩
    case measure => simp only [intOf]; omega
theorem Sep.trans {w w1 : World} {v v1 v2 : Value} (h : Sep w v v1) (k : Sep w1 v1 v2) (hs : w.heap.size ≤ w1.heap.size) : Sep w v v2 := fun i hi => by
 rcases k i hi with e | e
 ·exact h i e
 ·exact qaI (by omega)
theorem touch_ws {w w1 w2 : World} {g : Nat} {v v1 : Value} (h : Touch w w1 (WS g v)) (k : Touch w1 w2 (WS g v1)) (hs : Sep w v v1) : Touch w w2 (WS g v) :=
 h.next k fun i hi e => by
  rcases e with e | e
  ·exact qay e
  ·rcases hs i e with e | e
   ·exact qaI e
   ·omega
theorem bput_is (B g : Nat) (n width : Int) (v : Value) (R : List Nat) (w : World) (hf : fits n width) (hH : WHold w B g v R) (hB : B ≤ w.heap.size) (hR : R.length ≤ 1099511627776) :
  Calls prog 107 #[.pointer (some ⟨g, 0, none⟩), .int .i64 n, .int .i64 width] w fun e w' => e = .returned (.int .i64 0) ∧ ∃ v', WHold w' B g v' (R ++ digI n width) ∧ Touch w w' (WS g v) ∧ Sep w v v' := by
 obtain ⟨h1, h2, h3, h4⟩ := hf
 obtain ⟨W, rfl⟩ := qaF h1
 obtain ⟨N, rfl⟩ := qaF h3
 exact put_yes B g W N v R w (by omega) (by simp only [qan] at h4; exact_mod_cast h4) hH hB hR
theorem nread (x M t : Nat) (m : Int) (hm : m = M) (hM : M < 256) (ht : t ≤ 8) (hfit : x * 2 ^ t < 4294967296) :
  bits .or .i64 (wrap64 ((x : Int) * 2 ^ min t 64)) (bits .and .i64 m (wrap64 (wrap64 (2 ^ min t 64) - 1))) = ((x * 2 ^ t + M % 2 ^ t : Nat) : Int) := by
 subst hm
 rw [show min t 64 = t from by omega]
 have hp : 0 < 2 ^ t := qaX (by omega)
 have h8 : 2 ^ t ≤ 2 ^ 8 := qa0 (by omega) ht
 rw [show (2 : Nat) ^ 8 = 256 from by decide] at h8
 have e1 : (2 : Int) ^ t = ((2 ^ t : Nat) : Int) := by norm_cast
 have e2 : wrap64 (wrap64 ((2 : Int) ^ t) - 1) = 2 ^ t - 1 := by rw [e1]; unfold wrap64; omega
 have e3 : wrap64 ((x : Int) * 2 ^ t) = ((x * 2 ^ t : Nat) : Int) := by
  have : (x : Int) * 2 ^ t = ((x * 2 ^ t : Nat) : Int) := by norm_cast
  rw [this]
  unfold wrap64
  omega
 have e63 : (2 : Int) ^ 63 = 9223372036854775808 := by decide
 have hwr : ∀ n : Int, 0 ≤ n → n < 2 ^ 63 → IntKind.i64.wrap n = n := fun n h0 h1 => by
  rw [e63] at h1
  rw [qal]
  omega
 rw [e2, bits_mask .i64 63 (by decide) hwr t (by omega) (M : Int) (by omega) (by rw [e63]; omega), e3]
 have e4 : (M : Int) % 2 ^ t = ((M % 2 ^ t : Nat) : Int) := by rw [e1]; exact (Int.natCast_emod _ _).symm
 have hlt : M % 2 ^ t < 2 ^ t := Nat.mod_lt _ hp
 rw [e4, bits_join .i64 63 (by decide) hwr t ((x * 2 ^ t : Nat) : Int) ((M % 2 ^ t : Nat) : Int) (by omega) (by rw [e1, ← Int.natCast_emod, Nat.mul_mod_left]; rfl) (by rw [e63]; omega) (by omega) (by rw [e1]; exact_mod_cast hlt) (by rw [e63]; omega)]
 omega
theorem row_next (l : List UInt8) (p k t : Nat) (hp : p ≤ k) (hq : k / 8 < l.length) (ht : k % 8 + t ≤ 8) :
  num (((yag l).drop p).take (k + t - p)) = num (((yag l).drop p).take (k - p)) * 2 ^ t + l[k / 8].toNat / 2 ^ (8 - k % 8 - t) % 2 ^ t := by
 have h1 := row_mid l (k / 8) (k % 8) t hq ht
 rw [Nat.div_add_mod] at h1
 rw [show k + t - p = (k - p) + t from by omega, qcH, qbt, show p + (k - p) = k from by omega, h1, ybH, yad, ycL]
theorem row_bound (l : List UInt8) (p k t : Nat) (h : k - p + t ≤ 32) : num (((yag l).drop p).take (k - p)) * 2 ^ t < 4294967296 := by
 have h1 := ydN (l := ((yag l).drop p).take (k - p)) (fun d hd => yc8 l d (qbg (qaN hd)))
 have h2 : 2 ^ (((yag l).drop p).take (k - p)).length ≤ 2 ^ (k - p) := qa0 (by omega) (by simp; omega)
 have h3 : num (((yag l).drop p).take (k - p)) * 2 ^ t < 2 ^ (k - p) * 2 ^ t := qb9 (by omega) (qaX (by omega))
 rw [← qbF] at h3
 have h4 : 2 ^ (k - p + t) ≤ 2 ^ 32 := qa0 (by omega) h
 rw [show (2 : Nat) ^ 32 = 4294967296 from by decide] at h4
 omega
theorem number_any (l : List UInt8) (p W g : Nat) (at0 : Int) (w : World) (hl : l.length ≤ 1099511627776) (hp : p + W ≤ 8 * l.length) (hW : W ≤ 32) (hB : Blk w g 174 #[.string ⟨l.toArray⟩, .int .i64 at0]) :
  Calls prog 170 #[.pointer (some ⟨g, 0, none⟩), .int .i64 p, .int .i64 W] w fun e w' => e = .returned (.int .i64 (num (((yag l).drop p).take W))) ∧ ∃ k, w.drewN k = w' := by
 have hll : (l.length : Int) ≤ 1099511627776 := by omega
 have hpl : (p : Int) ≤ 8796093022208 := by omega
 have hWi : (W : Int) ≤ 32 := by omega
 go_enter func170, ntmps170
 go_wp2
 go_loopw [1, 7] (fun a n wr => ∃ k x : Nat, p ≤ k ∧ k ≤ p + W ∧ a = .int .i64 k ∧ n = .int .i64 x ∧ Hid (x = num (((yag l).drop p).take (k - p))) ∧ Hid (∃ d, w.drewN d = wr)) (fun a _ _ => (p + W) - (intOf a).toNat)
 case atStart => exact ⟨p, 0, by omega, by omega, rfl, rfl, by rw [qbS]; rfl, 0, rfl⟩
 case round =>
  obtain ⟨k, x, hk0, hk, rfl, rfl, Hx, d, rfl⟩ := hrel
  obtain ⟨c1, c2, _, _⟩ := hB.two
  by_cases hlt : k < p + W
  ·have h1 : (k : Int) < p + W := by omega
   have hq : k / 8 < l.length := by omega
   have hqi : 0 ≤ (k : Int) / 8 ∧ (k : Int) / 8 < l.length := by omega
   have hki : (k : Int) ≤ 8796093022208 := by omega
   have hby := u8_lt l[k / 8]
   by_cases hpart : 8 - (k : Int) % 8 ≤ p + W - k
   ·have hn := row_next l p k (8 - k % 8) hk0 hq (by omega)
    have hbd := row_bound l p k (8 - k % 8) (by omega)
    have ht8 : 8 - k % 8 ≤ 8 ∧ k + (8 - k % 8) ≤ p + W ∧ 0 < 8 - k % 8 := by omega
    rw [← Hx.out] at hn hbd
    rw [show 8 - k % 8 - (8 - k % 8) = 0 from by omega, Nat.pow_zero, Nat.div_one] at hn
    have Hn := qaa hn
    have Hbd := qaa hbd
    have Ht8 := qaa ht8
    have Hby := qaa hby
    clear hn hbd ht8 hby
    go_wp2
    rw [show (8 - (k : Int) % 8) = ((8 - k % 8 : Nat) : Int) from by omega]
    generalize 8 - k % 8 = t at *
    go_quiet (fail)
    have ht9 : (t : Int) ≤ 8 := by have := Ht8.out; omega
    go_wp2
    go_roundw
    case rel =>
     have h8 := Ht8.out
     have hby := Hby.out
     refine ⟨k + t, _, by omega, by omega, iv (by omega), iv (nread x l[k / 8].toNat t _ ?_ hby h8.1 Hbd.out), Hn.out.symm, d + _, rfl⟩
     rw [ycP]
     unfold wrap64
     omega
    case measure =>
     have h8 := Ht8.out
     simp only [intOf]
     omega
   ·have hn := row_next l p k (p + W - k) hk0 hq (by omega)
    have hbd := row_bound l p k (p + W - k) (by omega)
    rw [← Hx.out] at hn hbd
    have ht8 : p + W - k ≤ 8 ∧ p + W - k ≤ 8 - k % 8 ∧ k + (p + W - k) = p + W ∧ 0 < p + W - k := by omega
    have Hn := qaa hn
    have Hbd := qaa hbd
    have Ht8 := qaa ht8
    have Hby := qaa hby
    clear hn hbd ht8 hby
    go_wp2
    rw [show (8 - (k : Int) % 8) = ((8 - k % 8 : Nat) : Int) from by omega, show ((p : Int) + W - k) = ((p + W - k : Nat) : Int) from by omega]
    have hle : (p + W - k ≤ 8 - k % 8) ∧ 8 - k % 8 ≤ 8 := by omega
    generalize 8 - k % 8 = bh at *
    generalize p + W - k = t at *
    have hws : IntKind.i64.wrap ((bh : Int) - t) = ((bh - t : Nat) : Int) := by rw [qal]; omega
    have Hle := qaa hle
    clear hle
    go_quiet (fail)
    have ht9 : (t : Int) ≤ 8 := by have := Ht8.out; omega
    go_wp2
    go_roundw
    case rel =>
     have h8 := Ht8.out
     have hby := Hby.out
     have hle := Hle.out
     have hdv : l[k / 8].toNat / 2 ^ (bh - t) ≤ l[k / 8].toNat := Nat.div_le_self _ _
     refine ⟨k + t, _, by omega, by omega, iv (by omega), iv (nread x (l[k / 8].toNat / 2 ^ (bh - t)) t _ ?_ (by omega) h8.1 Hbd.out), Hn.out.symm, d + _, rfl⟩
     rw [ycP, show min (bh - t) 64 = bh - t from by omega, show wrap64 (l[k / 8].toNat : Int) = (l[k / 8].toNat : Int) from by unfold wrap64; omega]
     norm_cast
    case measure =>
     have h8 := Ht8.out
     simp only [intOf]
     omega
  ·obtain rfl : k = p + W := by omega
   go_wp2
   go_ret
   refine ⟨qbC Ending.returned (iv ?_), d, rfl⟩
   rw [Hx.out, show p + W - p = W from by omega]
end Go.Proofs.YtanjhbkbpalnaaaGreat
