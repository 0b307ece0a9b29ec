/-
 What the law of the last of these texts stands on, part 17.
-/
import Derived.Test.YtoinjdmlembgeaaGreatMg16
namespace Go.Proofs.YtoinjdmlembgeaaGreat
set_option linter.unusedSimpArgs false
set_option linter.unusedVariables false
open Go.ChangeShapes Go.WideShapes Go.ChangeAt Go.RowKit Go.Joins Go.Deep
def yfZ (u : Nat) : Int := if u = 0 then 0 else if u = 1 then 16384 else 32768
theorem p_full_any (u : Nat) (hu : u ≤ 1000000) (w : World) : Calls Tryz.prog 103 #[.int .i64 (u : Int)] w fun e w' => e = .returned (.int .i64 (yfZ u)) ∧ w' = w := by
 unfold yfZ
 by_cases h0 : u = 0
 ·subst h0
  rw [if_pos rfl]
  go_enter Tryz.func103, Tryz.ntmps103
  go_wp2
  go_ret
  exact ⟨rfl, rfl⟩
 ·rw [if_neg h0]
  by_cases h1 : u = 1
  ·subst h1
   rw [if_pos rfl]
   go_enter Tryz.func103, Tryz.ntmps103
   go_wp2
   go_ret
   exact ⟨rfl, rfl⟩
  ·rw [if_neg h1]
   have b0 : ((u : Int) == 0) = false := by simp; omega
   have b1 : ((u : Int) == 1) = false := by simp; omega
   go_enter Tryz.func103, Tryz.ntmps103
   go_wp2
   go_ret
   exact ⟨rfl, rfl⟩
section
variable (l : List Int) (A : Option Addr) (n c : Nat) (w : World)
theorem p_used_any (hm : n ≤ 1000000) (hr : Reads w w.heap.size 1 A n (ints l)) :
  Calls Tryz.prog 104 #[.slice A n c] w fun e w' => e = .returned (.int .i64 (yau l : Int)) ∧ w' = w := by
 have en : l.length = n := by have := hr.1; rw [yab] at this; omega
 have Hcell := lcells hr
 have Htake : Hid (∀ k (h : k < l.length), yau (l.take (k + 1)) = yau (l.take k) + if 0 < l[k] then 1 else 0) := Lib.hid (usedF_take l)
 have Hall : Hid (yau (l.take n) = yau l) := Lib.hid (by rw [List.take_of_length_le (by omega)])
 have En := Lib.hid en
 obtain ⟨R, hR⟩ : ∃ R : Int, (yau l : Int) = R := ⟨_, rfl⟩
 rw [hR]
 have HR := Lib.hid hR
 clear hr en hR
 go_enter Tryz.func104, Tryz.ntmps104
 go_wp2
 go_loop [3, 5, 8] (fun p x i => ∃ k P : Nat, k ≤ n ∧ P ≤ k ∧ p = .int .i64 P ∧ i = .int .i64 k ∧ Hid (P = yau (l.take k))) (fun _ _ i => n - (intOf i).toNat)
 case atStart => exact ⟨0, 0, by omega, by omega, rfl, rfl, rfl⟩
 case round =>
  obtain ⟨k, P, hk, hP, rfl, rfl, Hk⟩ := hrel
  by_cases hlt : k < n
  ·have hki : (0 : Int) ≤ (k : Int) ∧ (k : Int) < n := by omega
   have hkl : k < l.length := by rw [En.out]; exact hlt
   obtain ⟨b, off, rfl, hb, hc⟩ := Hcell.out (by omega)
   have hx := hc k hkl
   have ht := Htake.out k hkl
   rw [← Hk.out] at ht
   have Ht := Lib.hid ht
   clear hc ht
   generalize l[k] = x at *
   by_cases hx0 : 0 < x
   ·have Ht2 : Hid (P + 1 = yau (l.take (k + 1))) := Lib.hid (by rw [Ht.out, if_pos hx0])
    go_wp2
    go_round
    case rel => exact ⟨k + 1, P + 1, by omega, by omega, iv (by omega), iv (by omega), Ht2.out⟩
    case measure => simp only [intOf]; omega
   ·have Ht2 : Hid (P = yau (l.take (k + 1))) := Lib.hid (by rw [Ht.out, if_neg hx0]; rfl)
    go_wp2
    go_round
    case rel => exact ⟨k + 1, P, by omega, by omega, rfl, iv (by omega), Ht2.out⟩
    case measure => simp only [intOf]; omega
  ·obtain rfl : k = n := by omega
   have Hf : Hid ((P : Int) = R) := Lib.hid (by rw [← HR.out, ← Hall.out, ← Hk.out])
   go_wp2
   go_ret
   exact ⟨by rw [← Hf.out]; rfl, rfl⟩
def ycQ (l : List Int) : Int := if 257 < l.length then 3 else if ydv l = true then (if (yap l : Int) = yfZ (yau l) then 0 else 80) else 80
theorem partF_le : ∀ l : List Int, yap l ≤ 32768 * l.length
 | [] => by simp [yap]
 | x :: t => by
  have := partF_le t
  have h2 : (2 : Nat) ^ (15 - x.toNat) ≤ 2 ^ 15 := Nat.pow_le_pow_right (by omega) (by omega)
  show (if 0 < x then 2 ^ (15 - x.toNat) else 0) + yap t ≤ _
  rw [List.length_cons]
  split <;> omega
theorem pshift (m : Nat) (h : m ≤ 15) : (32768 : Int) / 2 ^ m = ((2 ^ (15 - m) : Nat) : Int) := by
 have : ∀ m : Fin 16, (32768 : Int) / 2 ^ m.1 = ((2 ^ (15 - m.1) : Nat) : Int) := by decide
 exact this ⟨m, by omega⟩
set_option maxRecDepth 100000 in
set_option maxHeartbeats 4000000 in
theorem yea (hm : n ≤ 1000000) (hr : Reads w w.heap.size 1 A n (ints l)) :
  Calls Tryz.prog 64 #[.slice A n c] w fun e w' => e = .returned (.int .i64 (ycQ l)) ∧ Below w.heap.size w w' := by
 have en : l.length = n := by have := hr.1; rw [yab] at this; omega
 have Hall := Lib.hid (a_all_any l 15 A n c w (by omega) hr)
 have Hused := Lib.hid fun (W : World) (hW : Below w.heap.size w W) => p_used_any l A n c W (by omega) ((hr.below hW).more hW.size)
 have Hfull := Lib.hid fun W => p_full_any (yau l) (by have := usedF_le l; omega) W
 obtain ⟨F, hF⟩ : ∃ F, ycQ l = F := ⟨_, rfl⟩
 rw [hF]
 unfold ycQ at hF
 rw [en] at hF
 by_cases hn : 257 < n
 ·rw [if_pos hn] at hF
  subst hF
  have hni : (257 : Int) < n := by omega
  clear hr
  go_enter Tryz.func64, Tryz.ntmps64
  go_wp2
  go_ret
  exact ⟨rfl, Below.refl _ _⟩
 ·rw [if_neg hn] at hF
  have hni : ¬ (257 : Int) < n := by omega
  by_cases hg : ydv l = true
  ·rw [if_pos hg] at hF
   have hga : ycE 15 l = true := hg
   rw [hga] at Hall
   have Hcell : Hid (0 < n → ∃ b off, A = some ⟨b, off, none⟩ ∧ ∀ wr, Below w.heap.size w wr → ∀ k, (hk : k < l.length) → wr.cell? ⟨b, off + k, none⟩ = some (.int .i64 l[k])) := Lib.hid fun h => by
    obtain ⟨b, off, e, hb, hc⟩ := hr.2 h
    exact ⟨b, off, e, fun wr hw k hk => (hw.cell (p := ⟨b, off + k, none⟩) hb).trans (hc k _ (yai l k hk))⟩
   have Hgood := Lib.hid fun k hk => yaI hg k hk
   have Htake := Lib.hid (partF_take l)
   have Hend : Hid (yap (l.take n) = yap l) := Lib.hid (by rw [List.take_of_length_le (by omega)])
   have Hbound : Hid (∀ k, k ≤ n → yap (l.take k) ≤ 32768 * 257) := Lib.hid fun k hk => by
    have := partF_le (l.take k)
    rw [List.length_take] at this
    have h3 : min k l.length ≤ 257 := by omega
    have := Nat.mul_le_mul_left 32768 h3
    omega
   have En := Lib.hid en
   have Hf := Lib.hid hF
   clear hr hg hga en hF
   generalize yfZ (yau l) = FU at *
   generalize hUU : (yau l : Int) = UU at *
   clear hUU
   go_enter Tryz.func64, Tryz.ntmps64
   go_wp2_with (go_at_call 99; refine Hall.out.mono ?_; rintro e w1 ⟨rfl, hb1⟩; have Hb1 := Lib.hid hb1; clear hb1)
   go_loopw [3, 5, 14] (fun p x i wr => ∃ k P : Nat, k ≤ n ∧ P ≤ 32768 * 257 ∧ p = .int .i64 P ∧ i = .int .i64 k ∧ Hid (P = yap (l.take k)) ∧ Hid (Below w.heap.size w wr)) (fun _ _ i _ => n - (intOf i).toNat)
   case atStart => exact ⟨0, 0, by omega, by omega, rfl, rfl, rfl, Hb1⟩
   case round =>
    obtain ⟨k, P, hk, hP, rfl, rfl, Hk, Hw⟩ := hrel
    by_cases hlt : k < n
    ·have hki : (0 : Int) ≤ (k : Int) ∧ (k : Int) < n := by omega
     have hkl : k < l.length := by rw [En.out]; exact hlt
     obtain ⟨b, off, rfl, hc⟩ := Hcell.out (by omega)
     have hx := hc wr Hw.out k hkl
     have ht := Htake.out k hkl
     rw [← Hk.out] at ht
     have hbd := Hbound.out (k + 1) (by omega)
     obtain ⟨g1, g2⟩ := Hgood.out k hkl
     have Ht := Lib.hid ht
     have Hbd := Lib.hid hbd
     clear hc ht hbd
     generalize l[k] = x at *
     obtain ⟨m, rfl⟩ : ∃ m : Nat, x = m := ⟨x.toNat, by omega⟩
     by_cases hx0 : (0 : Int) < (m : Int)
     ·obtain ⟨S2, hS2⟩ : ∃ S2, yap (l.take (k + 1)) = S2 := ⟨_, rfl⟩
      have Ht2 := Ht.out
      rw [if_pos hx0, Int.toNat_natCast, hS2] at Ht2
      have Hbd2 := Hbd.out
      rw [hS2] at Hbd2
      have hsh := pshift m (by omega)
      generalize (2 ^ (15 - m) : Nat) = pw at *
      have HS2 : Hid (S2 = yap (l.take (k + 1))) := Lib.hid hS2.symm
      clear hS2 Ht Hbd
      have hz : (P : Int) + (pw : Int) = (S2 : Int) := by omega
      have hpw : (pw : Int) ≤ 8421376 := by omega
      clear Ht2
      go_wp2
      go_roundw
      case rel => exact ⟨k + 1, S2, by omega, by omega, iv (by omega), iv (by omega), HS2.out, Hw⟩
      case measure => simp only [intOf]; omega
     ·have Ht2 : Hid (P = yap (l.take (k + 1))) := Lib.hid (by rw [Ht.out, if_neg hx0]; rfl)
      go_wp2
      go_roundw
      case rel => exact ⟨k + 1, P, by omega, hP, rfl, iv (by omega), Ht2.out, Hw⟩
      case measure => simp only [intOf]; omega
    ·obtain rfl : k = n := by omega
     have hPe : (P : Int) = (yap l : Int) := by rw [← Hend.out, ← Hk.out]
     have hf := Hf.out
     rw [← hPe] at hf
     by_cases he : (P : Int) = FU
     ·rw [if_pos he] at hf
      subst hf
      have hb : ((P : Int) == FU) = true := by simpa using he
      have HE := Lib.hid he
      clear hPe he Hf
      go_wp2_with (first
       | (go_at_call 104; refine (Hused.out _ Hw.out).mono ?_; rintro e w2 ⟨rfl, rfl⟩)
       | (go_at_call 103; refine (Hfull.out _).mono ?_; rintro e w2 ⟨rfl, rfl⟩))
      go_ret
      exact ⟨rfl, Hw.out⟩
     ·rw [if_neg he] at hf
      subst hf
      have hb : ((P : Int) == FU) = false := by simpa using he
      have HE := Lib.hid he
      clear hPe he Hf
      go_wp2_with (first
       | (go_at_call 104; refine (Hused.out _ Hw.out).mono ?_; rintro e w2 ⟨rfl, rfl⟩)
       | (go_at_call 103; refine (Hfull.out _).mono ?_; rintro e w2 ⟨rfl, rfl⟩))
      go_ret
      exact ⟨rfl, Hw.out⟩
  ·have hg2 : ycE 15 l = false := by
    cases h : ycE 15 l with
    | false => rfl
    | true => exact absurd h hg
   rw [if_neg hg] at hF
   rw [hg2] at Hall
   subst hF
   clear hr hg hg2
   go_enter Tryz.func64, Tryz.ntmps64
   go_wp2_with (go_at_call 99; refine Hall.out.mono ?_; rintro e w1 ⟨rfl, hb1⟩; have Hb1 := Lib.hid hb1; clear hb1)
   go_ret
   exact ⟨rfl, Hb1.out⟩
end
theorem yfe : ∀ l : List Int, yau l ≤ yap l ∧ yap l ≤ 16384 * yau l
 | [] => by simp [yau, yap]
 | x :: t => by
  obtain ⟨h1, h2⟩ := yfe t
  have e : yau (x :: t) = (if 0 < x then 1 else 0) + yau t := by
   unfold yau
   rw [List.filter_cons]
   by_cases h : 0 < x
   ·rw [if_pos (by simpa using h), if_pos h, List.length_cons]; omega
   ·rw [if_neg (by simpa using h), if_neg h]; omega
  rw [e]
  show _ ≤ (if 0 < x then 2 ^ (15 - x.toNat) else 0) + yap t ∧ _
  by_cases h : 0 < x
  ·rw [if_pos h, if_pos h]
   have h3 : (2 : Nat) ^ (15 - x.toNat) ≤ 2 ^ 14 := Nat.pow_le_pow_right (by omega) (by omega)
   have h4 : 0 < (2 : Nat) ^ (15 - x.toNat) := Nat.pow_pos (by omega)
   constructor
   ·omega
   ·show (if 0 < x then 2 ^ (15 - x.toNat) else 0) + yap t ≤ _
    rw [if_pos h]
    omega
  ·rw [if_neg h, if_neg h]
   constructor
   ·omega
   ·show (if 0 < x then 2 ^ (15 - x.toNat) else 0) + yap t ≤ _
    rw [if_neg h]
    omega
theorem yf4 (l : List Int) : ycQ l = yaw l := by
 unfold ycQ yaw
 by_cases h : 257 < l.length
 ·rw [if_pos h, if_pos h]
 ·rw [if_neg h, if_neg h]
  obtain ⟨h1, h2⟩ := yfe l
  unfold sumF yfZ
  by_cases hg : ydv l = true
  ·rw [if_pos hg, if_pos hg]
   by_cases u0 : yau l = 0
   ·rw [if_pos u0, if_pos (by omega), if_pos (by omega)]
   ·rw [if_neg u0]
    by_cases u1 : yau l = 1
    ·rw [if_pos u1]
     by_cases hp : (yap l : Int) = 16384
     ·rw [if_pos hp, if_pos (by omega)]
     ·rw [if_neg hp, if_neg (by omega)]
    ·rw [if_neg u1]
     by_cases hp : (yap l : Int) = 32768
     ·rw [if_pos hp, if_pos (by omega)]
     ·rw [if_neg hp, if_neg (by omega)]
  ·rw [if_neg hg, if_neg hg, if_neg (by omega)]
theorem ydI (f : Nat → Int) : ∀ (counts l : List Int) (i : Nat), l.length = counts.length → (∀ j (hl : j < l.length), l[j] = f (i + j)) → (∀ j (hl : j < l.length) (hc : j < counts.length), 0 < l[j] ↔ 0 < counts[j]) →
  (yap l : Int) = isum (fun j c => if 0 < c then ((2 ^ (15 - (f j).toNat) : Nat) : Int) else 0) i counts
 | [], [], i, _, _, _ => rfl
 | [], y :: l, i, h, _, _ => by simp at h
 | c :: t, [], i, h, _, _ => by simp at h
 | c :: t, y :: l, i, h, hf, hp => by
  have ih := ydI f t l (i + 1) (by simpa using h) (fun j hl => by
   have := hf (j + 1) (by simpa using hl)
   rw [show i + (j + 1) = i + 1 + j from by omega] at this
   simpa using this) (fun j hl hc => hp (j + 1) (by simpa using hl) (by simpa using hc))
  have h0 := hf 0 (by simp)
  have p0 := hp 0 (by simp) (by simp)
  simp only [List.getElem_cons_zero, Nat.add_zero] at h0 p0
  show (((if 0 < y then 2 ^ (15 - y.toNat) else 0) + yap l : Nat) : Int) = (if 0 < c then ((2 ^ (15 - (f i).toNat) : Nat) : Int) else 0) + isum _ (i + 1) t
  rw [Int.natCast_add, ih, ← h0]
  by_cases hc : 0 < c
  ·rw [if_pos hc, if_pos (p0.2 hc)]
  ·rw [if_neg hc, if_neg (fun h => hc (p0.1 h))]
   rfl
theorem usedF_isum : ∀ (counts l : List Int) (i : Nat), l.length = counts.length → (∀ j (hl : j < l.length) (hc : j < counts.length), 0 < l[j] ↔ 0 < counts[j]) →
  (yau l : Int) = isum (fun _ c => if 0 < c then 1 else 0) i counts
 | [], [], i, _, _ => rfl
 | [], y :: l, i, h, _ => by simp at h
 | c :: t, [], i, h, _ => by simp at h
 | c :: t, y :: l, i, h, hp => by
  have ih := usedF_isum t l (i + 1) (by simpa using h) (fun j hl hc => hp (j + 1) (by simpa using hl) (by simpa using hc))
  have p0 := hp 0 (by simp) (by simp)
  simp only [List.getElem_cons_zero] at p0
  have e : yau (y :: l) = (if 0 < y then 1 else 0) + yau l := by
   unfold yau
   rw [List.filter_cons]
   by_cases h : 0 < y
   ·rw [if_pos (by simpa using h), if_pos h, List.length_cons]; omega
   ·rw [if_neg (by simpa using h), if_neg h]; omega
  show (yau (y :: l) : Int) = (if 0 < c then 1 else 0) + isum _ (i + 1) t
  rw [e, Int.natCast_add, ih]
  by_cases hc : 0 < c
  ·rw [if_pos hc, if_pos (p0.2 hc)]; rfl
  ·rw [if_neg hc, if_neg (fun h => hc (p0.1 h))]; rfl
theorem ydE (f : Nat → Int) (counts l : List Int) (hn : counts.length ≤ 257) (hl : l.length = counts.length) (hf : ∀ j (h : j < l.length), l[j] = f j) (hc : ∀ j (h : j < counts.length), 0 ≤ counts[j] ∧ counts[j] ≤ 1000000) (hb : ∀ j (h : j < l.length), 0 ≤ l[j] ∧ l[j] ≤ 15) :
  ygC counts l = isum (fun j c => c * f j) 0 counts := by
 unfold ygC
 rw [List.take_of_length_le (by omega), List.take_of_length_le (by omega)]
 have : ∀ (counts l : List Int) (i : Nat), l.length = counts.length → (∀ j (h : j < l.length), l[j] = f (i + j)) → (∀ j (h : j < counts.length), 0 ≤ counts[j] ∧ counts[j] ≤ 1000000) → (∀ j (h : j < l.length), 0 ≤ l[j] ∧ l[j] ≤ 15) → ccost counts l = isum (fun j c => c * f j) i counts := by
  intro counts
  induction counts with
  | nil => intro l i h _ _ _; cases l <;> rfl
  | cons c t ih =>
   intro l i h h1 h2 h3
   cases l with
   | nil => simp at h
   | cons y l =>
    have e := ih l (i + 1) (by simpa using h) (fun j hj => by
     have := h1 (j + 1) (by simpa using hj)
     rw [show i + (j + 1) = i + 1 + j from by omega] at this
     simpa using this) (fun j hj => h2 (j + 1) (by simpa using hj)) (fun j hj => h3 (j + 1) (by simpa using hj))
    have a1 := h1 0 (by simp)
    have a2 := h2 0 (by simp)
    have a3 := h3 0 (by simp)
    simp only [List.getElem_cons_zero, Nat.add_zero] at a1 a2 a3
    show cterm c y + ccost t l = c * f i + isum _ (i + 1) t
    rw [e, ← a1]
    unfold cterm
    rw [if_pos ⟨a2.1, a2.2, a3.1, a3.2⟩]
 exact this counts l 0 hl (fun j h => by rw [Nat.zero_add]; exact hf j h) hc hb
theorem isum_le {g h : Nat → Int → Int} : ∀ (l : List Int) (i : Nat), (∀ j (hj : j < l.length), g (i + j) l[j] ≤ h (i + j) l[j]) → isum g i l ≤ isum h i l
 | [], _, _ => Int.le_refl _
 | c :: t, i, e => by
  have h0 := e 0 (by simp)
  have ih : isum g (i + 1) t ≤ isum h (i + 1) t := isum_le t (i + 1) fun j hj => by
   have e2 := e (j + 1) (by simpa using hj)
   rw [show i + (j + 1) = i + 1 + j from by omega] at e2
   simpa using e2
  simp only [Nat.add_zero, List.getElem_cons_zero] at h0
  show g i c + isum g (i + 1) t ≤ h i c + isum h (i + 1) t
  omega
theorem ygh (a : Int) (g : Nat → Int → Int) : ∀ (l : List Int) (i : Nat), isum (fun j c => a * g j c) i l = a * isum g i l
 | [], _ => by simp [isum]
 | c :: t, i => by
  have ih := ygh a g t (i + 1)
  simp only [isum, ih, Int.mul_add]
theorem yeM (counts : List Int) (i : Nat) : isum (fun _ c => if 0 < c then 1 else 0) i counts = ((yaa counts).length : Int) := by
 have h := ybS counts (fun _ => 1)
 rw [ydL] at h
 have e : ∀ (l : List Int) (i j : Nat), isum (fun _ c => if 0 < c then (1 : Int) else 0) i l = isum (fun _ c => if 0 < c then 1 else 0) j l := by
  intro l
  induction l with
  | nil => intro i j; rfl
  | cons c t ih => intro i j; simp only [isum]; rw [ih (i + 1) (j + 1)]
 rw [e counts i 0]
 exact h.symm
theorem lpow_split (L : Nat) (hL : L ≤ 15) (x : Nat) (hx : x ≤ L) : (2 ^ (15 - x) : Nat) = 2 ^ (15 - L) * 2 ^ (L - x) := by
 rw [← Nat.pow_add]
 congr 1
 omega
theorem lpow_all (L : Nat) (hL : L ≤ 15) : (32768 : Nat) = 2 ^ (15 - L) * 2 ^ L := by
 rw [← Nat.pow_add, show 15 - L + L = 15 from by omega]
section
variable {counts : List Int} {L : Nat}
theorem yby (h : (yaa counts).length ≠ 1) (j : Nat) (hj : j < (yar counts L).length) : (yar counts L)[j] = llen counts L j := by
 have e : yar counts L = lout counts.length (fun s => llen counts L s) := by rw [yeu counts L h]; rfl
 have h2 : (yar counts L)[j]? = some (llen counts L j) := by
  rw [e, ye2 _ _ _ (by rw [yd1] at hj; exact hj)]
 rw [List.getElem?_eq_getElem hj] at h2
 injection h2
theorem ybx (h : (yaa counts).length = 1) (j : Nat) (hj : j < (yar counts L).length) : (yar counts L)[j] = if 0 < counts[j]'(by rw [yd1] at hj; exact hj) then 1 else 0 := by
 have e : yar counts L = counts.map (fun c => if 0 < c then 1 else 0) := by unfold yar; rw [if_pos h]
 simp only [e, List.getElem_map]
structure LGoodB (counts l : List Int) (L : Nat) : Prop where
 len : l.length = counts.length
 pos : ∀ j (hl : j < l.length) (hc : j < counts.length), 0 < l[j] ↔ 0 < counts[j]
 rng : ∀ j (hl : j < l.length), 0 ≤ l[j] ∧ l[j] ≤ L
 falls : ∀ i j (hi : i < l.length) (hj : j < l.length) (hi' : i < counts.length) (hj' : j < counts.length), counts[j] < counts[i] → 0 < counts[j] → l[i] ≤ l[j]
theorem ydY (hL : 1 ≤ L ∧ L ≤ 15) (hg : ye4 counts = true) (hm : (yaa counts).length ≤ 2 ^ L) : LGoodB counts (yar counts L) L := by
 have hlen := yd1 counts L
 obtain ⟨k, rfl⟩ : ∃ k, L = k + 1 := ⟨L - 1, by omega⟩
 by_cases h1 : (yaa counts).length = 1
 ·refine ⟨hlen, fun j hl hc => ?_, fun j hl => ?_, fun i j hi hj hi' hj' hlt h0 => ?_⟩
  ·rw [ybx h1 j hl]
   by_cases h : 0 < counts[j]
   ·rw [if_pos h]; simp [h]
   ·rw [if_neg h]; simp [h]
  ·rw [ybx h1 j hl]
   split <;> omega
  ·rw [ybx h1 i hi, ybx h1 j hj, if_pos (show 0 < counts[i] by omega), if_pos h0]
   exact Int.le_refl _
 ·by_cases h2 : 2 ≤ (yaa counts).length
  ·refine ⟨hlen, fun j hl hc => ?_, fun j hl => ?_, fun i j hi hj hi' hj' hlt h0 => ?_⟩
   ·rw [yby h1 j hl]
    constructor
    ·intro h
     rcases Int.lt_or_le 0 counts[j] with e | e
     ·exact e
     ·have := ygR (counts := counts) (k + 1) j fun _ => e
      omega
    ·intro h
     have := (ygN h2 hm j hc h).1
     omega
   ·rw [yby h1 j hl]
    have hc : j < counts.length := by omega
    rcases Int.lt_or_le 0 counts[j] with e | e
    ·have := ygN h2 hm j hc e
     omega
    ·have := ygR (counts := counts) (k + 1) j fun _ => e
     omega
   ·rw [yby h1 i hi, yby h1 j hj]
    exact llen_falls h2 hm i j hi' hj' hlt h0
  ·have hno : ∀ j (hj : j < counts.length), ¬ 0 < counts[j] := fun j hj hp => by
    have := (yan counts ⟨counts[j], [j], true⟩).2 ⟨j, hj, hp, rfl⟩
    have := List.length_pos_of_mem this
    omega
   have hz : ∀ j (hj : j < (yar counts (k + 1)).length), (yar counts (k + 1))[j] = 0 := fun j hj => by
    rw [yby h1 j hj]
    exact ygR (counts := counts) (k + 1) j fun hs => by have := hno j hs; omega
   refine ⟨hlen, fun j hl hc => ?_, fun j hl => ?_, fun i j hi hj hi' hj' hlt h0 => absurd h0 (hno j hj')⟩
   ·rw [hz j hl]
    have := hno j hc
    omega
   ·rw [hz j hl]; omega
theorem lbestL_check (hL : 1 ≤ L ∧ L ≤ 15) (hg : ye4 counts = true) (hm : (yaa counts).length ≤ 2 ^ L) (hn : counts.length ≤ 257) : ycQ (yar counts L) = 0 := by
 have hG := ydY hL hg hm
 have hused := usedF_isum counts (yar counts L) 0 hG.len hG.pos
 rw [yeM] at hused
 have hu2 := yfe (yar counts L)
 have hlg : ydv (yar counts L) = true := lgood_of fun i hi => by have := hG.rng i hi; omega
 unfold ycQ
 rw [if_neg (by rw [hG.len]; omega), if_pos hlg]
 obtain ⟨k, rfl⟩ : ∃ k, L = k + 1 := ⟨L - 1, by omega⟩
 by_cases h1 : (yaa counts).length = 1
 ·have hp := ydI (fun j => (yar counts (k + 1))[j]?.getD 0) counts (yar counts (k + 1)) 0 hG.len (fun j hl => by rw [Nat.zero_add, List.getElem?_eq_getElem hl]; rfl) hG.pos
  rw [yaS (h := fun j c => 16384 * (if 0 < c then 1 else 0)) counts 0 fun j hj => ?_, ygh, yeM, h1] at hp
  ·have hfu : yfZ (yau (yar counts (k + 1))) = 16384 := by
    unfold yfZ
    rw [if_neg (by omega), if_pos (by omega)]
   rw [hfu, if_pos (by omega)]
  ·have hj2 : j < (yar counts (k + 1)).length := by rw [hG.len]; exact hj
   rw [Nat.zero_add]
   by_cases h0 : 0 < counts[j]
   ·rw [if_pos h0, if_pos h0, List.getElem?_eq_getElem hj2, ybx h1 j hj2, if_pos h0]
    decide
   ·rw [if_neg h0, if_neg h0]; decide
 ·by_cases h2 : 2 ≤ (yaa counts).length
  ·have hp := ydI (fun j => llen counts (k + 1) j) counts (yar counts (k + 1)) 0 hG.len (fun j hl => by rw [Nat.zero_add]; exact yby h1 j hl) hG.pos
   rw [yaS (h := fun j c => ((2 ^ (15 - (k + 1)) : Nat) : Int) * (if 0 < c then ((2 ^ (k + 1 - (llen counts (k + 1) j).toNat) : Nat) : Int) else 0)) counts 0 fun j hj => ?_, ygh, llen_full h2 hm] at hp
   ·have h3 := lpow_all (k + 1) hL.2
    have h4 : (yap (yar counts (k + 1)) : Int) = 32768 := by rw [hp, ← Int.natCast_mul, ← h3]; rfl
    have hfu : yfZ (yau (yar counts (k + 1))) = 32768 := by
     unfold yfZ
     rw [if_neg (by omega), if_neg (by omega)]
    rw [hfu, if_pos h4]
   ·rw [Nat.zero_add]
    by_cases h0 : 0 < counts[j]
    ·rw [if_pos h0, if_pos h0]
     have := ygN h2 hm j hj h0
     rw [lpow_split (k + 1) hL.2 (llen counts (k + 1) j).toNat (by omega), Int.natCast_mul]
    ·rw [if_neg h0, if_neg h0, Int.mul_zero]
  ·have hfu : yfZ (yau (yar counts (k + 1))) = 0 := by
    unfold yfZ
    rw [if_pos (by omega)]
   rw [hfu, if_pos (by omega)]
theorem lbestL_least (hL : 1 ≤ L ∧ L ≤ 15) (hg : ye4 counts = true) (hm : (yaa counts).length ≤ 2 ^ L) (hn : counts.length ≤ 257) (own : List Int) (hl : own.length = counts.length)
  (hr : ∀ j (h : j < own.length), 0 ≤ own[j] ∧ own[j] ≤ L) (hp : ∀ j (h : j < own.length) (hc : j < counts.length), 0 < own[j] ↔ 0 < counts[j]) (hs : (yap own : Int) ≤ 32768) : ygC counts (yar counts L) ≤ ygC counts own := by
 have hG := ydY hL hg hm
 have hc := fun j hj => yds hg j hj
 obtain ⟨f, hf⟩ : ∃ f : Nat → Int, f = fun j => own[j]?.getD 0 := ⟨_, rfl⟩
 have hfo : ∀ j (h : j < own.length), own[j] = f j := fun j h => by rw [hf]; simp only [List.getElem?_eq_getElem h]; rfl
 have co := ydE f counts own hn hl hfo hc (fun j h => by have := hr j h; omega)
 rw [co]
 obtain ⟨k, rfl⟩ : ∃ k, L = k + 1 := ⟨L - 1, by omega⟩
 by_cases h1 : (yaa counts).length = 1
 ·have cb := ydE (fun j => (yar counts (k + 1))[j]?.getD 0) counts (yar counts (k + 1)) hn hG.len (fun j h => by simp only [List.getElem?_eq_getElem h]; rfl) hc (fun j h => by have := hG.rng j h; omega)
  rw [cb]
  refine isum_le counts 0 fun j hj => ?_
  have hj2 : j < (yar counts (k + 1)).length := by rw [hG.len]; exact hj
  have hj3 : j < own.length := by omega
  rw [Nat.zero_add, List.getElem?_eq_getElem hj2, ybx h1 j hj2, ← hfo j hj3]
  have h0 := (hc j hj).1
  by_cases h : 0 < counts[j]
  ·rw [if_pos h]
   have := (hp j hj3 hj).2 h
   exact Int.mul_le_mul_of_nonneg_left (by show (1 : Int) ≤ own[j]; omega) h0
  ·rw [if_neg h, show counts[j] = 0 from by omega]
   simp
 ·have cb := ydE (fun j => llen counts (k + 1) j) counts (yar counts (k + 1)) hn hG.len (fun j h => yby h1 j h) hc (fun j h => by have := hG.rng j h; omega)
  rw [cb]
  by_cases h2 : 2 ≤ (yaa counts).length
  ·refine llen_least h2 (fun j hj => (hc j hj).1) f (fun j hj h0 => ?_) ?_
   ·rw [← hfo j (by omega)]
    exact hr j (by omega)
   ·have hpo := ydI f counts own 0 hl (fun j h => by rw [Nat.zero_add]; exact hfo j h) hp
    rw [yaS (h := fun j c => ((2 ^ (15 - (k + 1)) : Nat) : Int) * (if 0 < c then ((2 ^ (k + 1 - (f j).toNat) : Nat) : Int) else 0)) counts 0 fun j hj => ?_, ygh] at hpo
    ·have h3 := lpow_all (k + 1) hL.2
     have h4 : 0 < (2 ^ (15 - (k + 1)) : Nat) := Nat.pow_pos (by omega)
     have h5 : ((2 ^ (15 - (k + 1)) : Nat) : Int) * isum (fun j c => if 0 < c then ((2 ^ (k + 1 - (f j).toNat) : Nat) : Int) else 0) 0 counts ≤ ((2 ^ (15 - (k + 1)) : Nat) : Int) * ((2 ^ (k + 1) : Nat) : Int) := by
      rw [← hpo, ← Int.natCast_mul, ← h3]
      exact hs
     exact Int.le_of_mul_le_mul_left h5 (by omega)
    ·rw [Nat.zero_add]
     by_cases h0 : 0 < counts[j]
     ·rw [if_pos h0, if_pos h0]
      have := hr j (by omega)
      rw [hfo j (by omega)] at this
      rw [lpow_split (k + 1) hL.2 (f j).toNat (by omega), Int.natCast_mul]
     ·rw [if_neg h0, if_neg h0, Int.mul_zero]
  ·refine isum_le counts 0 fun j hj => ?_
   have hno : ¬ 0 < counts[j] := fun hp2 => by
    have := (yan counts ⟨counts[j], [j], true⟩).2 ⟨j, hj, hp2, rfl⟩
    have := List.length_pos_of_mem this
    omega
   rw [show counts[j] = 0 from by have := (hc j hj).1; omega]
   simp
end
variable {ls : List Nat}
theorem wat_at (h15 : ∀ x ∈ ls, x ≤ 15) (j : Nat) (hj : j < ls.length) (hj2 : j < (wat ls 16 0).length) : (wat ls 16 0)[j] = if 0 < ls[j] then (((ybr ls ls[j] j : Nat) : Int), ((ls[j] : Nat) : Int)) else (0, 0) := by
 have h := wat_get ls 16 0 j hj
 rw [List.getElem?_eq_getElem hj2] at h
 injection h with h
 rw [h]
 have hgd : ls.getD j 0 = ls[j] := by rw [List.getD_eq_getElem?_getD, List.getElem?_eq_getElem hj]; rfl
 have h2 := h15 _ (List.getElem_mem hj)
 unfold cat1
 rw [hgd]
 by_cases hp : 0 < ls[j]
 ·rw [if_pos hp, if_pos ⟨hp, Or.inl (by omega)⟩]
 ·rw [if_neg hp, if_neg (by omega)]
theorem ycL (h15 : ∀ x ∈ ls, x ≤ 15) (j : Nat) (hj : j < ls.length) (hj2 : j < (wat ls 16 0).length) (hp : 0 < ls[j]) : digI (wat ls 16 0)[j].1 (wat ls 16 0)[j].2 = dig ls[j] (ybr ls ls[j] j) ∧ (wat ls 16 0)[j].2 ≠ 0 := by
 rw [wat_at h15 j hj hj2, if_pos hp]
 refine ⟨?_, by show ((ls[j] : Nat) : Int) ≠ 0; omega⟩
 unfold digI
 rw [Int.toNat_natCast, Int.toNat_natCast]
theorem yd9 (h15 : ∀ x ∈ ls, x ≤ 15) (j : Nat) (hj : j < ls.length) (hj2 : j < (wat ls 16 0).length) (hp : ¬ 0 < ls[j]) : (wat ls 16 0)[j].2 = 0 := by
 rw [wat_at h15 j hj hj2, if_neg hp]
theorem yc8 (h15 : ∀ x ∈ ls, x ≤ 15) (hc : call ls ≤ 32768) {R : List Nat} (hb : Bin R) (j : Nat) (hj : j < ls.length) (hp : 0 < ls[j]) : (begF R (dig ls[j] (ybr ls ls[j] j))).2 = true ↔ ls[j] ≤ R.length ∧ cpos ls ls[j] j ≤ v15 R ∧ v15 R < cpos ls ls[j] j + 2 ^ (15 - ls[j]) := by
 have h2 := h15 _ (List.getElem_mem hj)
 rw [begF_word hb _ _ h2 (cword_lt ls[j] j hj rfl ⟨hp, h2⟩ hc), ycA _ _ h2]
theorem cget_found (h15 : ∀ x ∈ ls, x ≤ 15) (hc : call ls ≤ 32768) {R : List Nat} (hb : Bin R) (E : Int) (k : Nat) (hk : k < ls.length) (hp : 0 < ls[k]) (hl : ls[k] ≤ R.length) (hv : cpos ls ls[k] k ≤ v15 R ∧ v15 R < cpos ls ls[k] k + 2 ^ (15 - ls[k])) : ybs (wat ls 16 0) 0 R E = ((k : Int), (ls[k] : Int), 0) := by
 have hkw : k < (wat ls 16 0).length := by rw [yaF]; exact hk
 have hd := ycL h15 k hk hkw hp
 rw [cget1_hit R E (wat ls 16 0) 0 k E hkw ?_ hd.2 ?_, hd.1, yad, Nat.zero_add]
 ·intro j hj hjk
  have hj2 : j < ls.length := by rw [yaF] at hj; exact hj
  by_cases hpj : 0 < ls[j]
  ·right
   rw [(ycL h15 j hj2 hj hpj).1]
   cases hbb : (begF R (dig ls[j] (ybr ls ls[j] j))).2 with
   | false => rfl
   | true =>
    have := (yc8 h15 hc hb j hj2 hpj).1 hbb
    have := cpos_only (v15 R) j k hj2 hk hpj hp this.2 hv
    omega
  ·exact Or.inl (yd9 h15 j hj2 hj hpj)
 ·rw [hd.1]
  exact (yc8 h15 hc hb k hk hp).2 ⟨hl, hv⟩
theorem cget_cut (h15 : ∀ x ∈ ls, x ≤ 15) (hc : call ls ≤ 32768) {R : List Nat} (hb : Bin R) (E : Int) (k : Nat) (hk : k < ls.length) (hp : 0 < ls[k]) (hl : R.length < ls[k]) (hv : cpos ls ls[k] k ≤ v15 R ∧ v15 R < cpos ls ls[k] k + 2 ^ (15 - ls[k])) : ybs (wat ls 16 0) 0 R E = (0, 0, 4) := by
 have hkw : k < (wat ls 16 0).length := by rw [yaF]; exact hk
 have hd := ycL h15 k hk hkw hp
 have h2 := h15 _ (List.getElem_mem hk)
 refine yel R (wat ls 16 0) 0 E ?_ (Or.inr ⟨k, hkw, hd.2, ?_⟩)
 ·intro j hj
  have hj2 : j < ls.length := by rw [yaF] at hj; exact hj
  by_cases hpj : 0 < ls[j]
  ·right
   rw [(ycL h15 j hj2 hj hpj).1]
   cases hbb : (begF R (dig ls[j] (ybr ls ls[j] j))).2 with
   | false => rfl
   | true =>
    have h3 := (yc8 h15 hc hb j hj2 hpj).1 hbb
    have h4 := cpos_only (v15 R) j k hj2 hk hpj hp h3.2 hv
    subst h4
    omega
  ·exact Or.inl (yd9 h15 j hj2 hj hpj)
 ·rw [hd.1]
  refine begF_part hb _ _ h2 hl ?_
  rw [ycA _ _ h2]
  exact hv
theorem ygE (h15 : ∀ x ∈ ls, x ≤ 15) (hc : call ls ≤ 32768) {R : List Nat} (hb : Bin R) (E : Int) (k : Nat) (hk : k < ls.length) (hp : 0 < ls[k]) (T : List Nat) (hR : R = dig ls[k] (ybr ls ls[k] k) ++ T) : ybs (wat ls 16 0) 0 R E = ((k : Int), (ls[k] : Int), 0) := by
 have h : (begF R (dig ls[k] (ybr ls ls[k] k))).2 = true := (yeQ _ _).2 ⟨by rw [hR, List.length_append]; omega, by rw [hR, List.take_append_of_le_length (Nat.le_refl _), List.take_of_length_le (Nat.le_refl _)]⟩
 have h1 := (yc8 h15 hc hb k hk hp).1 h
 exact cget_found h15 hc hb E k hk hp h1.1 h1.2
def ybu (ws : List (Int × Int)) (sy : List Int) : List Nat := sy.flatMap fun s => (yaD ws s).1
theorem yc5 (ws : List (Int × Int)) (s : Int) (t : List Int) : ybu ws (s :: t) = (yaD ws s).1 ++ ybu ws t := rfl
theorem cword_has (h15 : ∀ x ∈ ls, x ≤ 15) (s : Int) (h : (yaD (wat ls 16 0) s).2 = 0) : ∃ k, ∃ hk : k < ls.length, s = (k : Int) ∧ 0 < ls[k] ∧ (yaD (wat ls 16 0) s).1 = dig ls[k] (ybr ls ls[k] k) := by
 unfold yaD at h ⊢
 by_cases h0 : 0 ≤ s ∧ s < (wat ls 16 0).length ∧ ((wat ls 16 0).getD s.toNat (0, 0)).2 ≠ 0
 ·obtain ⟨k, rfl⟩ := Int.eq_ofNat_of_zero_le h0.1
  have hkw : k < (wat ls 16 0).length := by omega
  have hk : k < ls.length := by rw [yaF] at hkw; exact hkw
  rw [if_pos h0]
  rw [Int.toNat_natCast] at h0 ⊢
  have hgd : (wat ls 16 0).getD k (0, 0) = (wat ls 16 0)[k] := by rw [List.getD_eq_getElem?_getD, List.getElem?_eq_getElem hkw]; rfl
  rw [hgd] at h0 ⊢
  by_cases hp : 0 < ls[k]
  ·exact ⟨k, hk, rfl, hp, (ycL h15 k hk hkw hp).1⟩
  ·exact absurd (yd9 h15 k hk hkw hp) h0.2.2
 ·rw [if_neg h0] at h
  exact absurd h (by decide)
theorem cword_is (h15 : ∀ x ∈ ls, x ≤ 15) (k : Nat) (hk : k < ls.length) (hp : 0 < ls[k]) : yaD (wat ls 16 0) (k : Int) = (dig ls[k] (ybr ls ls[k] k), 0) := by
 have hkw : k < (wat ls 16 0).length := by rw [yaF]; exact hk
 have hd := ycL h15 k hk hkw hp
 rw [cword_at _ k hkw, if_pos hd.2, hd.1]
theorem cunp_back (h15 : ∀ x ∈ ls, x ≤ 15) (hc : call ls ≤ 32768) {L : List Nat} (hb : Bin L) : ∀ (sy : List Int) (p : Nat) (acc : List Int) (T : List Nat), (∀ s ∈ sy, (yaD (wat ls 16 0) s).2 = 0) → L.drop p = ybu (wat ls 16 0) sy ++ T → cunp (wat ls 16 0) L sy.length p acc = (acc ++ sy, p + (ybu (wat ls 16 0) sy).length, 0)
 | [], p, acc, T, _, _ => by simp [cunp, ybu]
 | s :: t, p, acc, T, h, hL => by
  obtain ⟨k, hk, rfl, hp, hw⟩ := cword_has h15 s (h s (List.mem_cons_self ..))
  rw [yc5, hw, List.append_assoc] at hL
  have hg : ybo (wat ls 16 0) L p = ((k : Int), (ls[k] : Int), 0) := ygE h15 hc (fun d hd => hb d (List.mem_of_mem_drop hd)) _ k hk hp _ hL
  have hL2 : L.drop (p + ls[k]) = ybu (wat ls 16 0) t ++ T := by
   rw [← List.drop_drop, hL, List.drop_append_of_le_length (by rw [yad]; exact Nat.le_refl _), List.drop_of_length_le (by rw [yad]; exact Nat.le_refl _), List.nil_append]
  rw [List.length_cons, ydp, hg, if_pos rfl]
  show cunp _ L t.length (p + ((ls[k] : Nat) : Int).toNat) (acc ++ [(k : Int)]) = _
  rw [Int.toNat_natCast, cunp_back h15 hc hb t (p + ls[k]) _ T (fun u hu => h u (List.mem_cons_of_mem _ hu)) hL2, yc5, hw, List.length_append, yad, List.append_assoc, Nat.add_assoc]
  rfl
end Go.Proofs.YtoinjdmlembgeaaGreat
namespace Go.Proofs.YtoinjdmlembgeaaGreat
set_option linter.unusedSimpArgs false
set_option linter.unusedVariables false
open Go.ChangeShapes Go.WideShapes Go.ChangeAt Go.RowKit Go.Joins Go.Deep
theorem cnat15 {l : List Int} (hg : ydv l = true) : ∀ x ∈ l.map Int.toNat, x ≤ 15 := by
 intro x hx
 obtain ⟨i, hi, rfl⟩ := List.getElem_of_mem hx
 rw [List.getElem_map]
 have := yaI hg i (by simpa using hi)
 omega
theorem yfh : ∀ l : List Int, yau l ≤ yap l
 | [] => Nat.le_refl _
 | x :: t => by
  have ih := yfh t
  have hu : yau (x :: t) = (if 0 < x then 1 else 0) + yau t := by
   unfold yau
   by_cases h : 0 < x
   ·rw [List.filter_cons, if_pos (by simpa using h), if_pos h, List.length_cons]; omega
   ·rw [List.filter_cons, if_neg (by simpa using h), if_neg h]; omega
  show yau (x :: t) ≤ (if 0 < x then 2 ^ (15 - x.toNat) else 0) + yap t
  rw [hu]
  have : 0 < (2 : Nat) ^ (15 - x.toNat) := Nat.pow_pos (by omega)
  by_cases h : 0 < x
  ·rw [if_pos h, if_pos h]; omega
  ·rw [if_neg h, if_neg h]; omega
def yef (l : List Int) : List Int → Int
 | [] => 0
 | s :: t => l.getD s.toNat 0 + yef l t
theorem cbits_size {l : List Int} (hg : ydv l = true) : ∀ sy : List Int, (∀ s ∈ sy, (yaD (wat (l.map Int.toNat) 16 0) s).2 = 0) → ((ybu (wat (l.map Int.toNat) 16 0) sy).length : Int) = yef l sy ∧ ∀ s ∈ sy, 0 ≤ s ∧ s < l.length
 | [], _ => ⟨rfl, fun s hs => by cases hs⟩
 | s :: t, h => by
  obtain ⟨k, hk, rfl, hp, hw⟩ := cword_has (cnat15 hg) s (h s (List.mem_cons_self ..))
  obtain ⟨h1, h2⟩ := cbits_size hg t fun u hu => h u (List.mem_cons_of_mem _ hu)
  have hkl : k < l.length := by simpa using hk
  have hgk := yaI hg k hkl
  constructor
  ·rw [yc5, hw, List.length_append, yad]
   show _ = l.getD ((k : Int)).toNat 0 + yef l t
   rw [Int.toNat_natCast, ← h1, List.getD_eq_getElem?_getD, List.getElem?_eq_getElem hkl, List.getElem_map]
   simp only [Option.getD_some]
   omega
  ·intro u hu
   rcases List.mem_cons.1 hu with rfl | hu
   ·omega
   ·exact h2 u hu
theorem cbits_bin {ws : List (Int × Int)} (hf : ∀ f ∈ ws, fits f.1 f.2) : ∀ sy : List Int, Bin (ybu ws sy)
 | [] => yfr
 | s :: t => by
  rw [yc5]
  exact (yet hf s).2.app (cbits_bin hf t)
theorem yho {l : List Int} (h : yaw l = 0) : ycb l = (wat (l.map Int.toNat) 16 0, 0) := by unfold ycb; rw [if_pos h]
def trb (x : Int) (c : Nat) : List Nat := digI x 4 ++ gam c
def tbP (x : Int) (c : Nat) : List Int → List Nat
 | [] => trb x c
 | y :: t => if y = x then tbP x (c + 1) t else trb x c ++ tbP y 1 t
def yav : List Int → List Nat
 | [] => []
 | x :: t => tbP x 1 t
theorem tbP_run (x : Int) (t : List Int) : ∀ (d c : Nat), tbP x c (List.replicate d x ++ t) = tbP x (c + d) t
 | 0, c => rfl
 | d + 1, c => by
  rw [List.replicate_succ, List.cons_append]
  show (if x = x then tbP x (c + 1) (List.replicate d x ++ t) else _) = _
  rw [if_pos rfl, tbP_run x t d (c + 1), show c + 1 + d = c + (d + 1) from by omega]
theorem tbP_stop (x : Int) (c : Nat) : ∀ t : List Int, t.head? ≠ some x → tbP x c t = trb x c ++ yav t
 | [], _ => by simp [tbP, yav]
 | y :: t, h => by
  show (if y = x then tbP x (c + 1) t else trb x c ++ tbP y 1 t) = _
  rw [if_neg (fun e => h (by rw [e]; rfl))]
  rfl
theorem yh8 (x : Int) (d : Nat) (t : List Int) (hd : 0 < d) (h : t.head? ≠ some x) : yav (List.replicate d x ++ t) = trb x d ++ yav t := by
 obtain ⟨k, rfl⟩ : ∃ k, d = k + 1 := ⟨d - 1, by omega⟩
 rw [List.replicate_succ, List.cons_append]
 show tbP x 1 (List.replicate k x ++ t) = _
 rw [tbP_run, tbP_stop x (1 + k) t h, Nat.add_comm]
theorem yg4 (l : List Int) (x : Int) (i : Nat) : ∀ d, i + d ≤ l.length → (∀ j (hj : j < l.length), i ≤ j → j < i + d → l[j] = x) → l.drop i = List.replicate d x ++ l.drop (i + d)
 | 0, _, _ => rfl
 | d + 1, hk, h => by
  have ih := yg4 l x i d (by omega) fun j hj h1 h2 => h j hj h1 (by omega)
  rw [ih, List.drop_eq_getElem_cons (by omega : i + d < l.length), h (i + d) (by omega) (by omega) (by omega), List.replicate_succ', List.append_assoc]
  rfl
theorem tbits_at (l : List Int) (x : Int) (i k : Nat) (hi : i < k) (hk : k ≤ l.length) (h : ∀ j (hj : j < l.length), i ≤ j → j < k → l[j] = x) (hs : ∀ hj : k < l.length, l[k] ≠ x) : yav (l.drop i) = trb x (k - i) ++ yav (l.drop k) := by
 obtain ⟨d, rfl⟩ : ∃ d, k = i + d := ⟨k - i, by omega⟩
 rw [yg4 l x i d hk h, yh8 x d _ (by omega), Nat.add_sub_cancel_left]
 intro e
 rcases Nat.lt_or_ge (i + d) l.length with e2 | e2
 ·rw [List.drop_eq_getElem_cons e2, List.head?_cons] at e
  injection e with e
  exact hs e2 e
 ·rw [List.drop_of_length_le e2] at e
  cases e
theorem trun_end (l : List Int) : ∀ (f i : Nat) (hi : i < l.length), l.length - i ≤ f → ∃ k, i < k ∧ k ≤ l.length ∧ (∀ j (hj : j < l.length), i ≤ j → j < k → l[j] = l[i]) ∧ ∀ hj : k < l.length, l[k] ≠ l[i]
 | 0, i, hi, hf => by omega
 | f + 1, i, hi, hf => by
  by_cases h : ∃ h2 : i + 1 < l.length, l[i + 1] = l[i]
  ·obtain ⟨h2, e⟩ := h
   obtain ⟨k, h3, h4, h5, h6⟩ := trun_end l f (i + 1) h2 (by omega)
   refine ⟨k, by omega, h4, fun j hj a b => ?_, fun hj => by rw [← e]; exact h6 hj⟩
   by_cases ej : j = i
   ·subst ej; rfl
   ·rw [h5 j hj (by omega) b, e]
  ·refine ⟨i + 1, by omega, by omega, fun j hj a b => ?_, fun hj e => h ⟨hj, e⟩⟩
   have : j = i := by omega
   subst this
   rfl
theorem gam_len (n : Nat) (h0 : n ≠ 0) (h : n < 4294967296) : (gam n).length ≤ 63 := by
 have h1 := (yhx n [] h0 h).2
 have h2 := bl_le h0 h
 omega
theorem trb_bin (x : Int) (c : Nat) : Bin (trb x c) := (ycF _ _).app (gam_bin c)
theorem trb_len (x : Int) (c : Nat) (h0 : c ≠ 0) (h : c < 4294967296) : (trb x c).length ≤ 67 := by
 unfold trb digI
 rw [List.length_append, yad]
 have := gam_len c h0 h
 show 4 + _ ≤ 67
 omega
theorem tbP_bin : ∀ (t : List Int) (x : Int) (c : Nat), Bin (tbP x c t)
 | [], x, c => trb_bin x c
 | y :: t, x, c => by
  show Bin (if y = x then tbP x (c + 1) t else trb x c ++ tbP y 1 t)
  by_cases e : y = x
  ·rw [if_pos e]; exact tbP_bin t x (c + 1)
  ·rw [if_neg e]; exact (trb_bin x c).app (tbP_bin t y 1)
theorem tbits_bin : ∀ l, Bin (yav l)
 | [] => yfr
 | x :: t => tbP_bin t x 1
theorem tbP_len : ∀ (t : List Int) (x : Int) (c : Nat), 0 < c → c + t.length < 4294967296 → (tbP x c t).length ≤ 67 * (1 + t.length)
 | [], x, c, h0, h => by
  have := trb_len x c (by omega) (by simpa using h)
  show (trb x c).length ≤ 67 * (1 + 0)
  omega
 | y :: t, x, c, h0, h => by
  rw [List.length_cons] at h
  show (if y = x then tbP x (c + 1) t else trb x c ++ tbP y 1 t).length ≤ 67 * (1 + (t.length + 1))
  by_cases e : y = x
  ·rw [if_pos e]
   have := tbP_len t x (c + 1) (by omega) (by omega)
   omega
  ·rw [if_neg e, List.length_append]
   have h1 := trb_len x c (by omega) (by omega)
   have h2 := tbP_len t y 1 (by omega) (by omega)
   omega
theorem tbits_len (l : List Int) (h : l.length < 4294967290) : (yav l).length ≤ 67 * l.length := by
 cases l with
 | nil => exact Nat.zero_le _
 | cons x t =>
  rw [List.length_cons] at h ⊢
  have := tbP_len t x 1 (by omega) (by omega)
  rw [Nat.add_comm t.length 1]
  exact this
def ycy (L : List Nat) (n : Nat) : Nat → Nat → Int → List Int → List Int × Nat × Int
 | 0, to, _, out => (out, to, 0)
 | f + 1, to, last, out =>
  if n ≤ out.length then (out, to, 0)
  else if (ybv L to 4).2 ≠ 0 then ([], to, (ybv L to 4).2)
  else if (ybt (L.drop (to + 4))).2.2 ≠ 0 then ([], to, (ybt (L.drop (to + 4))).2.2)
  else if (ybv L to 4).1 = last then ([], to, 5)
  else if (n : Int) - out.length < (ybt (L.drop (to + 4))).1 then ([], to, 40)
  else ycy L n f (to + 4 + (ybt (L.drop (to + 4))).2.1) (ybv L to 4).1 (out ++ List.replicate (ybt (L.drop (to + 4))).1.toNat (ybv L to 4).1)
def ybF (L : List Nat) (p : Nat) (n : Int) : List Int × Nat × Int :=
 if n < 0 ∨ 257 < n then ([], p, 2)
 else if (ycy L n.toNat (n.toNat + 1) p (-1) []).2.2 ≠ 0 then ([], p, (ycy L n.toNat (n.toNat + 1) p (-1) []).2.2)
 else if yaw (ycy L n.toNat (n.toNat + 1) p (-1) []).1 ≠ 0 then ([], p, yaw (ycy L n.toNat (n.toNat + 1) p (-1) []).1)
 else ((ycy L n.toNat (n.toNat + 1) p (-1) []).1, (ycy L n.toNat (n.toNat + 1) p (-1) []).2.1, 0)
theorem yc3 (L : List Nat) (n f to : Nat) (last : Int) (out : List Int) : ycy L n (f + 1) to last out =
  if n ≤ out.length then (out, to, 0)
  else if (ybv L to 4).2 ≠ 0 then ([], to, (ybv L to 4).2)
  else if (ybt (L.drop (to + 4))).2.2 ≠ 0 then ([], to, (ybt (L.drop (to + 4))).2.2)
  else if (ybv L to 4).1 = last then ([], to, 5)
  else if (n : Int) - out.length < (ybt (L.drop (to + 4))).1 then ([], to, 40)
  else ycy L n f (to + 4 + (ybt (L.drop (to + 4))).2.1) (ybv L to 4).1 (out ++ List.replicate (ybt (L.drop (to + 4))).1.toNat (ybv L to 4).1) := rfl
theorem lz_take : ∀ R : List Nat, R.take (lz R) = List.replicate (lz R) 0
 | [] => rfl
 | d :: t => by
  have ih := lz_take t
  by_cases h : d = 0
  ·subst h
   show (0 :: t).take (lz t + 1) = List.replicate (lz t + 1) 0
   rw [List.take_succ_cons, List.replicate_succ, ih]
  ·have e : lz (d :: t) = 0 := by show (if d = 0 then lz t + 1 else 0) = 0; rw [if_neg h]
   rw [e]
   rfl
theorem lz_next : ∀ (R : List Nat) (z : Nat), lz R = z → ∀ h : z < R.length, R[z] ≠ 0
 | [], z, _, h => absurd h (by simp)
 | d :: t, z, e, h => by
  by_cases hd : d = 0
  ·subst hd
   have e2 : lz t + 1 = z := e
   subst e2
   have := lz_next t (lz t) rfl (by simpa using h)
   simpa using this
  ·have e2 : lz (d :: t) = 0 := by show (if d = 0 then lz t + 1 else 0) = 0; rw [if_neg hd]
   rw [e2] at e
   subst e
   simpa using hd
theorem ungam_take {R : List Nat} (hb : Bin R) (n : Int) (k : Nat) (h : ybt R = (n, k, 0)) : k ≤ R.length ∧ 1 ≤ n ∧ n < 4294967296 ∧ R.take k = gam n.toNat ∧ (gam n.toNat).length = k := by
 unfold ybt at h
 by_cases a1 : lz R = R.length
 ·rw [if_pos a1] at h; simp at h
 rw [if_neg a1] at h
 by_cases a2 : 32 ≤ lz R
 ·rw [if_pos a2] at h; simp at h
 rw [if_neg a2] at h
 by_cases a3 : R.length < 2 * lz R + 1
 ·rw [if_pos a3] at h; simp at h
 rw [if_neg a3] at h
 simp only [Prod.mk.injEq, and_true] at h
 obtain ⟨hn, hk⟩ := h
 obtain ⟨z, hz⟩ : ∃ z, lz R = z := ⟨_, rfl⟩
 have hzt := lz_take R
 rw [hz] at hn hk a1 a2 a3 hzt
 have hlz := lz_le R
 rw [hz] at hlz
 have hone : R[z]'(by omega) = 1 := by
  have h1 := lz_next R z hz (by omega)
  have h2 := hb _ (List.getElem_mem (by omega : z < R.length))
  omega
 have h1 : (R.drop z).take (z + 1) = 1 :: (R.drop (z + 1)).take z := by
  rw [List.drop_eq_getElem_cons (by omega), List.take_succ_cons, hone]
 have hb2 : Bin ((R.drop (z + 1)).take z) := fun d hd => hb d (List.mem_of_mem_drop (List.mem_of_mem_take hd))
 have hl2 : ((R.drop (z + 1)).take z).length = z := by rw [List.length_take, List.length_drop]; omega
 have hv : num ((R.drop z).take (z + 1)) = 2 ^ z + num ((R.drop (z + 1)).take z) := by
  rw [h1]
  have := ybP [1] ((R.drop (z + 1)).take z)
  rw [hl2] at this
  rw [List.singleton_append] at this
  rw [this]
  show 1 * 2 ^ z + _ = _
  rw [Nat.one_mul]
 have hlt := ydV hb2
 rw [hl2] at hlt
 obtain ⟨N, hN⟩ : ∃ N, num ((R.drop z).take (z + 1)) = N := ⟨_, rfl⟩
 rw [hN] at hn hv
 subst hn
 have hp : 0 < (2 : Nat) ^ z := Nat.pow_pos (by omega)
 have hz32 : (2 : Nat) ^ (z + 1) ≤ 2 ^ 32 := Nat.pow_le_pow_right (by omega) (by omega)
 have hps : (2 : Nat) ^ (z + 1) = 2 ^ z * 2 := Nat.pow_succ ..
 have h32 : (2 : Nat) ^ 32 = 4294967296 := by decide
 have hg := gam_is (n := N) (k := z) (by omega) (by omega) (by omega)
 rw [Int.toNat_natCast, hg]
 refine ⟨by omega, by omega, by omega, ?_, by rw [List.length_append, List.length_replicate, yad]; omega⟩
 have hd := yd8 (z + 1) ((R.drop z).take (z + 1)) (by rw [List.length_take, List.length_drop]; omega) fun d hd => hb d (List.mem_of_mem_drop (List.mem_of_mem_take hd))
 rw [hN] at hd
 rw [← hk, show 2 * z + 1 = z + (z + 1) from by omega, List.take_add, hzt, hd]
theorem ydt {l : List Int} (h : yaw l = 0) : l.length ≤ 257 ∧ ydv l = true := by
 unfold yaw at h
 by_cases h1 : 257 < l.length
 ·rw [if_pos h1] at h; cases h
 ·rw [if_neg h1] at h
  refine ⟨by omega, ?_⟩
  cases hg : ydv l with
  | true => rfl
  | false =>
   unfold sumF at h
   rw [hg] at h
   rw [if_neg (by simp)] at h
   cases h
theorem bget_four {L : List Nat} (to : Nat) (x : Int) (T : List Nat) (hx : 0 ≤ x ∧ x ≤ 15) (h : L.drop to = digI x 4 ++ T) : ybv L to 4 = (x, 0) := by
 have hl := congrArg List.length h
 have hd : (digI x 4).length = 4 := by unfold digI; rw [yad]; rfl
 rw [List.length_drop, List.length_append, hd] at hl
 unfold ybv
 rw [if_neg (by omega), if_neg (by omega), Int.toNat_natCast, h, show (4 : Int).toNat = 4 from rfl, List.take_append_of_le_length (by omega), List.take_of_length_le (by omega)]
 unfold digI
 rw [show (4 : Int).toNat = 4 from rfl, ycK, Nat.mod_eq_of_lt (by show _ < 16; omega)]
 congr 1
 omega
theorem tget_back (L : List Nat) (l : List Int) (h15 : ∀ i (h : i < l.length), 0 ≤ l[i] ∧ l[i] ≤ 15) (hl : l.length ≤ 257) (T : List Nat) : ∀ (f i to : Nat) (last : Int), i ≤ l.length → l.length - i < f → (∀ hi : i < l.length, l[i] ≠ last) → L.drop to = yav (l.drop i) ++ T → ycy L l.length f to last (l.take i) = (l, to + (yav (l.drop i)).length, 0)
 | 0, i, to, last, hi, hf, _, _ => by omega
 | f + 1, i, to, last, hi, hf, hlast, hL => by
  rw [yc3, List.length_take, Nat.min_eq_left hi]
  by_cases hn : l.length ≤ i
  ·rw [if_pos hn, List.drop_of_length_le hn, List.take_of_length_le hn]
   rfl
  ·rw [if_neg hn]
   have hil : i < l.length := by omega
   obtain ⟨k, h1, h2, h3, h4⟩ := trun_end l (l.length - i) i hil (Nat.le_refl _)
   have hb := tbits_at l l[i] i k h1 h2 h3 h4
   have hx := h15 i hil
   obtain ⟨x, hxe⟩ : ∃ x, l[i] = x := ⟨_, rfl⟩
   rw [hxe] at hb hx h3 h4
   have hne := hlast hil
   rw [hxe] at hne
   obtain ⟨d, hd⟩ : ∃ d, k - i = d := ⟨_, rfl⟩
   rw [hd] at hb
   rw [hb] at hL ⊢
   unfold trb at hL ⊢
   rw [List.append_assoc, List.append_assoc] at hL
   have g1 := bget_four to x _ hx hL
   have g2 : L.drop (to + 4) = gam d ++ (yav (l.drop k) ++ T) := by
    rw [← List.drop_drop, hL, List.drop_append_of_le_length (by unfold digI; rw [yad]; exact Nat.le_refl _), List.drop_of_length_le (by unfold digI; rw [yad]; exact Nat.le_refl _), List.nil_append]
   obtain ⟨g3, g4⟩ := yhx d (yav (l.drop k) ++ T) (by omega) (by omega)
   have g5 : l.take i ++ List.replicate d x = l.take k := by
    have := yg4 l x i d (by omega) fun j hj a b => h3 j hj a (by omega)
    rw [show k = i + d from by omega, List.take_add, this, List.take_left' (by simp)]
   have g6 : L.drop (to + 4 + (gam d).length) = yav (l.drop k) ++ T := by
    rw [← List.drop_drop, g2, List.drop_append_of_le_length (Nat.le_refl _), List.drop_of_length_le (Nat.le_refl _), List.nil_append]
   rw [g1, g2, g3]
   dsimp only
   rw [if_neg (by decide), if_neg (by decide), if_neg hne, if_neg (by omega), Int.toNat_natCast, g5, ← g4, tget_back L l h15 hl T f k _ x h2 (by omega) (fun hk => h4 hk) g6]
   congr 2
   rw [List.length_append, List.length_append]
   unfold digI
   rw [yad]
   show to + 4 + _ + _ = to + (4 + _ + _)
   omega
theorem bget_facts {L : List Nat} (hb : Bin L) (to : Nat) (x e : Int) (h : ybv L to 4 = (x, e)) : (e = 0 ∧ to + 4 ≤ L.length ∧ 0 ≤ x ∧ x ≤ 15) ∨ (e = 4 ∧ x = 0) := by
 unfold ybv at h
 rw [if_neg (by omega)] at h
 by_cases a : (to : Int) + 4 > L.length
 ·rw [if_pos a] at h
  simp only [Prod.mk.injEq] at h
  exact Or.inr ⟨h.2.symm, h.1.symm⟩
 ·rw [if_neg a] at h
  simp only [Prod.mk.injEq] at h
  left
  have h1 := ydV (l := (L.drop ((to : Int)).toNat).take (4 : Int).toNat) fun d hd => hb d (List.mem_of_mem_drop (List.mem_of_mem_take hd))
  have h2 : (2 : Nat) ^ ((L.drop ((to : Int)).toNat).take (4 : Int).toNat).length ≤ 2 ^ 4 := Nat.pow_le_pow_right (by omega) (by rw [List.length_take]; exact Nat.min_le_left _ _)
  have h3 : (2 : Nat) ^ 4 = 16 := by decide
  obtain ⟨h4, h5⟩ := h
  refine ⟨h5.symm, by omega, by omega, by omega⟩
theorem ungam_facts {R : List Nat} (hb : Bin R) (c e : Int) (s : Nat) (h : ybt R = (c, s, e)) : (e = 0 ∧ 1 ≤ c ∧ c < 4294967296 ∧ s ≤ R.length) ∨ (e = 4 ∨ e = 40) := by
 by_cases he : e = 0
 ·subst he
  obtain ⟨h1, h2, h3, _⟩ := ungam_take hb c s h
  exact Or.inl ⟨rfl, h2, h3, h1⟩
 ·right
  unfold ybt at h
  split at h
  ·simp only [Prod.mk.injEq] at h; omega
  ·split at h
   ·simp only [Prod.mk.injEq] at h; omega
   ·split at h
    ·simp only [Prod.mk.injEq] at h; omega
    ·simp only [Prod.mk.injEq] at h; omega
theorem yc9 : (Tryz.prog.info? 3).map (fun i => (i.zero, i.size, i.bytes)) = some (some (.int .i64 0), 1, 8) := by kernel_rfl
theorem yeE (fn : Fn) (first cap : Array Value) (w : World) : (Instr.makeFunc fn first cap).run Tryz.prog w = .ok (.func fn first cap) w := rfl
def zin (top n : Int) : Bool := decide (0 ≤ n) && decide (n ≤ top)
theorem ybX (top n : Int) : zin top n = true ↔ 0 ≤ n ∧ n ≤ top := by simp [zin]
theorem zin_no (top n : Int) (h : ¬(0 ≤ n ∧ n ≤ top)) : zin top n = false := by
 cases h2 : zin top n with
 | false => rfl
 | true => exact absurd ((ybX top n).1 h2) h
theorem ycR (n top : Int) (w : World) : Calls Tryz.prog 82 #[.int .i64 n, .int .i64 top] w fun e w' => e = .returned (.bool (zin top n)) ∧ w' = w := by
 by_cases h0 : 0 ≤ n
 ·by_cases h1 : n ≤ top
  ·have fin : zin top n = true := (ybX _ _).2 ⟨h0, h1⟩
   rw [fin]
   clear fin
   go_enter Tryz.func82, Tryz.ntmps82
   go_wp2
   go_ret
   exact ⟨rfl, rfl⟩
  ·have fin : zin top n = false := zin_no _ _ fun h => h1 h.2
   rw [fin]
   clear fin
   go_enter Tryz.func82, Tryz.ntmps82
   go_wp2
   go_ret
   exact ⟨rfl, rfl⟩
 ·have fin : zin top n = false := zin_no _ _ fun h => h0 h.1
  rw [fin]
  clear fin
  go_enter Tryz.func82, Tryz.ntmps82
  go_wp2
  go_ret
  exact ⟨rfl, rfl⟩
theorem zr_not_any (n top : Int) (pb : Nat) (w : World) (hP : Blk w pb 3 #[.int .i64 top]) : Calls Tryz.prog 81 #[.int .i64 n, .pointer (some ⟨pb, 0, none⟩)] w fun e w' => e = .returned (.bool (!zin top n)) ∧ w' = w := by
 have c1 : w.cell? ⟨pb, 0, none⟩ = some (.int .i64 top) := hP.cell 0
 clear hP
 go_enter Tryz.func81, Tryz.ntmps81
 go_wp2_with (go_at_call 82; refine (ycR n top _).mono ?_; rintro e w1 ⟨rfl, rfl⟩)
 go_ret
 exact ⟨rfl, rfl⟩
set_option maxRecDepth 100000 in
theorem zr_index_any (l : List Int) (top : Int) (A : Option Addr) (n c pb : Nat) (w : World) (hm : n ≤ 4611686018427387904) (hr : Reads w w.heap.size 1 A n (ints l)) (hP : Blk w pb 3 #[.int .i64 top]) :
  Calls Tryz.prog 120 #[.slice A n c, .func (.func 81) #[] #[.pointer (some ⟨pb, 0, none⟩)]] w fun e w' => ∃ r : Int, e = .returned (.int .i64 r) ∧ (decide (0 ≤ r)) = !ya5 top l ∧ w' = w := by
 have en : l.length = n := by have := hr.1; rw [yab] at this; omega
 have Hcell : Hid (0 < n → ∃ b off, A = some ⟨b, off, none⟩ ∧ ∀ k, (hk : k < l.length) → w.cell? ⟨b, off + k, none⟩ = some (.int .i64 l[k])) := Lib.hid fun h => by
  obtain ⟨b, off, e, hb, hc⟩ := hr.2 h
  exact ⟨b, off, e, fun k hk => hc k _ (yai l k hk)⟩
 have Hcl := Lib.hid fun n => zr_not_any n top pb w hP
 have Hbad : Hid (∀ k (hk : k < l.length), zin top l[k] = false → ya5 top l = false) := Lib.hid fun k hk h => zgood_bad k hk fun h2 => by rw [(ybX _ _).2 h2] at h; cases h
 have Hgood : Hid ((∀ k (hk : k < l.length), zin top l[k] = true) → ya5 top l = true) := Lib.hid fun h => yeD fun k hk => (ybX _ _).1 (h k hk)
 have En := Lib.hid en
 clear hr hP en
 go_enter Tryz.func120, Tryz.ntmps120
 go_wp2
 go_loop [8] (fun i => ∃ k : Nat, k ≤ n ∧ i = .int .i64 k ∧ Hid (∀ j (hj : j < l.length), j < k → zin top l[j] = true)) (fun i => n - (intOf i).toNat)
 case atStart => exact ⟨0, by omega, rfl, fun j _ h => by omega⟩
 case round =>
  obtain ⟨k, hk, rfl, Hk⟩ := hrel
  by_cases hlt : k < n
  ·have hkl : k < l.length := by rw [En.out]; exact hlt
   obtain ⟨b, off, rfl, hc⟩ := Hcell.out (by omega)
   have hcell := hc k hkl
   have hki : (0 : Int) ≤ (k : Int) ∧ (k : Int) < n := by omega
   have Hc2 := Lib.hid (Hcl.out l[k])
   clear hc
   cases hz : zin top l[k] with
   | true =>
    have Hn : Hid (∀ j (hj : j < l.length), j < k + 1 → zin top l[j] = true) := Lib.hid fun j hj h => by
     rcases Nat.lt_or_ge j k with h1 | h1
     ·exact Hk.out j hj h1
     ·obtain rfl : j = k := by omega
      exact hz
    rw [hz] at Hc2
    clear hz Hbad Hgood
    generalize l[k] = x at *
    go_wp2_with (go_at_call 81; refine Hc2.out.mono ?_; rintro e w1 ⟨rfl, rfl⟩)
    go_round
    case rel => exact ⟨k + 1, by omega, iv (by omega), Hn.out⟩
    case measure => simp only [intOf]; omega
   | false =>
    have Hf := Lib.hid (Hbad.out k hkl hz)
    rw [hz] at Hc2
    clear hz Hbad Hgood
    generalize l[k] = x at *
    go_wp2_with (go_at_call 81; refine Hc2.out.mono ?_; rintro e w1 ⟨rfl, rfl⟩)
    go_ret
    exact ⟨_, rfl, by rw [Hf.out]; simp, rfl⟩
  ·obtain rfl : k = n := by omega
   have Hg := Lib.hid (Hgood.out fun j hj => Hk.out j hj (by have := En.out; omega))
   clear Hbad Hgood
   go_wp2
   go_ret
   exact ⟨_, rfl, by rw [Hg.out]; rfl, rfl⟩
theorem yhe (l : List Int) (top : Int) (A : Option Addr) (n c pb : Nat) (w : World) (hm : n ≤ 4611686018427387904) (hr : Reads w w.heap.size 1 A n (ints l)) (hP : Blk w pb 3 #[.int .i64 top]) :
  Calls Tryz.prog 80 #[.slice A n c, .func (.func 81) #[] #[.pointer (some ⟨pb, 0, none⟩)]] w fun e w' => e = .returned (.bool (!ya5 top l)) ∧ w' = w := by
 have Hi := Lib.hid (zr_index_any l top A n c pb w hm hr hP)
 clear hr hP
 generalize ya5 top l = g at *
 go_enter Tryz.func80, Tryz.ntmps80
 go_wp2_with (go_at_call 120; refine Hi.out.mono ?_; rintro e w1 ⟨r, rfl, hd, rfl⟩; have Hd := Lib.hid hd; clear hd)
 go_ret
 exact ⟨by rw [← Hd.out]; rfl, rfl⟩
theorem zr_all_any (l : List Int) (top : Int) (A : Option Addr) (n c : Nat) (w : World) (hm : n ≤ 4611686018427387904) (hr : Reads w w.heap.size 1 A n (ints l)) :
  Calls Tryz.prog 36 #[.slice A n c, .int .i64 top] w fun e w' => e = .returned (.bool (ya5 top l)) ∧ Below w.heap.size w w' := by
 have hmf := yeE
 have hb : Below w.heap.size w (w.alloc (.cells #[.int .i64 top] 3)) := (Below.refl _ _).alloc (Nat.le_refl _) _
 have Hc := Lib.hid (yhe l top A n c w.heap.size (w.alloc (.cells #[.int .i64 top] 3)) hm ((hr.below hb).more hb.size) (Blk.new w _ _))
 have Hb := Lib.hid hb
 clear hr hb
 generalize ya5 top l = g at *
 go_enter Tryz.func36, Tryz.ntmps36
 go_wp2_with (go_at_call 80; refine Hc.out.mono ?_; rintro e w1 ⟨rfl, rfl⟩)
 go_ret
 exact ⟨by cases g <;> rfl, Hb.out⟩
def yaT (n : Int) : List Int := (zd n.toNat).map (· + 1)
theorem zdigF_len (n : Int) (h : n < 9223372036854775808) : (yaT n).length ≤ 63 := by
 unfold yaT
 rw [List.length_map, zd_log]
 exact zlog_lt 63 _ (by simp; omega)
set_option maxRecDepth 100000 in
set_option maxHeartbeats 1000000 in
theorem zr_digits_any (n : Int) (hn : n < 9223372036854775808) (w : World) :
  Calls Tryz.prog 40 #[.int .i64 n] w fun e w' => ∃ A c, e = .returned (.slice A (yaT n).length c) ∧ (yaT n).length ≤ c ∧ w'.ownsRow w.heap.size 3 1 (.slice A (yaT n).length c) (yaT n).length (ints (yaT n)) ∧ Below w.heap.size w w' := by
 obtain ⟨i0, hi, hz0, hz1, hz2⟩ := info_parts yc9
 have hl63 := zdigF_len n hn
 by_cases h0 : n ≤ 0
 ·have e0 : yaT n = [] := by unfold yaT; rw [show n.toNat = 0 from by omega, ybk]; rfl
  rw [e0]
  clear e0 hl63
  go_enter Tryz.func40, Tryz.ntmps40
  go_wp2
  go_loopw [0, 3] (fun i v wr => i = .int .i64 n ∧ v = .slice none 0 0 ∧ wr = w) (fun _ _ _ => 0)
  case atStart => exact ⟨rfl, rfl, rfl⟩
  case round =>
   obtain ⟨rfl, rfl, rfl⟩ := hrel
   go_wp2
   go_ret
   exact ⟨none, 0, rfl, Nat.le_refl _, World.ownsRow_nil _ _ _ _, Below.refl _ _⟩
 ·obtain ⟨N, rfl⟩ : ∃ N : Nat, n = N := ⟨n.toNat, by omega⟩
  have hD : yaT (N : Int) = (zd N).map (· + 1) := by unfold yaT; rw [Int.toNat_natCast]
  have Hstart : Hid ([] ++ (zd N).map (· + 1) = yaT (N : Int)) := Lib.hid (by rw [hD]; rfl)
  clear hD h0
  generalize yaT (N : Int) = D at *
  go_enter Tryz.func40, Tryz.ntmps40
  go_wp2
  go_loopw [0, 3] (fun i v wr => ∃ (m : Nat) (acc : List Int), i = .int .i64 m ∧ (m : Int) < 9223372036854775808 ∧ Hid (acc ++ (zd m).map (· + 1) = D) ∧ Hid (wr.ownsRow w.heap.size 3 1 v acc.length (ints acc)) ∧ Hid (Below w.heap.size w wr)) (fun i _ _ => (intOf i).toNat)
  case atStart => exact ⟨N, [], rfl, hn, Hstart.out, World.ownsRow_nil _ _ _ _, Below.refl _ _⟩
  case round =>
   obtain ⟨m, acc, rfl, hm, Hacc, Hown, Hb⟩ := hrel
   cases m with
   | zero =>
    have hf := Hacc.out
    rw [ybk] at hf
    simp at hf
    subst hf
    obtain ⟨A2, c2, rfl, hc2, hr2⟩ := yae Hown.out
    go_wp2
    go_ret
    exact ⟨A2, c2, rfl, hc2, Hown.out, Hb.out⟩
   | succ p =>
    have hf := Hacc.out
    rw [ygD _ (by omega), show p + 1 - 1 = p from by omega, List.map_cons] at hf
    have hle : acc.length ≤ 62 := by
     have := congrArg List.length hf
     rw [List.length_append, List.length_cons] at this
     omega
    have hsub : ((p + 1 : Nat) : Int) - 1 = (p : Int) := by omega
    have hw1 : IntKind.i64.wrap (((p + 1 : Nat) : Int) - 1) = (p : Int) := by rw [IntKind.wrap_i64]; omega
    have hmod : Int.tmod (p : Int) 2 = ((p % 2 : Nat) : Int) := by rw [Int.tmod_eq_emod_of_nonneg (by omega)]; omega
    have hdiv : Int.tdiv (p : Int) 2 = ((p / 2 : Nat) : Int) := by rw [Int.tdiv_eq_ediv_of_nonneg (by omega)]; omega
    have Hn : Hid ((acc ++ [((p % 2 : Nat) : Int) + 1]) ++ (zd (p / 2)).map (· + 1) = D) := Lib.hid (by rw [← hf]; simp)
    have hp2 : p % 2 < 2 := Nat.mod_lt _ (by omega)
    have hszr := Hb.out.size
    have hpp : p / 2 ≤ p := by omega
    clear hf Hacc
    generalize p % 2 = q at *
    generalize p / 2 = m2 at *
    go_wp2_with (at_builtin; refine wpList_append_own _ rfl _ _ 28 rfl w.heap.size 3 i0 (.int .i64 0) 1 8 Tryz.underlying28 hi hz0 hz1 hz2 rfl (by decide) _ _ _ rfl (Hown.out.alloc _) ⟨wr.heap.size, 0, none⟩ 1 1 [.int .i64 ((q : Int) + 1)] rfl rfl ?c1 ?c2 ?c3 ?c4 ?c5 ?_)
    case c1 =>
     intro j u hj
     match j, hj with
     | 0, hj => simp at hj; subst hj; simp [Addr.add]
    case c2 => intro u hu; simp at hu; subst hu; rfl
    case c3 => unfold maxLen; omega
    case c4 => omega
    case c5 => simp; omega
    intro v' w1 hown' hgrow _
    have Hb' : Hid (Below w.heap.size w w1) := Lib.hid ((Below.trans Hb.out (by go_grown)).grown hgrow (by simp; omega) (fun g hg => (Hown.out.lt g hg).1))
    have Hown' : Hid (w1.ownsRow w.heap.size 3 1 v' (acc ++ [(q : Int) + 1]).length (ints (acc ++ [(q : Int) + 1]))) := Lib.hid (by
     have e1 : (acc ++ [(q : Int) + 1]).length = acc.length + 1 := by simp
     have e2 : ints (acc ++ [(q : Int) + 1]) = ints acc ++ [.int .i64 ((q : Int) + 1)] := by simp [ints]
     rw [e1, e2]
     exact hown')
    clear hown' hgrow
    go_wp2
    go_roundw
    case rel => exact ⟨m2, _, rfl, by omega, Hn.out, Hown'.out, Hb'.out⟩
    case measure => simp only [intOf]; omega
set_option maxRecDepth 100000 in
set_option maxHeartbeats 1000000 in
theorem len64_any (x : Int) (w : World) (h0 : 0 ≤ x) (h1 : x ≤ 4294967295) : Calls Tryz.prog 141 #[.int .u64 x] w fun e w' => e = .returned (.int .i64 (Lib.bitLen x.toNat)) ∧ w = w' := by
 by_cases a1 : x ≤ 255
 ·have a2 : x < 256 := by omega
  have a3 : x < 65536 := by omega
  have a4 : x < 4294967296 := by omega
  go_enter Tryz.func141, Tryz.ntmps141
  go_wp2
  go_ret
  refine ⟨congrArg Ending.returned (iv ?_), rfl⟩
  have l := Lib.bitLen_le8' x h0 a1
  rw [Lib.len8_of x h0 a1]
  unfold wrap64
  omega
 ·by_cases b1 : x ≤ 65535
  ·have a2 : ¬ x < 256 := by omega
   have a3 : x < 65536 := by omega
   have a4 : x < 4294967296 := by omega
   have a5 : 0 ≤ x / 256 := by omega
   have a6 : x / 256 ≤ 255 := by omega
   clear a1
   go_enter Tryz.func141, Tryz.ntmps141
   go_wp2
   go_ret
   refine ⟨congrArg Ending.returned (iv ?_), rfl⟩
   have l := Lib.bitLen_le8' (x / 256) a5 a6
   have s := Lib.bitLen_shift8 x.toNat (by omega) (by omega)
   rw [Lib.len8_of (x / 256) a5 a6, s]
   rw [show (x / 256).toNat = x.toNat / 256 from by omega] at l ⊢
   unfold wrap64
   omega
  ·by_cases c1 : x ≤ 16777215
   ·have a2 : ¬ x < 65536 := by omega
    have a4 : x < 4294967296 := by omega
    have a5 : 0 ≤ x / 65536 := by omega
    have a6 : x / 65536 ≤ 255 := by omega
    have a7 : x / 65536 < 256 := by omega
    clear a1 b1
    go_enter Tryz.func141, Tryz.ntmps141
    go_wp2
    go_ret
    refine ⟨congrArg Ending.returned (iv ?_), rfl⟩
    have l := Lib.bitLen_le8' (x / 65536) a5 a6
    have s := Lib.bitLen_shift16 x.toNat (by omega) (by omega)
    rw [Lib.len8_of (x / 65536) a5 a6, s]
    rw [show (x / 65536).toNat = x.toNat / 65536 from by omega] at l ⊢
    unfold wrap64
    omega
   ·have a2 : ¬ x < 65536 := by omega
    have a4 : x < 4294967296 := by omega
    have a5 : 0 ≤ x / 65536 / 256 := by omega
    have a6 : x / 65536 / 256 ≤ 255 := by omega
    have a7 : ¬ x / 65536 < 256 := by omega
    clear a1 b1 c1
    go_enter Tryz.func141, Tryz.ntmps141
    go_wp2
    go_ret
    refine ⟨congrArg Ending.returned (iv ?_), rfl⟩
    have l := Lib.bitLen_le8' (x / 65536 / 256) a5 a6
    have s := Lib.bitLen_shift24 x.toNat (by omega) (by omega)
    rw [Lib.len8_of (x / 65536 / 256) a5 a6, s]
    rw [show (x / 65536 / 256).toNat = x.toNat / 16777216 from by omega] at l ⊢
    unfold wrap64
    omega
theorem lz8_any (x : Int) (w : World) (h0 : 0 ≤ x) (h1 : x ≤ 255) : Calls Tryz.prog 127 #[.int .u8 x] w fun e w' => e = .returned (.int .i64 (8 - Lib.bitLen x.toNat)) ∧ w = w' := by
 have hl := Lib.bitLen_le8' x h0 h1
 have he := Lib.len8_of x h0 h1
 have HH : Hid (wrap64 (8 - wrap64 (Lib.len8 x)) = 8 - Lib.bitLen x.toNat) := Lib.hid (by rw [he]; unfold wrap64; omega)
 clear hl he
 go_enter Tryz.func127, Tryz.ntmps127
 go_wp2
 go_ret
 exact ⟨congrArg Ending.returned (iv HH.out), rfl⟩
theorem len_any (x : Int) (w : World) (h0 : 0 ≤ x) (h1 : x ≤ 4294967295) : Calls Tryz.prog 106 #[.int .u64 x] w fun e w' => e = .returned (.int .i64 (Lib.bitLen x.toNat)) ∧ w = w' := by
 go_enter Tryz.func106, Tryz.ntmps106
 go_wp2_with (go_at_call 141; refine (len64_any x _ h0 h1).mono ?_; rintro e w1 ⟨rfl, rfl⟩)
 go_ret
 exact ⟨rfl, rfl⟩
set_option maxRecDepth 100000 in
set_option maxHeartbeats 1000000 in
theorem wgamma_yes (B g : Nat) (n : Int) (v : Value) (R : List Nat) (w : World) (h : hasG n) (hH : WHold w B g v R) (hB : B ≤ w.heap.size) (hR : R.length ≤ 1099511627700) :
  Calls Tryz.prog 68 #[.pointer (some ⟨g, 0, none⟩), .int .i64 n] w fun e w' => e = .returned (.int .i64 0) ∧ ∃ v', WHold w' B g v' (R ++ gam n.toNat) ∧ Touch w w' (WS g v) ∧ Sep w v v' := by
 obtain ⟨h1, h2⟩ := h
 have e32 : (2 : Int) ^ (32 : Int).toNat = 4294967296 := by decide
 have hs := fun w => bfits_yes n 32 w ⟨by omega, by omega, by omega, by rw [e32]; omega⟩
 have hlen := fun w => len_any n w (by omega) (by omega)
 obtain ⟨b1, b2, b3⟩ := ycW 32 n.toNat (by omega) (by rw [show (2 : Nat) ^ 32 = 4294967296 from by decide]; omega) (by omega)
 have ble := bl_le (n := n.toNat) (by omega) (by omega)
 have hgam : gam n.toNat = List.replicate (bl n.toNat - 1) 0 ++ dig (bl n.toNat) n.toNat := rfl
 have hbl : Lib.bitLen n.toNat = bl n.toNat := rfl
 simp only [hbl] at hlen
 generalize bl n.toNat = k at *
 have f1 : fits 0 ((k : Int) - 1) := ⟨by omega, by omega, by omega, Int.pow_pos (by decide)⟩
 have f2 : fits n k := ⟨by omega, by omega, by omega, by have : (n.toNat : Int) < 2 ^ k := (by exact_mod_cast b3); simp only [Int.toNat_natCast]; omega⟩
 have d1 : digI 0 ((k : Int) - 1) = List.replicate (k - 1) 0 := by unfold digI; rw [show ((k : Int) - 1).toNat = k - 1 from by omega]; exact ydA _
 have d2 : digI n k = dig k n.toNat := by unfold digI; rw [Int.toNat_natCast]
 have hput1 := fun w hH hB => bput_is B g 0 ((k : Int) - 1) v R w f1 hH hB (by omega)
 have hput2 := fun w v1 hH hB => bput_is B g n k v1 (R ++ List.replicate (k - 1) 0) w f2 hH hB (by simp; omega)
 rw [d1] at hput1
 rw [d2] at hput2
 have hk1 : (1 : Int) ≤ k := by omega
 have hk2 : (k : Int) ≤ 32 := by omega
 have Hgam := Lib.hid hgam
 have HH := Lib.hid hH
 have HB := Lib.hid hB
 have h0 : 0 ≤ n := by omega
 have Hput1 := Lib.hid hput1
 have Hput2 := Lib.hid hput2
 clear hgam hH hB hput1 hput2 d1 d2 f1 f2 b1 b2 b3 ble hbl e32 hR
 go_enter Tryz.func68, Tryz.ntmps68
 go_wp2_with (first
  | (go_at_call 105; refine (hs _).mono ?_; rintro e w1 ⟨rfl, rfl⟩)
  | (go_at_call 106; refine (hlen _).mono ?_; rintro e w1 ⟨rfl, rfl⟩)
  | (go_at_call 67; (with_reducible refine (Hput1.out _ HH.out HB.out).mono ?_); rintro e w1 ⟨rfl, v1, hH1, ht1, hs1⟩; have HH1 := Lib.hid hH1; have Ht1 := Lib.hid ht1; have Hs1 := Lib.hid hs1; clear hH1 ht1 hs1)
  | (go_at_call 67; (with_reducible refine (Hput2.out _ _ HH1.out (Nat.le_trans HB.out Ht1.out.size)).mono ?_); rintro e w2 ⟨rfl, v2, hH2, ht2, hs2⟩; have HH2 := Lib.hid hH2; have Ht2 := Lib.hid ht2; have Hs2 := Lib.hid hs2; clear hH2 ht2 hs2))
 go_ret
 refine ⟨rfl, v2, ?_, touch_ws Ht1.out Ht2.out Hs1.out, Hs1.out.trans Hs2.out Ht1.out.size⟩
 have := HH2.out
 rw [Hgam.out, ← List.append_assoc]
 exact this
end Go.Proofs.YtoinjdmlembgeaaGreat
