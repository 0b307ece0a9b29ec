/-
 What the law of the last of these texts stands on, part 7.
-/
import Derived.Test.YtanjhbkbpalnaaaGreatMb05
import Derived.Test.YtanjhbkbpalnaaaGreatMb06
import Derived.OwnWalk
set_option maxRecDepth 100000
set_option maxHeartbeats 8000000
open Go.Proofs.Tryz
namespace Go.Proofs.YtanjhbkbpalnaaaGreat
set_option linter.unusedSimpArgs false
set_option linter.unusedVariables false
open Go.ChangeShapes Go.WideShapes Go.ChangeAt Go.RowKit Go.Joins Go.Deep
def yfi (u : Nat) : Int := if u = 0 then 0 else if u = 1 then 16384 else 32768
theorem p_full_any (u : Nat) (hu : u ≤ 1000000) (w : World) : Calls prog 147 #[.int .i64 (u : Int)] w fun e w' => e = .returned (.int .i64 (yfi u)) ∧ w' = w := by
 unfold yfi
 by_cases h0 : u = 0
 ·subst h0
  rw [qah rfl]
  go_enter func147, ntmps147
  go_wp2
  go_ret
  exact ⟨rfl, rfl⟩
 ·rw [qag h0]
  by_cases h1 : u = 1
  ·subst h1
   rw [qah rfl]
   go_enter func147, ntmps147
   go_wp2
   go_ret
   exact ⟨rfl, rfl⟩
  ·rw [qag h1]
   have b0 : ((u : Int) == 0) = false := by simp; omega
   have b1 : ((u : Int) == 1) = false := by simp; omega
   go_enter func147, ntmps147
   go_wp2
   go_ret
   exact ⟨rfl, rfl⟩
section
variable (l : List Int) (A : Option Addr) (n c : Nat) (w : World)
theorem p_used_any (hm : n ≤ 1000000) (hr : Reads w w.heap.size 1 A n (ints l)) :
  Calls prog 148 #[.slice A n c] w fun e w' => e = .returned (.int .i64 (yaq l : Int)) ∧ w' = w := by
 have en : l.length = n := by have := hr.1; rw [yae] at this; omega
 have Hcell := lcells hr
 have Htake : Hid (∀ k (h : k < l.length), yaq (l.take (k + 1)) = yaq (l.take k) + if 0 < l[k] then 1 else 0) := qaa (usedF_take l)
 have Hall : Hid (yaq (l.take n) = yaq l) := qaa (by rw [qax (by omega)])
 have En := qaa en
 obtain ⟨R, hR⟩ : ∃ R : Int, (yaq l : Int) = R := ⟨_, rfl⟩
 rw [hR]
 have HR := qaa hR
 clear hr en hR
 go_enter func148, ntmps148
 go_wp2
 go_loop [3, 5, 8] (fun p x i => ∃ k P : Nat, k ≤ n ∧ P ≤ k ∧ p = .int .i64 P ∧ i = .int .i64 k ∧ Hid (P = yaq (l.take k))) (fun _ _ i => n - (intOf i).toNat)
 case atStart => exact ⟨0, 0, by omega, by omega, rfl, rfl, rfl⟩
 case round =>
  obtain ⟨k, P, hk, hP, rfl, rfl, Hk⟩ := hrel
  by_cases hlt : k < n
  ·have hki : (0 : Int) ≤ (k : Int) ∧ (k : Int) < n := by omega
   have hkl : k < l.length := by rw [En.out]; exact hlt
   obtain ⟨b, off, rfl, hb, hc⟩ := Hcell.out (by omega)
   have hx := hc k hkl
   have ht := Htake.out k hkl
   rw [← Hk.out] at ht
   have Ht := qaa ht
   clear hc ht
   generalize l[k] = x at *
   by_cases hx0 : 0 < x
   ·have Ht2 : Hid (P + 1 = yaq (l.take (k + 1))) := qaa (by rw [Ht.out, qah hx0])
    go_wp2
    go_round
    case rel => exact ⟨k + 1, P + 1, by omega, by omega, iv (by omega), iv (by omega), Ht2.out⟩
    case measure => simp only [intOf]; omega
   ·have Ht2 : Hid (P = yaq (l.take (k + 1))) := qaa (by rw [Ht.out, qag hx0]; rfl)
    go_wp2
    go_round
    case rel => exact ⟨k + 1, P, by omega, by omega, rfl, iv (by omega), Ht2.out⟩
    case measure => simp only [intOf]; omega
  ·obtain rfl : k = n := by omega
   have Hf : Hid ((P : Int) = R) := qaa (by rw [← HR.out, ← Hall.out, ← Hk.out])
   go_wp2
   go_ret
   exact ⟨by rw [← Hf.out]; rfl, rfl⟩
def ycr (l : List Int) : Int := if 257 < l.length then 3 else if ydq l = true then (if (yax l : Int) = yfi (yaq l) then 0 else 80) else 80
theorem partF_le : ∀ l : List Int, yax l ≤ 32768 * l.length
 | [] => by simp [yax]
 | x :: t => by
  have := partF_le t
  have h2 : (2 : Nat) ^ (15 - x.toNat) ≤ 2 ^ 15 := qaF (by omega) (by omega)
  show (if 0 < x then 2 ^ (15 - x.toNat) else 0) + yax t ≤ _
  rw [qau]
  split <;> omega
theorem pshift (m : Nat) (h : m ≤ 15) : (32768 : Int) / 2 ^ m = ((2 ^ (15 - m) : Nat) : Int) := by
 have : ∀ m : Fin 16, (32768 : Int) / 2 ^ m.1 = ((2 ^ (15 - m.1) : Nat) : Int) := by decide
 exact this ⟨m, by omega⟩
theorem yf8 (hm : n ≤ 1000000) (hr : Reads w w.heap.size 1 A n (ints l)) :
  Calls prog 104 #[.slice A n c] w fun e w' => e = .returned (.int .i64 (ycr l)) ∧ Below w.heap.size w w' := by
 have en : l.length = n := by have := hr.1; rw [yae] at this; omega
 have Hall := qaa (a_all_any l 15 A n c w (by omega) hr)
 have Hused := qaa fun (W : World) (hW : Below w.heap.size w W) => p_used_any l A n c W (by omega) ((hr.below hW).more hW.size)
 have Hfull := qaa fun W => p_full_any (yaq l) (by have := usedF_le l; omega) W
 obtain ⟨F, hF⟩ : ∃ F, ycr l = F := ⟨_, rfl⟩
 rw [hF]
 unfold ycr at hF
 rw [en] at hF
 by_cases hn : 257 < n
 ·rw [qah hn] at hF
  subst hF
  have hni : (257 : Int) < n := by omega
  clear hr
  go_enter func104, ntmps104
  go_wp2
  go_ret
  exact ⟨rfl, qaj _ _⟩
 ·rw [qag hn] at hF
  have hni : ¬ (257 : Int) < n := by omega
  by_cases hg : ydq l = true
  ·rw [qah hg] at hF
   have hga : ych 15 l = true := hg
   rw [hga] at Hall
   have Hcell : Hid (0 < n → ∃ b off, A = some ⟨b, off, none⟩ ∧ ∀ wr, Below w.heap.size w wr → ∀ k, (hk : k < l.length) → wr.cell? ⟨b, off + k, none⟩ = some (.int .i64 l[k])) := qaa fun h => by
    obtain ⟨b, off, e, hb, hc⟩ := hr.2 h
    exact ⟨b, off, e, fun wr hw k hk => (hw.cell (p := ⟨b, off + k, none⟩) hb).trans (hc k _ (yak l k hk))⟩
   have Hgood := qaa fun k hk => yaY hg k hk
   have Htake := qaa (partF_take l)
   have Hend : Hid (yax (l.take n) = yax l) := qaa (by rw [qax (by omega)])
   have Hbound : Hid (∀ k, k ≤ n → yax (l.take k) ≤ 32768 * 257) := qaa fun k hk => by
    have := partF_le (l.take k)
    rw [qar] at this
    have h3 : min k l.length ≤ 257 := by omega
    have := qbW 32768 h3
    omega
   have En := qaa en
   have Hf := qaa hF
   clear hr hg hga en hF
   generalize yfi (yaq l) = FU at *
   generalize hUU : (yaq l : Int) = UU at *
   clear hUU
   go_enter func104, ntmps104
   go_wp2_with (go_at_call 143; refine Hall.out.mono ?_; rintro e w1 ⟨rfl, hb1⟩; have Hb1 := qaa hb1; clear hb1)
   go_loopw [3, 5, 14] (fun p x i wr => ∃ k P : Nat, k ≤ n ∧ P ≤ 32768 * 257 ∧ p = .int .i64 P ∧ i = .int .i64 k ∧ Hid (P = yax (l.take k)) ∧ Hid (Below w.heap.size w wr)) (fun _ _ i _ => n - (intOf i).toNat)
   case atStart => exact ⟨0, 0, by omega, by omega, rfl, rfl, rfl, Hb1⟩
   case round =>
    obtain ⟨k, P, hk, hP, rfl, rfl, Hk, Hw⟩ := hrel
    by_cases hlt : k < n
    ·have hki : (0 : Int) ≤ (k : Int) ∧ (k : Int) < n := by omega
     have hkl : k < l.length := by rw [En.out]; exact hlt
     obtain ⟨b, off, rfl, hc⟩ := Hcell.out (by omega)
     have hx := hc wr Hw.out k hkl
     have ht := Htake.out k hkl
     rw [← Hk.out] at ht
     have hbd := Hbound.out (k + 1) (by omega)
     obtain ⟨g1, g2⟩ := Hgood.out k hkl
     have Ht := qaa ht
     have Hbd := qaa hbd
     clear hc ht hbd
     generalize l[k] = x at *
     obtain ⟨m, rfl⟩ : ∃ m : Nat, x = m := ⟨x.toNat, by omega⟩
     by_cases hx0 : (0 : Int) < (m : Int)
     ·obtain ⟨S2, hS2⟩ : ∃ S2, yax (l.take (k + 1)) = S2 := ⟨_, rfl⟩
      have Ht2 := Ht.out
      rw [qah hx0, qap, hS2] at Ht2
      have Hbd2 := Hbd.out
      rw [hS2] at Hbd2
      have hsh := pshift m (by omega)
      generalize (2 ^ (15 - m) : Nat) = pw at *
      have HS2 : Hid (S2 = yax (l.take (k + 1))) := qaa hS2.symm
      clear hS2 Ht Hbd
      have hz : (P : Int) + (pw : Int) = (S2 : Int) := by omega
      have hpw : (pw : Int) ≤ 8421376 := by omega
      clear Ht2
      go_wp2
      go_roundw
      case rel => exact ⟨k + 1, S2, by omega, by omega, iv (by omega), iv (by omega), HS2.out, Hw⟩
      case measure => simp only [intOf]; omega
     ·have Ht2 : Hid (P = yax (l.take (k + 1))) := qaa (by rw [Ht.out, qag hx0]; rfl)
      go_wp2
      go_roundw
      case rel => exact ⟨k + 1, P, by omega, hP, rfl, iv (by omega), Ht2.out, Hw⟩
      case measure => simp only [intOf]; omega
    ·obtain rfl : k = n := by omega
     have hPe : (P : Int) = (yax l : Int) := by rw [← Hend.out, ← Hk.out]
     have hf := Hf.out
     rw [← hPe] at hf
     by_cases he : (P : Int) = FU
     ·rw [qah he] at hf
      subst hf
      have hb : ((P : Int) == FU) = true := by simpa using he
      have HE := qaa he
      clear hPe he Hf
      go_wp2_with (first
       | (go_at_call 148; refine (Hused.out _ Hw.out).mono ?_; rintro e w2 ⟨rfl, rfl⟩)
       | (go_at_call 147; refine (Hfull.out _).mono ?_; rintro e w2 ⟨rfl, rfl⟩))
      go_ret
      exact ⟨rfl, Hw.out⟩
     ·rw [qag he] at hf
      subst hf
      have hb : ((P : Int) == FU) = false := by simpa using he
      have HE := qaa he
      clear hPe he Hf
      go_wp2_with (first
       | (go_at_call 148; refine (Hused.out _ Hw.out).mono ?_; rintro e w2 ⟨rfl, rfl⟩)
       | (go_at_call 147; refine (Hfull.out _).mono ?_; rintro e w2 ⟨rfl, rfl⟩))
      go_ret
      exact ⟨rfl, Hw.out⟩
  ·have hg2 : ych 15 l = false := by
    cases h : ych 15 l with
    | false => rfl
    | true => exact absurd h hg
   rw [qag hg] at hF
   rw [hg2] at Hall
   subst hF
   clear hr hg hg2
   go_enter func104, ntmps104
   go_wp2_with (go_at_call 143; refine Hall.out.mono ?_; rintro e w1 ⟨rfl, hb1⟩; have Hb1 := qaa hb1; clear hb1)
   go_ret
   exact ⟨rfl, Hb1.out⟩
end
def cat1 (ls : List Nat) (n s j : Nat) : Int × Int :=
 if 0 < ls.getD j 0 ∧ (ls.getD j 0 < n ∨ (ls.getD j 0 = n ∧ j < s)) then ((ybP ls (ls.getD j 0) j : Nat), (ls.getD j 0 : Nat)) else (0, 0)
def wat (ls : List Nat) (n s : Nat) : List (Int × Int) := (List.range ls.length).map (cat1 ls n s)
theorem yaO (ls : List Nat) (n s : Nat) : (wat ls n s).length = ls.length := by simp [wat]
theorem wat_get (ls : List Nat) (n s j : Nat) (h : j < ls.length) : (wat ls n s)[j]? = some (cat1 ls n s j) := by simp [wat, h]
theorem wat_congr (ls : List Nat) (n s n' s' : Nat) (h : ∀ j, j < ls.length → cat1 ls n s j = cat1 ls n' s' j) : wat ls n s = wat ls n' s' := List.map_congr_left fun j hj => h j (qbk.1 hj)
theorem wat_zero (ls : List Nat) : wat ls 1 0 = List.replicate ls.length (0, 0) := by
 apply qcx
 intro j
 by_cases h : j < ls.length
 ·rw [wat_get ls 1 0 j h, List.getElem?_replicate, qah h]
  unfold cat1
  rw [qag (by omega)]
 ·rw [qbp (by rw [yaO]; omega), qbp (by simp; omega)]
theorem wat_next (ls : List Nat) (n s : Nat) (h : ls.length ≤ s) : wat ls n s = wat ls (n + 1) 0 := wat_congr ls _ _ _ _ fun j hj => by
 unfold cat1
 by_cases h1 : 0 < ls.getD j 0 ∧ (ls.getD j 0 < n ∨ (ls.getD j 0 = n ∧ j < s))
 ·rw [qah h1, qah (by omega)]
 ·rw [qag h1, qag (by omega)]
theorem wat_skip (ls : List Nat) (n s : Nat) (h : ls.getD s 0 ≠ n) : wat ls n (s + 1) = wat ls n s := wat_congr ls _ _ _ _ fun j hj => by
 unfold cat1
 by_cases e : j = s
 ·subst e
  by_cases h1 : 0 < ls.getD j 0 ∧ ls.getD j 0 < n
  ·rw [qah (by omega), qah (by omega)]
  ·rw [qag (by omega), qag (by omega)]
 ·by_cases h1 : 0 < ls.getD j 0 ∧ (ls.getD j 0 < n ∨ (ls.getD j 0 = n ∧ j < s))
  ·rw [qah h1, qah (by omega)]
  ·rw [qag h1, qag (by omega)]
theorem wat_set (ls : List Nat) (n s : Nat) (hs : s < ls.length) (h : ls.getD s 0 = n) (hn : 0 < n) : (wat ls n s).set s ((ybP ls n s : Nat), (n : Nat)) = wat ls n (s + 1) := by
 apply qcx
 intro j
 by_cases hj : j < ls.length
 ·rw [List.getElem?_set, wat_get ls n (s + 1) j hj, yaO, wat_get ls n s j hj]
  by_cases e : s = j
  ·subst e
   rw [qah rfl, qah hs]
   unfold cat1
   rw [qah (by omega), h]
  ·rw [qag e]
   unfold cat1
   by_cases h1 : 0 < ls.getD j 0 ∧ (ls.getD j 0 < n ∨ (ls.getD j 0 = n ∧ j < s))
   ·rw [qah h1, qah (by omega)]
   ·rw [qag h1, qag (by omega)]
 ·rw [qbp (by rw [qbO, yaO]; omega), qbp (by rw [yaO]; omega)]
def ybL (l : List Int) : List (Int × Int) × Int := if ya6 l = 0 then (wat (l.map Int.toNat) 16 0, 0) else ([], ya6 l)
theorem yez (k : IntKind) (a b : Int) : ∀ (L : List (Int × Int)) (s : Nat), s < L.length → ((ybe k L).set (s * 2) (.int k a)).set (s * 2 + 1) (.int k b) = ybe k (L.set s (a, b))
 | r :: t, 0, _ => rfl
 | r :: t, s + 1, h => by
  have ih := yez k a b t s (by simpa using h)
  rw [show (s + 1) * 2 = s * 2 + 1 + 1 from by omega, yb9, qac, qac, qac, qac, ih, qac, yb9]
theorem pairs_zero (n : Nat) : madeCells #[.int .i64 0, .int .i64 0] (n * 2) = (ybe .i64 (List.replicate n (0, 0))).toArray := by
 have h : ybe .i64 (List.replicate n (0, 0)) = List.replicate (n * 2) (.int .i64 0) := by
  induction n with
  | zero => rfl
  | succ n ih =>
   rw [qb9, yb9, ih, show (n + 1) * 2 = n * 2 + 1 + 1 from by omega, qb9, qb9]
 rw [h]
 apply Array.ext'
 apply qcx
 intro j
 by_cases hj : j < n * 2
 ·rcases Nat.mod_two_eq_zero_or_one j with e | e <;> simp [madeCells, hj, e]
 ·simp [madeCells, hj]
theorem field_info : (prog.info? 143).map (fun i => (i.zero, i.size, i.bytes)) = some (some (.agg #[.int .i64 0, .int .i64 0]), 2, 16) := by kernel_rfl
theorem mk_fields (n : Nat) (h : n ≤ 1000000) (w : World) : (Instr.makeSlice 137 (.int .i64 (n : Int)) (.int .i64 (n : Int))).run prog w = .ok (.slice (some ⟨w.heap.size, 0, none⟩) n n) (w.alloc (.cells (ybe .i64 (List.replicate n (0, 0))).toArray 143)) := by
 obtain ⟨i0, hi, hz0, hz1, hz2⟩ : ∃ i0, prog.info? 143 = some i0 ∧ i0.zero = some (.agg #[.int .i64 0, .int .i64 0]) ∧ i0.size = 2 ∧ i0.bytes = 16 := by
  have h := field_info
  cases hi : prog.info? 143 with
  | none => rw [hi] at h; cases h
  | some i0 =>
   rw [hi] at h
   simp only [qb8, qbV, qce] at h
   exact ⟨i0, rfl, h.1, h.2.1, h.2.2⟩
 have hr := run_make (P := prog) w 137 143 i0 _ underlying137 hi hz0 .i64 .i64 n n (by omega) (qc2 _) (by rw [hz2]; omega) (by omega)
 simp only [qap, hz1] at hr
 rw [hr]
 show Result.ok _ (w.alloc (.cells (madeCells #[.int .i64 0, .int .i64 0] (n * 2)) 143)) = _
 rw [pairs_zero]
theorem wat_store {W : World} {g : Nat} {ls : List Nat} {n s : Nat} (hB : Blk W g 143 (ybe .i64 (wat ls n s)).toArray) (hs : s < ls.length) (h : ls.getD s 0 = n) (hn : 0 < n) :
  (∃ a b, W.cell? ⟨g, s * 2, none⟩ = some (.int .i64 a) ∧ W.cell? ⟨g, s * 2 + 1, none⟩ = some (.int .i64 b)) ∧ W.frozen? ⟨g, s * 2, none⟩ = false ∧ W.frozen? ⟨g, s * 2 + 1, none⟩ = false ∧
   Blk ((W.setCell ⟨g, s * 2, none⟩ (.int .i64 ((ybP ls n s : Nat) : Int))).setCell ⟨g, s * 2 + 1, none⟩ (.int .i64 (n : Int))) g 143 (ybe .i64 (wat ls n (s + 1))).toArray := by
 have hl : s < (wat ls n s).length := by rw [yaO]; exact hs
 refine ⟨⟨(wat ls n s)[s].1, (wat ls n s)[s].2, ?_, ?_⟩, hB.frozen _, hB.frozen _, ?_⟩
 ·rw [hB.cell, qaq]
  exact ycw .i64 _ s hl
 ·rw [hB.cell, qaq]
  exact yc8 .i64 _ s hl
 ·have h2 := (hB.set_ (s * 2) (.int .i64 ((ybP ls n s : Nat) : Int))).set_ (s * 2 + 1) (.int .i64 (n : Int))
  rw [qab, qab, yez .i64 _ _ _ s hl, wat_set ls n s hs h hn] at h2
  exact h2
theorem cpos_le {ls : List Nat} (n s : Nat) : cpos ls n s ≤ call ls := wsum_le ls 0 fun j hj hp => by
 simp only [qb6] at hp
 exact hp.1
theorem call_part : ∀ (l : List Int), call (l.map Int.toNat) = yax l := by
 have h : ∀ (l : List Int) (i : Nat), wsum (fun _ x => decide (0 < x)) i (l.map Int.toNat) = yax l := by
  intro l
  induction l with
  | nil => intro i; rfl
  | cons x t ih =>
   intro i
   show (if decide (0 < x.toNat) = true then 2 ^ (15 - x.toNat) else 0) + wsum _ (i + 1) (t.map Int.toNat) = (if 0 < x then 2 ^ (15 - x.toNat) else 0) + yax t
   rw [ih (i + 1)]
   congr 1
   by_cases h : 0 < x
   ·rw [qah h, qah (by simp; omega)]
   ·rw [qag h, qag (by simp; omega)]
 exact fun l => h l 0
theorem yek {l : List Int} (h : ya6 l = 0) : l.length ≤ 257 ∧ ydq l = true ∧ call (l.map Int.toNat) ≤ 32768 := by
 unfold ya6 at h
 by_cases h1 : 257 < l.length
 ·rw [qah h1] at h; cases h
 ·rw [qag h1] at h
  by_cases h2 : sumF l = 0 ∨ sumF l = 32768 ∨ ((yaq l : Int) = 1 ∧ sumF l = 16384)
  ·unfold sumF at h2
   by_cases hg : ydq l = true
   ·rw [qah hg] at h2
    refine ⟨by omega, hg, ?_⟩
    rw [call_part]
    omega
   ·rw [qag hg] at h2
    omega
  ·rw [qag h2] at h; cases h
theorem cref_words_any (l : List Int) (A : Option Addr) (n c : Nat) (w : World) (hm : n ≤ 1000000) (hr : Reads w w.heap.size 1 A n (ints l)) :
  Calls prog 112 #[.slice A n c] w fun e w' => ∃ A' c', e = .returned (.tuple #[.slice A' (ybL l).1.length c', .int .i64 (ybL l).2]) ∧ (ybL l).1.length ≤ c' ∧ Reads w' w'.heap.size 2 A' (ybL l).1.length (ybe .i64 (ybL l).1) ∧ Below w.heap.size w w' := by
 have el : l.length = n := by have := hr.1; rw [yae] at this; omega
 have Hchk := qaa (lref_check_any l A n c w hm hr)
 obtain ⟨F, hF⟩ : ∃ F, ybL l = F := ⟨_, rfl⟩
 rw [hF]
 unfold ybL at hF
 by_cases h0 : ya6 l = 0
 ·rw [qah h0] at hF
  rw [h0] at Hchk
  obtain ⟨hl, hg, hca⟩ := yek h0
  have Hc1 : Hid (0 < n → ∃ b off, A = some ⟨b, off, none⟩ ∧ ∀ wr, Below w.heap.size w wr → ∀ k, (hk : k < l.length) → wr.cell? ⟨b, off + k, none⟩ = some (.int .i64 l[k])) := qaa fun h => by
   obtain ⟨b, off, e, hb, hc⟩ := hr.2 h
   exact ⟨b, off, e, fun wr hw k hk => (hw.cell (p := ⟨b, off + k, none⟩) hb).trans (hc k _ (yak l k hk))⟩
  obtain ⟨ls, hls⟩ : ∃ ls, l.map Int.toNat = ls := ⟨_, rfl⟩
  have hlsn : ls.length = n := by rw [← hls, qaN, el]
  have Hls : Hid (∀ k (hk : k < l.length) (hk2 : k < ls.length), (ls[k] : Int) = l[k] ∧ ls[k] ≤ 15) := qaa fun k hk hk2 => by
   have := yaY hg k hk
   subst hls
   rw [qbB]
   omega
  rw [hls] at hF hca
  have Hca := qaa hca
  have Hel := qaa el
  have Hln := qaa hlsn
  have hmk := fun W => mk_fields n hm W
  rw [← hlsn, ← wat_zero] at hmk
  rw [hlsn] at hmk
  have Hf := qaa hF
  have hni : (n : Int) ≤ 257 := by omega
  have Hz : Hid (cpos ls 1 0 = 0) := qaa (by rw [← yej 0 ls.length (qaf _)]; exact yec _)
  clear hr hF h0 hg hca hls el hl hlsn
  go_enter func112, ntmps112
  go_wp2_with (go_at_call 155; refine Hchk.out.mono ?_; rintro e w1 ⟨rfl, rfl⟩)
  have HB0 : Hid (Blk (w1.alloc (.cells (ybe .i64 (wat ls 1 0)).toArray 143)) w1.heap.size 143 (ybe .i64 (wat ls 1 0)).toArray) := qaa (Blk.new _ _ _)
  have HG0 : Hid (w1.grownBy (w1.alloc (.cells (ybe .i64 (wat ls 1 0)).toArray 143)) (some w1.heap.size)) := qaa (ycP (ycK _ _) _)
  have Hpb : Hid (∀ X Y N s : Nat, Y ≤ 15 → X * 2 ^ (15 - Y) = cpos ls N s → X ≤ 32768) := qaa fun X Y N s hY h => by
   have h1 := cpos_le (ls := ls) N s
   have h2 := Hca.out
   have h3 : 0 < (2 : Nat) ^ (15 - Y) := qbu (by omega)
   have h4 : X * 1 ≤ X * 2 ^ (15 - Y) := qbW X h3
   omega
  generalize w1.alloc (.cells (ybe .i64 (wat ls 1 0)).toArray 143) = wz at *
  clear hmk
  go_loopw [6, 7, 8, 9] (fun nx la nn ss wr => ∃ (N X Y : Nat), 1 ≤ N ∧ N ≤ 16 ∧ Y < N ∧ nx = .int .i64 X ∧ la = .int .i64 Y ∧ nn = .int .i64 N ∧ Hid (X * 2 ^ (15 - Y) = cpos ls N 0) ∧ Hid (Blk wr w1.heap.size 143 (ybe .i64 (wat ls N 0)).toArray) ∧ Hid (w1.grownBy wr (some w1.heap.size))) (fun _ _ nn _ _ => 17 - (intOf nn).toNat)
  case atStart => exact ⟨1, 0, 0, by omega, by omega, by omega, rfl, rfl, rfl, qaa (by simp [Hz.out]), HB0, HG0⟩
  case round =>
   obtain ⟨N, X, Y, hN1, hN2, hY, rfl, rfl, rfl, HX, HB, HG⟩ := hrel
   clear HB0 HG0
   by_cases hlt : N ≤ 15
   ·have hNz : (N : Int) ≤ 15 := by omega
    go_wp2
    go_loopw [6, 7, 9] (fun nx la ss wr => ∃ (s X Y : Nat), s ≤ n ∧ Y ≤ N ∧ nx = .int .i64 X ∧ la = .int .i64 Y ∧ ss = .int .i64 s ∧ Hid (X * 2 ^ (15 - Y) = cpos ls N s) ∧ Hid (Blk wr w1.heap.size 143 (ybe .i64 (wat ls N s)).toArray) ∧ Hid (w1.grownBy wr (some w1.heap.size))) (fun _ _ ss _ => n - (intOf ss).toNat)
    case atStart => exact ⟨0, X, Y, by omega, by omega, rfl, rfl, rfl, HX, HB, HG⟩
    case round =>
     obtain ⟨s, X, Y, hs, hY2, rfl, rfl, rfl, HX2, HB2, HG2⟩ := hrel
     clear HX HB HG
     by_cases hst : s < n
     ·have hsz : (0 : Int) ≤ (s : Int) ∧ (s : Int) < (n : Int) := by omega
      have hsl : s < l.length := by rw [Hel.out]; exact hst
      have hsn : s < ls.length := by rw [Hln.out]; exact hst
      obtain ⟨b1, o1, rfl, hcell⟩ := Hc1.out (by omega)
      have x1 := hcell wr (ycR HG2.out (qaf _) (qaf _)) s hsl
      obtain ⟨hv, hv2⟩ := Hls.out s hsl hsn
      clear hcell
      rw [← hv] at x1
      have hgd : ls.getD s 0 = ls[s] := by rw [qaw, qan hsn]; rfl
      by_cases hne : ls[s] = N
      ·have hbe : ((ls[s] : Int) == (N : Int)) = true := by simp; omega
       have hbn : ((ls[s] : Int) != (N : Int)) = false := by simp; omega
       have hie : (ls[s] : Int) = (N : Int) := by omega
       rw [hie] at x1
       have hgN : ls.getD s 0 = N := by rw [hgd, hne]
       have Hstep := qaa (cpos_step N s hsn hne (by omega))
       have Hw := qaa fun W hB => wat_store (W := W) (g := w1.heap.size) hB hsn hgN (by omega)
       clear hbe hbn hie hgd hne hv hv2
       go_wp2
       go_loopw [6, 7] (fun nx la W => ∃ X Y : Nat, Y ≤ N ∧ nx = .int .i64 X ∧ la = .int .i64 Y ∧ Hid (X * 2 ^ (15 - Y) = cpos ls N s) ∧ Hid (Blk W w1.heap.size 143 (ybe .i64 (wat ls N s)).toArray) ∧ Hid (w1.grownBy W (some w1.heap.size))) (fun _ la _ => N - (intOf la).toNat)
       case atStart => exact ⟨X, Y, hY2, rfl, rfl, HX2, HB2, HG2⟩
       case round =>
        obtain ⟨X, Y, hY3, rfl, rfl, HX3, HB3, HG3⟩ := hrel
        clear HX2 HB2 HG2
        have hxb := Hpb.out X Y N s (by omega) HX3.out
        by_cases hYN : Y < N
        ·have hYz : (Y : Int) < (N : Int) := by omega
         have HX4 : Hid (2 * X * 2 ^ (15 - (Y + 1)) = cpos ls N s) := qaa (by
          rw [← HX3.out, show 15 - Y = 15 - (Y + 1) + 1 from by omega, qaO, qbx 2 X, qbX, qbx 2])
         go_wp2
         go_roundw
         case rel => exact ⟨2 * X, Y + 1, by omega, iv (by omega), iv (by omega), HX4, HB3, HG3⟩
         case measure => simp only [intOf]; omega
        ·have hYz : ¬ (Y : Int) < (N : Int) := by omega
         obtain rfl : Y = N := by omega
         have hX5 : ybP ls Y s = X := by
          unfold ybP
          rw [← HX3.out, Nat.mul_div_cancel _ (qbu (by omega))]
         obtain ⟨⟨a, b, d1, d2⟩, d3, d4, d5⟩ := Hw.out wr HB3.out
         rw [hX5] at d5
         have HB5 := qaa d5
         have HX6 : Hid ((X + 1) * 2 ^ (15 - Y) = cpos ls Y (s + 1)) := qaa (by rw [Hstep.out, ← HX3.out, qcf, Nat.one_mul])
         clear d5 hX5 Hw Hstep
         go_wp2
         go_roundw
         case rel => exact ⟨s + 1, X + 1, Y, by omega, by omega, iv (by omega), rfl, iv (by omega), HX6, HB5, qaa (ybc (ybc HG3.out (qat rfl) _) (qat rfl) _)⟩
         case measure => simp only [intOf]; omega
      ·have hbe : ((ls[s] : Int) == (N : Int)) = false := by simp; omega
       have hbn : ((ls[s] : Int) != (N : Int)) = true := by simp; omega
       have hie : ¬ (ls[s] : Int) = (N : Int) := by omega
       have HX6 : Hid (X * 2 ^ (15 - Y) = cpos ls N (s + 1)) := qaa (by rw [ygC N s fun _ => hne]; exact HX2.out)
       have HB5 : Hid (Blk wr w1.heap.size 143 (ybe .i64 (wat ls N (s + 1))).toArray) := qaa (by rw [wat_skip ls N s (by rw [hgd]; exact hne)]; exact HB2.out)
       clear HX2 HB2 hgd hne hv hv2
       generalize ls[s] = lv at *
       go_wp2
       go_roundw
       case rel => exact ⟨s + 1, X, Y, by omega, hY2, rfl, rfl, iv (by omega), HX6, HB5, HG2⟩
       case measure => simp only [intOf]; omega
     ·obtain rfl : s = n := by omega
      have hsz : ¬ (s : Int) < (s : Int) := by omega
      have HX6 : Hid (X * 2 ^ (15 - Y) = cpos ls (N + 1) 0) := qaa (by rw [← yej N s (by rw [Hln.out]; exact qaf _)]; exact HX2.out)
      have HB5 : Hid (Blk wr w1.heap.size 143 (ybe .i64 (wat ls (N + 1) 0)).toArray) := qaa (by rw [← wat_next ls N s (by rw [Hln.out]; exact qaf _)]; exact HB2.out)
      clear HX2 HB2
      go_wp2
      go_roundw
      case rel => exact ⟨N + 1, X, Y, by omega, by omega, by omega, rfl, rfl, iv (by omega), HX6, HB5, HG2⟩
      case measure => simp only [intOf]; omega
   ·obtain rfl : N = 16 := by omega
    go_wp2
    go_ret2
    rw [← Hf.out]
    refine ⟨some ⟨w1.heap.size, 0, none⟩, n, ?_, ?_, ?_, ycR HG.out (qaf _) (qaf _)⟩
    ·show _ = Ending.returned (.tuple #[.slice (some ⟨w1.heap.size, 0, none⟩) (wat ls 16 0).length n, .int .i64 0])
     rw [yaO, Hln.out]
     rfl
    ·show (wat ls 16 0).length ≤ n
     rw [yaO, Hln.out]
     exact qaf _
    ·refine ⟨by rw [pairs_length], fun _ => ⟨w1.heap.size, 0, rfl, HB.out.lt, fun j u hu => ?_⟩⟩
     rw [qaE, HB.out.cell, qaq]
     exact hu
 ·rw [qag h0] at hF
  have Hf := qaa hF
  have hb0 : (ya6 l == 0) = false := by simpa using h0
  clear hr hF
  generalize ya6 l = E at *
  go_enter func112, ntmps112
  go_wp2_with (go_at_call 155; refine Hchk.out.mono ?_; rintro e w1 ⟨rfl, rfl⟩)
  go_ret2
  rw [← Hf.out]
  exact ⟨none, 0, rfl, qaf _, Reads.none_, qaj _ _⟩
def begF : List Nat → List Nat → Bool × Bool
 | _, [] => (true, true)
 | [], _ :: _ => (true, false)
 | a :: t, b :: u => if a = b then begF t u else (false, false)
def yaD (ws : List (Int × Int)) (s : Int) : List Nat × Int := if 0 ≤ s ∧ s < ws.length ∧ (ws.getD s.toNat (0, 0)).2 ≠ 0 then (digI (ws.getD s.toNat (0, 0)).1 (ws.getD s.toNat (0, 0)).2, 0) else ([], 70)
theorem cfields_at {w : World} {B n : Nat} {A : Option Addr} {l : List (Int × Int)} (hr : Reads w B 2 A n (ybe .i64 l)) (hn : 0 < n) : ∃ b off, A = some ⟨b, off, none⟩ ∧ b < B ∧ ∀ k, (hk : k < l.length) → w.cell? ⟨b, off + k * 2, none⟩ = some (.int .i64 l[k].1) ∧ w.cell? ⟨b, off + k * 2 + 1, none⟩ = some (.int .i64 l[k].2) := by
 obtain ⟨b, off, e, hb, hc⟩ := hr.2 hn
 exact ⟨b, off, e, hb, fun k hk => ⟨hc _ _ (ycw .i64 l k hk), hc _ _ (yc8 .i64 l k hk)⟩⟩
theorem cheld_next {w' w1 : World} {b o1 o2 : Nat} {x y : Value} (h : w'.cell? ⟨b, o1, none⟩ = some x ∧ w'.cell? ⟨b, o2, none⟩ = some y ∧ b < w'.heap.size) (hb : Below w'.heap.size w' w1) : w1.cell? ⟨b, o1, none⟩ = some x ∧ w1.cell? ⟨b, o2, none⟩ = some y ∧ b < w1.heap.size :=
 ⟨(hb.cell (p := ⟨b, o1, none⟩) h.2.2).trans h.1, (hb.cell (p := ⟨b, o2, none⟩) h.2.2).trans h.2.1, qaM h.2.2 hb.size⟩
def CWordPost (w w' : World) (e : Ending) (F : List Nat × Int) : Prop := ∃ D m cd, e = .returned (.tuple #[.slice D m cd, .int .i64 F.2]) ∧ F.1.length = m ∧ Reads w' w'.heap.size 1 D m (bcs F.1) ∧ Below w.heap.size w w'
theorem cref_word_any (ws : List (Int × Int)) (A : Option Addr) (n c : Nat) (s : Int) (w : World) (hn : ws.length = n) (hl : n ≤ 1000) (hr : Reads w w.heap.size 2 A n (ybe .i64 ws)) (hf : ∀ f ∈ ws, fits f.1 f.2) :
  Calls prog 114 #[.slice A n c, .int .i64 s] w fun e w' => CWordPost w w' e (yaD ws s) := by
 have hni : (n : Int) ≤ 1000 := by omega
 by_cases h0 : s < 0
 ·have hF : yaD ws s = ([], 70) := by unfold yaD; rw [qag (by omega)]
  rw [hF]
  clear hr hf hF hn
  go_enter func114, ntmps114
  go_wp2
  go_ret2
  exact ⟨none, 0, 0, rfl, rfl, Reads.none_, by go_grown⟩
 by_cases h1 : (n : Int) ≤ s
 ·have hF : yaD ws s = ([], 70) := by unfold yaD; rw [qag (by omega)]
  rw [hF]
  clear hr hf hF hn
  go_enter func114, ntmps114
  go_wp2
  go_ret2
  exact ⟨none, 0, 0, rfl, rfl, Reads.none_, by go_grown⟩
 obtain ⟨k, rfl⟩ := qaK (by omega : 0 ≤ s)
 have hkl : k < ws.length := by omega
 have hkn : k < n := by omega
 obtain ⟨b, off, rfl, hb, hc⟩ := cfields_at hr (by omega)
 obtain ⟨x1, x2⟩ := hc k hkl
 have hki : (0 : Int) ≤ (k : Int) ∧ (k : Int) < (n : Int) := by omega
 have hgd : ws.getD k (0, 0) = ws[k] := by rw [qaw, qan hkl]; rfl
 have hfit := hf _ (qam hkl)
 have hFF : yaD ws (k : Int) = if ws[k].2 ≠ 0 then (digI ws[k].1 ws[k].2, 0) else ([], 70) := by
  unfold yaD
  rw [qap, hgd]
  by_cases hz : ws[k].2 ≠ 0
  ·rw [qah hz, qah ⟨by omega, by omega, hz⟩]
  ·rw [qag hz, qag (fun h => hz h.2.2)]
 rw [hFF]
 clear hFF hgd hc hf hr hn
 generalize ws[k].1 = fn at *
 generalize ws[k].2 = fw at *
 by_cases hz : fw = 0
 ·subst hz
  rw [qag (by simp)]
  clear hfit
  go_enter func114, ntmps114
  go_wp2
  try go_quiet (fail)
  go_wp2
  go_ret2
  exact ⟨none, 0, 0, rfl, rfl, Reads.none_, by go_grown <;> refine yaj ?_ _ <;> go_grown⟩
 ·rw [qah hz]
  have hdg := fun W => ydb fn fw W hfit
  have hdl : (digI fn fw).length = fw.toNat := yai _ _
  have hzb : (fw == (0 : Int)) = false := by simpa using hz
  clear hfit
  generalize digI fn fw = D at *
  generalize fw.toNat = m at *
  go_enter func114, ntmps114
  go_wp2
  try go_quiet (fail)
  go_wp2
  go_region_held3 (fun w' => w'.cell? ⟨b, off + k * 2, none⟩ = some (.int .i64 fn) ∧ w'.cell? ⟨b, off + k * 2 + 1, none⟩ = some (.int .i64 fw) ∧ b < w'.heap.size)
   (first | exact cheld_next (by assumption) hb1 | exact ⟨x1, x2, hb⟩)
   (first | (go_at_call 156; (with_reducible refine (hdg _).mono ?_); rintro e w1 ⟨g, rfl, hB1, hg1, hb1⟩))
  rename_i hS
  have hb1' : Below w.heap.size w w1 := ⟨hb1.os, hb1.tape, hb1.output, hb1.size, hb1.block⟩
  go_wp2
  go_ret2
  exact ⟨some ⟨g, 0, none⟩, m, m, rfl, hdl, ydS _ hB1 m (by rw [ydk]; exact hdl), hb1'⟩
def yff : List (Int × Int) → Nat → List Nat → Int → Int × Int × Int
 | [], _, _, E => (0, 0, E)
 | f :: t, s, R, E => if f.2 = 0 then yff t (s + 1) R E else if (begF R (digI f.1 f.2)).2 = true then ((s : Int), ((digI f.1 f.2).length : Int), 0) else yff t (s + 1) R (if (begF R (digI f.1 f.2)).1 = true then 4 else E)
def ydB (ws : List (Int × Int)) (L : List Nat) (p : Nat) : Int × Int × Int := yff ws 0 (L.drop p) (if p = L.length then 4 else 40)
theorem cword_at (ws : List (Int × Int)) (k : Nat) (h : k < ws.length) : yaD ws (k : Int) = if ws[k].2 ≠ 0 then (digI ws[k].1 ws[k].2, 0) else ([], 70) := by
 have hgd : ws.getD k (0, 0) = ws[k] := by rw [qaw, qan h]; rfl
 unfold yaD
 rw [qap, hgd]
 by_cases hz : ws[k].2 ≠ 0
 ·rw [qah hz, qah ⟨by omega, by omega, hz⟩]
 ·rw [qag hz, qag (fun h => hz h.2.2)]
def knum (row : List Nat) (sm : Nat → Nat → Bool) : Nat → Nat → Nat
 | 0 => fun _ => 0
 | i + 1 => fun p => if i + 1 < row.length ∧ p = row.getD (i + 1) 0 then knum row sm i (row.getD i 0) + (if sm (row.getD i 0) (row.getD (i + 1) 0) = true then 0 else 1) else knum row sm i p
def kN (row : List Nat) (sm : Nat → Nat → Bool) : Nat → Nat
 | 0 => 0
 | i + 1 => kN row sm i + (if sm (row.getD i 0) (row.getD (i + 1) 0) = true then 0 else 1)
theorem yel {l : List Nat} (k : Nat) (hk : k < l.length) : l.getD k 0 = l[k] := by rw [qaw, qan hk]; rfl
theorem knum_at {row : List Nat} (hn : row.Nodup) (sm : Nat → Nat → Bool) : ∀ (i j : Nat) (hj : j < row.length), j ≤ i → knum row sm i row[j] = kN row sm j
 | 0, j, hj, h => by
  obtain rfl : j = 0 := by omega
  rfl
 | i + 1, j, hj, h => by
  show (if i + 1 < row.length ∧ row[j] = row.getD (i + 1) 0 then knum row sm i (row.getD i 0) + (if sm (row.getD i 0) (row.getD (i + 1) 0) = true then 0 else 1) else knum row sm i row[j]) = _
  by_cases e : j = i + 1
  ·subst e
   rw [qah ⟨hj, (yel _ hj).symm⟩, yel i (by omega), knum_at hn sm i i (by omega) (qaf _)]
   show _ = kN row sm i + _
   rw [yel i (by omega)]
  ·rw [qag ?_, knum_at hn sm i j hj (by omega)]
   rintro ⟨h1, h2⟩
   rw [yel _ h1] at h2
   exact e (ybl hn hj h1 h2)
theorem kN_le (row : List Nat) (sm : Nat → Nat → Bool) : ∀ i, kN row sm i ≤ i
 | 0 => qaf _
 | i + 1 => by
  have := kN_le row sm i
  show kN row sm i + _ ≤ _
  split <;> omega
theorem yfR (row : List Nat) (sm : Nat → Nat → Bool) (i : Nat) : ∀ d, kN row sm i ≤ kN row sm (i + d)
 | 0 => qaf _
 | d + 1 => by
  have := yfR row sm i d
  show _ ≤ kN row sm (i + d) + _
  omega
def pre (s : List UInt8) (h p : Nat) : List UInt8 := (s.drop p).take h
theorem pre_len (s : List UInt8) (h p : Nat) : (pre s h p).length = min h (s.length - p) := by
 unfold pre
 rw [qar, qaz]
theorem pre_room {s : List UInt8} {h p q : Nat} (hp : p ≤ s.length) (hq : q ≤ s.length) (hne : p ≠ q) (he : pre s h p = pre s h q) : p + h ≤ s.length ∧ q + h ≤ s.length := by
 have := qbJ List.length he
 rw [pre_len, pre_len] at this
 omega
theorem yes : ∀ (h k : Nat) (x y : List UInt8), Op.bytesLess (x.take (h + k)) (y.take (h + k)) = true ↔ Op.bytesLess (x.take h) (y.take h) = true ∨ (x.take h = y.take h ∧ Op.bytesLess ((x.drop h).take k) ((y.drop h).take k) = true)
 | 0, k, x, y => by
  rw [qaE, qaX, qaX, ycB]
  simp
 | h + 1, k, [], [] => by simp [ycB]
 | h + 1, k, [], b :: y => by
  rw [show h + 1 + k = (h + k) + 1 from by omega]
  simp [Op.bytesLess]
 | h + 1, k, a :: x, [] => by
  simp [ycB]
 | h + 1, k, a :: x, b :: y => by
  rw [show h + 1 + k = (h + k) + 1 from by omega]
  simp only [qaR, qbl]
  rw [ydE, ydE, yes h k x y]
  constructor
  ·rintro (h1 | ⟨rfl, h1 | ⟨h2, h3⟩⟩)
   ·exact qat (qat h1)
   ·exact qat (qaT ⟨rfl, h1⟩)
   ·exact qaT ⟨by rw [h2], h3⟩
  ·rintro ((h1 | ⟨rfl, h1⟩) | ⟨h1, h2⟩)
   ·exact qat h1
   ·exact qaT ⟨rfl, qat h1⟩
   ·injection h1 with h3 h4
    exact qaT ⟨h3, qaT ⟨h4, h2⟩⟩
theorem pre_less (s : List UInt8) (h k p q : Nat) : Op.bytesLess (pre s (h + k) p) (pre s (h + k) q) = true ↔ Op.bytesLess (pre s h p) (pre s h q) = true ∨ (pre s h p = pre s h q ∧ Op.bytesLess (pre s k (p + h)) (pre s k (q + h)) = true) := by
 unfold pre
 rw [yes, qbA, qbA]
theorem pre_add (s : List UInt8) (h k p : Nat) : pre s (h + k) p = pre s h p ++ pre s k (p + h) := by
 unfold pre
 rw [List.take_add, qbA]
theorem pre_more {s : List UInt8} {h k p q : Nat} (h1 : pre s h p = pre s h q) (h2 : pre s k (p + h) = pre s k (q + h)) : pre s (h + k) p = pre s (h + k) q := by
 rw [pre_add, pre_add, h1, h2]
theorem pre_fst {s : List UInt8} {h k p q : Nat} (h1 : pre s (h + k) p = pre s (h + k) q) : pre s h p = pre s h q := by
 have := qbJ (List.take h) h1
 unfold pre at this ⊢
 rwa [List.take_take, List.take_take, qbh (by omega)] at this
theorem pre_snd {s : List UInt8} {h k p q : Nat} (h1 : pre s (h + k) p = pre s (h + k) q) : pre s k (p + h) = pre s k (q + h) := by
 have h2 := pre_fst h1
 rw [pre_add, pre_add, h2] at h1
 exact List.append_cancel_left h1
theorem pre_slt {s : List UInt8} {h p q : Nat} (h1 : Op.bytesLess (pre s h p) (pre s h q) = true) : slt s p q = true := by
 have := (pre_less s h s.length p q).2 (qat h1)
 unfold pre at this
 rwa [qax (by rw [qaz]; omega), qax (by rw [qaz]; omega)] at this
theorem yfQ {s : List UInt8} {h p q : Nat} (h1 : ¬ Op.bytesLess (pre s h p) (pre s h q) = true) (h2 : ¬ Op.bytesLess (pre s h q) (pre s h p) = true) : pre s h p = pre s h q := by
 by_cases e : pre s h p = pre s h q
 ·exact e
 ·rcases ygI _ _ e with h | h
  ·exact absurd h h1
  ·exact absurd h h2
structure SE (s : List UInt8) (h : Nat) (row : List Nat) (kd : Nat → Nat) : Prop where
 len : row.length = s.length + 1
 nodup : row.Nodup
 mem : ∀ p, p ∈ row ↔ p ≤ s.length
 lt : ∀ p q, p ≤ s.length → q ≤ s.length → (kd p < kd q ↔ Op.bytesLess (pre s h p) (pre s h q) = true)
 up : ∀ i j (hj : j < row.length) (hij : i < j), kd row[i] ≤ kd row[j]
 first : ∀ (h : 0 < row.length), kd row[0] = 0
 step : ∀ i (hi : i + 1 < row.length), kd row[i + 1] ≤ kd row[i] + 1
theorem SE.eq {s : List UInt8} {h : Nat} {row : List Nat} {kd : Nat → Nat} (S : SE s h row kd) (p q : Nat) (hp : p ≤ s.length) (hq : q ≤ s.length) : kd p = kd q ↔ pre s h p = pre s h q := by
 constructor
 ·intro e
  refine yfQ (fun h1 => ?_) (fun h1 => ?_)
  ·have := (S.lt p q hp hq).2 h1
   omega
  ·have := (S.lt q p hq hp).2 h1
   omega
 ·intro e
  have h1 : ¬ kd p < kd q := fun h1 => by
   have := (S.lt p q hp hq).1 h1
   rw [e, yb8] at this
   cases this
  have h2 : ¬ kd q < kd p := fun h1 => by
   have := (S.lt q p hq hp).1 h1
   rw [e, yb8] at this
   cases this
  omega
theorem SE.le {s : List UInt8} {h : Nat} {row : List Nat} {kd : Nat → Nat} (S : SE s h row kd) (i : Nat) (hi : i < row.length) : kd row[i] ≤ i := by
 induction i with
 | zero => exact Nat.le_of_eq (S.first hi)
 | succ i ih =>
  have := ih (by omega)
  have := S.step i hi
  omega
theorem SE.bound {s : List UInt8} {h : Nat} {row : List Nat} {kd : Nat → Nat} (S : SE s h row kd) (p : Nat) (hp : p ≤ s.length) : kd p ≤ s.length := by
 obtain ⟨i, hi, rfl⟩ := qaI ((S.mem p).2 hp)
 have := S.le i hi
 have := S.len
 omega
theorem SE.room {s : List UInt8} {h : Nat} {row : List Nat} {kd : Nat → Nat} (S : SE s h row kd) (p q : Nat) (hp : p ≤ s.length) (hq : q ≤ s.length) (hne : p ≠ q) (he : kd p = kd q) : p + h ≤ s.length ∧ q + h ≤ s.length :=
 pre_room hp hq hne ((S.eq p q hp hq).1 he)
theorem SE.apart {s : List UInt8} {h : Nat} {row : List Nat} {kd : Nat → Nat} (S : SE s h row kd) (ha : kd (row.getD s.length 0) = s.length) : row = sarr s := by
 have hl := S.len
 rw [yel _ (by omega)] at ha
 have hge : ∀ d (hd : d ≤ s.length), s.length - d ≤ kd (row[s.length - d]'(by omega)) := by
  intro d
  induction d with
  | zero => intro _; exact Nat.le_of_eq ha.symm
  | succ d ih =>
   intro hd
   have h1 := ih (by omega)
   have h2 := S.step (s.length - (d + 1)) (by omega)
   simp only [show s.length - (d + 1) + 1 = s.length - d from by omega] at h2
   omega
 have hk : ∀ i (hi : i < row.length), kd row[i] = i := fun i hi => by
  have h1 := hge (s.length - i) (by omega)
  simp only [show s.length - (s.length - i) = i from by omega] at h1
  have h2 := S.le i hi
  omega
 refine slay_unique (yce s) row (ssort_of fun i j hi hj hij => ?_) fun p => by rw [S.mem]; omega
 have hi' := (S.mem _).1 (qam hi)
 have hj' := (S.mem _).1 (qam hj)
 exact pre_slt ((S.lt _ _ hi' hj').1 (by rw [hk i hi, hk j hj]; exact hij))
theorem SE.more {s : List UInt8} {h : Nat} {row : List Nat} {kd : Nat → Nat} (S : SE s h row kd) (ha : kd (row.getD s.length 0) ≠ s.length) : h < s.length := by
 have hl := S.len
 rw [yel _ (by omega)] at ha
 by_cases hex : ∃ i, ∃ hi : i + 1 < row.length, kd row[i] = kd row[i + 1]
 ·obtain ⟨i, hi, he⟩ := hex
  have h1 := (S.mem _).1 (qam (show i < row.length by omega))
  have h2 := (S.mem _).1 (qam hi)
  have hne : row[i] ≠ row[i + 1] := fun e => by
   have := ybl S.nodup (by omega) hi e
   omega
  have := S.room _ _ h1 h2 hne he
  omega
 ·exfalso
  apply ha
  have hk : ∀ i (hi : i < row.length), kd row[i] = i := by
   intro i
   induction i with
   | zero => intro hi; exact S.first hi
   | succ i ih =>
    intro hi
    have h1 := ih (by omega)
    have h2 := S.step i hi
    have h3 := S.up i (i + 1) hi (by omega)
    have h4 : kd row[i] ≠ kd row[i + 1] := fun e => hex ⟨i, hi, e⟩
    omega
  exact hk _ _
theorem se_of {s : List UInt8} {h : Nat} {row : List Nat} {sm : Nat → Nat → Bool} (hl : row.length = s.length + 1) (hn : row.Nodup) (hm : ∀ p, p ∈ row ↔ p ≤ s.length)
  (hs : row.Pairwise fun p q => Op.bytesLess (pre s h q) (pre s h p) = false)
  (hsm : ∀ i (hi : i + 1 < row.length), sm row[i] row[i + 1] = true ↔ pre s h row[i] = pre s h row[i + 1]) : SE s h row (knum row sm s.length) := by
 have hk : ∀ j (hj : j < row.length), knum row sm s.length row[j] = kN row sm j := fun j hj => knum_at hn sm _ j hj (by omega)
 have hsrt : ∀ i j (hi : i < row.length) (hj : j < row.length), i < j → Op.bytesLess (pre s h row[j]) (pre s h row[i]) = false := fun i j hi hj hij => qbb.1 hs i j hi hj hij
 have e1 : ∀ i d (hi : i + d < row.length), kN row sm i = kN row sm (i + d) → pre s h row[i] = pre s h row[i + d] := by
  intro i d
  induction d with
  | zero => intro _ _; rfl
  | succ d ih =>
   intro hi he
   have h1 := yfR row sm i d
   have h2 : kN row sm (i + (d + 1)) = kN row sm (i + d) + (if sm (row.getD (i + d) 0) (row.getD (i + d + 1) 0) = true then 0 else 1) := rfl
   rw [yel _ (show i + d < row.length by omega), yel _ (show i + d + 1 < row.length by omega)] at h2
   have h3 : sm row[i + d] row[i + d + 1] = true := by
    by_cases h3 : sm row[i + d] row[i + d + 1] = true
    ·exact h3
    ·rw [qag h3] at h2
     omega
   rw [qah h3] at h2
   rw [ih (by omega) (by omega)]
   exact (hsm (i + d) (by omega)).1 h3
 have e2 : ∀ i d (hi : i + d < row.length), pre s h row[i] = pre s h row[i + d] → kN row sm i = kN row sm (i + d) := by
  intro i d
  induction d with
  | zero => intro _ _; rfl
  | succ d ih =>
   intro hi he
   have hd : d = 0 ∨ 0 < d := by omega
   have h1 : pre s h row[i] = pre s h row[i + d] := by
    rcases hd with rfl | hd
    ·rfl
    ·have h1 := hsrt i (i + d) (by omega) (by omega) (by omega)
     have h2 := hsrt (i + d) (i + (d + 1)) (by omega) hi (by omega)
     rw [← he] at h2
     exact yfQ (by rw [h2]; decide) (by rw [h1]; decide)
   have h2 : kN row sm (i + (d + 1)) = kN row sm (i + d) + (if sm (row.getD (i + d) 0) (row.getD (i + d + 1) 0) = true then 0 else 1) := rfl
   rw [yel _ (show i + d < row.length by omega), yel _ (show i + d + 1 < row.length by omega), qah ((hsm (i + d) (by omega)).2 (h1.symm.trans he))] at h2
   rw [h2, ih (by omega) h1]
   rfl
 refine ⟨hl, hn, hm, fun p q hp hq => ?_, fun i j hj hij => ?_, fun h0 => ?_, fun i hi => ?_⟩
 ·obtain ⟨i, hi, rfl⟩ := qaI ((hm p).2 hp)
  obtain ⟨j, hj, rfl⟩ := qaI ((hm q).2 hq)
  rw [hk i hi, hk j hj]
  rcases qcv i j with hij | hij | hij
  ·obtain ⟨d, rfl⟩ : ∃ d, j = i + (d + 1) := ⟨j - i - 1, by omega⟩
   have hmn := yfR row sm i (d + 1)
   constructor
   ·intro h1
    by_cases h2 : Op.bytesLess (pre s h row[i]) (pre s h row[i + (d + 1)]) = true
    ·exact h2
    ·have h3 := hsrt i (i + (d + 1)) hi hj (by omega)
     have := e2 i (d + 1) hj (yfQ h2 (by rw [h3]; decide))
     omega
   ·intro h1
    by_cases h2 : kN row sm i = kN row sm (i + (d + 1))
    ·rw [e1 i (d + 1) hj h2, yb8] at h1
     cases h1
    ·omega
  ·subst hij
   rw [yb8]
   simp
  ·obtain ⟨d, rfl⟩ := Nat.exists_eq_add_of_lt hij
   have hmn := yfR row sm j (d + 1)
   have h3 := hsrt j (j + d + 1) hj hi (by omega)
   rw [h3]
   simp only [Bool.false_eq_true, iff_false]
   rw [show j + d + 1 = j + (d + 1) from by omega]
   omega
 ·rw [hk i (by omega), hk j hj]
  obtain ⟨d, rfl⟩ := Nat.exists_eq_add_of_lt hij
  exact yfR row sm i (d + 1)
 ·rw [hk 0 h0]
  rfl
 ·rw [hk _ hi, hk i (by omega)]
  show kN row sm i + _ ≤ _
  split <;> omega
theorem slen_of {l : List Nat} {n : Nat} (hn : l.Nodup) (hm : ∀ p, p ∈ l ↔ p < n) : l.length = n := by
 have : l.Perm (List.range n) := by
  rw [List.perm_iff_count]
  intro p
  rw [hn.count, List.nodup_range.count]
  by_cases h : p < n
  ·rw [qah ((hm p).2 h), qah (qbk.2 h)]
  ·rw [qag fun h2 => h ((hm p).1 h2), qag fun h2 => h (qbk.1 h2)]
 have h2 := this.length_eq
 rwa [qaL] at h2
def yaT (s : List UInt8) (p : Nat) : Nat := (s.getD p 0).toNat
def frow (s : List UInt8) (M : Nat) : List Nat := s.length :: bks (yaT s) (List.range s.length) M
def yfc (s : List UInt8) (a b : Nat) : Bool := decide (a < s.length) && (s.getD a 0 == s.getD b 0)
theorem pre_one {s : List UInt8} {p : Nat} (h : p < s.length) : pre s 1 p = [s[p]] := by
 unfold pre
 rw [qa3 h]
 rfl
theorem pre_end (s : List UInt8) (h : Nat) : pre s h s.length = [] := by
 unfold pre
 rw [qc3]
 simp
theorem fkey_at {s : List UInt8} {p : Nat} (h : p < s.length) : yaT s p = s[p].toNat := by
 unfold yaT
 rw [qaw, qan h]
 rfl
theorem se_first (s : List UInt8) (M : Nat) (hM : ∀ p ∈ List.range s.length, yaT s p < M) : SE s 1 (frow s M) (knum (frow s M) (yfc s) s.length) := by
 have hmem : ∀ p, p ∈ bks (yaT s) (List.range s.length) M ↔ p < s.length := fun p => by
  rw [bks_mem, qbk]
  exact ⟨fun h => h.1, fun h => ⟨h, hM p (qbk.2 h)⟩⟩
 have hp : (bks (yaT s) (List.range s.length) M).Pairwise fun p q => yaT s p < yaT s q ∨ (yaT s p = yaT s q ∧ p < q) := bks_pair List.pairwise_lt_range M
 have hnd : (bks (yaT s) (List.range s.length) M).Nodup := List.Pairwise.imp (fun {a b} h => by
  rintro rfl
  omega) hp
 have hm : ∀ p, p ∈ frow s M ↔ p ≤ s.length := fun p => by
  unfold frow
  rw [qa9, hmem]
  omega
 have hn : (frow s M).Nodup := List.nodup_cons.2 ⟨fun h => by have := (hmem _).1 h; omega, hnd⟩
 have hs : (frow s M).Pairwise fun p q => Op.bytesLess (pre s 1 q) (pre s 1 p) = false := by
  refine qa5.2 ⟨fun q hq => by rw [pre_end, ycB], ?_⟩
  refine qbj (fun {a b} ha hb hab => ?_) hp
  have ha' := (hmem a).1 ha
  have hb' := (hmem b).1 hb
  rw [fkey_at ha', fkey_at hb'] at hab
  rw [pre_one ha', pre_one hb']
  cases h : Op.bytesLess [s[b]] [s[a]] with
  | false => rfl
  | true =>
   rw [ydE, ycB] at h
   simp at h
   omega
 refine se_of (slen_of hn fun p => by rw [hm]; omega) hn hm hs fun i hi => ?_
 have h1 := (hm _).1 (qam (show i < (frow s M).length by omega))
 have h2 : (frow s M)[i + 1] < s.length := by
  have := (hm _).1 (qam hi)
  have hne : (frow s M)[i + 1] ≠ s.length := fun e => by
   have h0 : (frow s M)[0]'(by omega) = s.length := rfl
   have := ybl hn hi (show 0 < (frow s M).length by omega) (e.trans h0.symm)
   omega
  omega
 generalize (frow s M)[i] = a at *
 generalize (frow s M)[i + 1] = b at *
 unfold yfc
 rw [qb6, qbq, beq_iff_eq]
 rw [pre_one h2]
 by_cases e : a < s.length
 ·rw [pre_one e, qaw, qan e, qaw, qan h2]
  simp [e]
 ·obtain rfl : a = s.length := by omega
  rw [pre_end]
  simp
def yb2 (n h : Nat) : List Nat := List.range' (n + 1 - h) h
def yaG (row : List Nat) (h : Nat) : List Nat := (row.filter fun p => decide (h ≤ p)).map fun p => p - h
def ybW (row : List Nat) (n h : Nat) : List Nat := yb2 n h ++ yaG row h
def yfX (kd : Nat → Nat) (h a b : Nat) : Bool := (kd a == kd b) && (kd (a + h) == kd (b + h))
theorem ycV (n h p : Nat) (hh : h ≤ n) : p ∈ yb2 n h ↔ n < p + h ∧ p ≤ n := by
 unfold yb2
 rw [List.mem_range'_1]
 omega
theorem yd9 (row : List Nat) (h p : Nat) : p ∈ yaG row h ↔ p + h ∈ row := by
 unfold yaG
 rw [qbM]
 constructor
 ·rintro ⟨q, hq, rfl⟩
  rw [qaS, qbq] at hq
  rw [Nat.sub_add_cancel hq.2]
  exact hq.1
 ·intro hp
  exact ⟨p + h, qaS.2 ⟨hp, by simp⟩, by omega⟩
theorem se_next {s : List UInt8} {h : Nat} {row : List Nat} {kd : Nat → Nat} (S : SE s h row kd) (hh : h ≤ s.length) (h1 : 1 ≤ h) (M : Nat) (hM : ∀ p ∈ ybW row s.length h, kd p < M) :
  SE s (h + h) (bks kd (ybW row s.length h) M) (knum (bks kd (ybW row s.length h) M) (yfX kd h) s.length) := by
 have hm0 : ∀ p, p ∈ ybW row s.length h ↔ p ≤ s.length := fun p => by
  unfold ybW
  rw [qbf, ycV _ _ _ hh, yd9, S.mem]
  omega
 have hp0 : (ybW row s.length h).Pairwise fun p q => p ≠ q ∧ (p + h ≤ s.length → q + h ≤ s.length → kd (p + h) ≤ kd (q + h)) := by
  refine qa2.2 ⟨?_, ?_, fun a ha b hb => ?_⟩
  ·refine qbj (R := fun a b => a < b) (fun {a b} ha hb hab => ⟨by omega, fun h2 => ?_⟩) List.pairwise_lt_range'
   have := (ycV _ _ _ hh).1 ha
   omega
  ·unfold yaG
   refine List.pairwise_map.2 ?_
   have hrow : row.Pairwise fun p q => p ≠ q ∧ kd p ≤ kd q := qbb.2 fun i j hi hj hij => ⟨fun e => by have := ybl S.nodup hi hj e; omega, S.up i j hj hij⟩
   refine qbj (fun {a b} ha hb hab => ?_) (List.Pairwise.sublist (List.filter_sublist (p := fun p => decide (h ≤ p))) hrow)
   rw [qaS, qbq] at ha hb
   refine ⟨fun e => hab.1 (by omega), fun _ _ => ?_⟩
   rw [Nat.sub_add_cancel ha.2, Nat.sub_add_cancel hb.2]
   exact hab.2
  ·have h2 := (ycV _ _ _ hh).1 ha
   have h3 := (S.mem _).1 ((yd9 _ _ _).1 hb)
   exact ⟨fun e => by omega, fun h4 => by omega⟩
 have hm : ∀ p, p ∈ bks kd (ybW row s.length h) M ↔ p ≤ s.length := fun p => by
  rw [bks_mem, hm0]
  exact ⟨fun h => h.1, fun h => ⟨h, hM p ((hm0 p).2 h)⟩⟩
 have hp := bks_pair (key := kd) hp0 M
 have hn : (bks kd (ybW row s.length h) M).Nodup := List.Pairwise.imp (fun {a b} h => by
  rintro rfl
  rcases h with h | ⟨_, h, _⟩
  ·omega
  ·exact h rfl) hp
 have hs : (bks kd (ybW row s.length h) M).Pairwise fun p q => Op.bytesLess (pre s (h + h) q) (pre s (h + h) p) = false := by
  refine qbj (fun {a b} ha hb hab => ?_) hp
  have ha' := (hm a).1 ha
  have hb' := (hm b).1 hb
  cases h5 : Op.bytesLess (pre s (h + h) b) (pre s (h + h) a) with
  | false => rfl
  | true =>
   exfalso
   rw [pre_less, ← S.lt b a hb' ha', ← S.eq b a hb' ha'] at h5
   rcases hab with h2 | ⟨h2, h3, h4⟩
   ·rcases h5 with h5 | ⟨h5, _⟩ <;> omega
   ·rcases h5 with h5 | ⟨_, h5⟩
    ·omega
    ·have hr := S.room a b ha' hb' h3 h2
     rw [← S.lt (b + h) (a + h) hr.2 hr.1] at h5
     have := h4 hr.1 hr.2
     omega
 refine se_of (slen_of hn fun p => by rw [hm]; omega) hn hm hs fun i hi => ?_
 have ha := (hm _).1 (qam (show i < (bks kd (ybW row s.length h) M).length by omega))
 have hb := (hm _).1 (qam hi)
 have hne : (bks kd (ybW row s.length h) M)[i] ≠ (bks kd (ybW row s.length h) M)[i + 1] := fun e => by
  have := ybl hn (by omega) hi e
  omega
 generalize (bks kd (ybW row s.length h) M)[i] = a at *
 generalize (bks kd (ybW row s.length h) M)[i + 1] = b at *
 unfold yfX
 rw [qb6, beq_iff_eq, beq_iff_eq]
 constructor
 ·rintro ⟨h2, h3⟩
  have hr := S.room a b ha hb hne h2
  exact pre_more ((S.eq a b ha hb).1 h2) ((S.eq _ _ hr.1 hr.2).1 h3)
 ·intro h2
  have h3 := pre_fst h2
  have hr := pre_room ha hb hne h3
  exact ⟨(S.eq a b ha hb).2 h3, (S.eq _ _ hr.1 hr.2).2 (pre_snd h2)⟩
def ygx (n k : Nat) : List Int := rng n fun j => if j < k then (j : Int) else 0
theorem supto_zero (n : Nat) : ygx n 0 = List.replicate n 0 := by
 rw [rng_zero]
 exact rng_ext fun j _ => qag (by omega)
theorem supto_step (n k : Nat) : (ygx n k).set k (k : Int) = ygx n (k + 1) := by
 refine ygh _ _ fun j _ => ?_
 by_cases e : j = k
 ·subst e
  rw [qah rfl, qah (by omega)]
 ·rw [qag e]
  by_cases h : j < k
  ·rw [qah h, qah (by omega)]
  ·rw [qag h, qag (by omega)]
theorem supto_all (n : Nat) : ygx n n = splc (List.range n) := by
 apply qbR
 ·rw [yao, qaL]
  exact ybE _ _
 ·intro j h1 h2
  rw [yfo, List.getElem_range]
  have : j < n := by
   have := ybE n (fun j => if j < n then (j : Int) else 0)
   have h3 : j < (rng n fun j => if j < n then (j : Int) else 0).length := h1
   omega
  exact (ycp _ _ _ h1).trans (qah this)
theorem s_upto_any (n : Nat) (w : World) (hm : n ≤ 1000001) :
  Calls prog 159 #[.int .i64 (n : Int)] w fun e w' => e = .returned (.slice (some ⟨w.heap.size, 0, none⟩) n n) ∧ Blk w' w.heap.size 3 (ints (splc (List.range n))).toArray ∧ Below w.heap.size w w' := by
 have hni : (n : Int) ≤ 1000001 := by omega
 have hmk := fun w => ydm (n : Int) n rfl (by omega) w
 rw [← supto_zero] at hmk
 have HB0 := qaa (Blk.new w 3 (ints (ygx n 0)).toArray)
 have HO0 := qaa ((qaj w.heap.size w).alloc (qaf _) (.cells (ints (ygx n 0)).toArray 3))
 have Hset : Hid (∀ k, (ints (ygx n k)).toArray.setIfInBounds k (.int .i64 (k : Int)) = (ints (ygx n (k + 1))).toArray) := qaa fun k => by rw [yaH, supto_step]
 have Hlen : Hid (∀ k, (ygx n k).length = n) := qaa fun k => ybE _ _
 have Hall := qaa (supto_all n)
 generalize hg : w.heap.size = g at *
 go_enter func159, ntmps159
 go_wp2
 go_loopw [9] (fun i wr => ∃ k : Nat, k ≤ n ∧ i = .int .i64 k ∧ Hid (Blk wr g 3 (ints (ygx n k)).toArray) ∧ Hid (Below g w wr)) (fun i _ => n - (intOf i).toNat)
 case atStart => exact ⟨0, by omega, rfl, HB0, HO0⟩
 case round =>
  obtain ⟨k, hk, rfl, HB, HO⟩ := hrel
  clear HB0 HO0 hmk
  by_cases hlt : k < n
  ·have hki : (k : Int) < (n : Int) := by omega
   have x1 := yaI HB.out k (by rw [Hlen.out k]; exact hlt)
   have x2 := HB.out.frozen k
   have hgl := HB.out.lt
   have Hs := qaa (Hset.out k)
   generalize (ygx n k)[k]'(by rw [Hlen.out k]; exact hlt) = v0 at x1
   go_wp2
   go_roundw
   case rel => exact ⟨k + 1, by omega, iv (by omega), qaa (by rw [← Hs.out]; exact HB.out.set_ k _), qaa (HO.out.setCell (p := ⟨g, k, none⟩) (qaf _) _)⟩
   case measure => simp only [intOf]; omega
  ·obtain rfl : k = n := by omega
   have hii : ¬ (k : Int) < (k : Int) := by omega
   have HF : Hid (Blk wr g 3 (ints (splc (List.range k))).toArray) := qaa (by rw [← Hall.out]; exact HB.out)
   go_wp2
   go_ret
   exact ⟨rfl, HF.out, HO.out⟩
def KRow (w : World) (k : IntKind) (key : Nat → Nat) (B : Option Addr) (m : Nat) (row : List Nat) : Prop :=
 ∀ p ∈ row, p < m ∧ ∃ b off, B = some ⟨b, off, none⟩ ∧ b < w.heap.size ∧ ∀ W, Below w.heap.size w W → W.cell? ⟨b, off + p, none⟩ = some (.int k (key p : Int))
theorem splc_at (l : List Nat) (i : Nat) (h : i < l.length) : (ints (splc l))[i]? = some (.int .i64 ((l[i] : Nat) : Int)) := by
 rw [yak _ i (by rw [yao]; exact h), yfo]
theorem ycO {w : World} {A : Option Addr} {n : Nat} {row : List Nat} (hn : row.length = n) (hr : Reads w w.heap.size 1 A n (ints (splc row))) : ∀ W, Below w.heap.size w W → ∀ k (hk : k < row.length), ∃ b off, A = some ⟨b, off, none⟩ ∧ b < w.heap.size ∧ W.cell? ⟨b, off + k, none⟩ = some (.int .i64 ((row[k] : Nat) : Int)) := fun W hW k hk => by
 obtain ⟨b, off, e, hb, hc⟩ := hr.2 (by omega)
 exact ⟨b, off, e, hb, (hW.cell (p := ⟨b, off + k, none⟩) hb).trans (hc k _ (splc_at row k hk))⟩
theorem KRow.at {w : World} {K : IntKind} {key : Nat → Nat} {B : Option Addr} {m : Nat} {row : List Nat} (h : KRow w K key B m row) (hkey : ∀ p ∈ row, key p ≤ 1000000) : ∀ W, Below w.heap.size w W → ∀ k (hk : k < row.length), row[k] < m ∧ key row[k] ≤ 1000000 ∧ key row[k] ≤ bmax key row row.length ∧ ∃ b off, B = some ⟨b, off, none⟩ ∧ b < w.heap.size ∧ W.cell? ⟨b, off + row[k], none⟩ = some (.int K (key row[k] : Int)) := fun W hW k hk => by
 obtain ⟨h1, b, off, e, hb, hc⟩ := h _ (qam hk)
 exact ⟨h1, hkey _ (qam hk), by have := yf4 key row _ (qam hk); omega, b, off, e, hb, hc W hW⟩
theorem bmax_step (key : Nat → Nat) (row : List Nat) (k : Nat) (hk : k < row.length) : bmax key row (k + 1) = max (bmax key row k) (key row[k]) := by
 show max (bmax key row k) (key (row.getD k 0)) = _
 rw [yel k hk]
theorem s_sorted_int (row : List Nat) (key : Nat → Nat) (A B : Option Addr) (n c m d : Nat) (w : World) (hn : row.length = n) (hm : n ≤ 1000001) (hkey : ∀ p ∈ row, key p ≤ 1000000) (hr : Reads w w.heap.size 1 A n (ints (splc row))) (hk : KRow w .i64 key B m row) :
  Calls prog 162 #[.slice A n c, .slice B m d] w fun e w' => ∃ g M, e = .returned (.slice (some ⟨g, 0, none⟩) n n) ∧ w.heap.size ≤ g ∧ (∀ p ∈ row, key p < M) ∧ Blk w' g 3 (ints (splc (bks key row M))).toArray ∧ Below w.heap.size w w' := by
 have hni : (n : Int) ≤ 1000001 := by omega
 have Hrow := qaa (ycO hn hr)
 have Hkey := qaa (hk.at fun p hp => qa7 (hkey p hp) (by omega))
 have Hmx := qaa (bmax_le key row 1000000 hkey)
 have Hall := qaa (yf4 key row)
 have Hstep := qaa (bmax_step key row)
 have Hn := qaa hn
 have HB0 := qaa (qaj w.heap.size w)
 have Hg0 : Hid (∀ W : World, Below w.heap.size w W → w.heap.size ≤ W.heap.size) := qaa fun W h => h.size
 clear hr hk hkey hn
 go_enter func162, ntmps162
 go_wp2
 go_loop [5, 18] (fun mx i => ∃ k : Nat, k ≤ n ∧ i = .int .i64 k ∧ mx = .int .i64 (bmax key row k : Nat)) (fun _ i => n - (intOf i).toNat)
 case atStart => exact ⟨0, by omega, rfl, rfl⟩
 case round =>
  obtain ⟨k, hk, rfl, rfl⟩ := hrel
  by_cases hlt : k < n
  ·have hki : (0 : Int) ≤ (k : Int) ∧ (k : Int) < (n : Int) := by omega
   have hkl : k < row.length := by rw [Hn.out]; exact hlt
   obtain ⟨b, off, rfl, hbl, x1⟩ := Hrow.out w HB0.out k hkl
   obtain ⟨hp, hx, _, b2, off2, rfl, hbl2, x2⟩ := Hkey.out w HB0.out k hkl
   have Hs := qaa (Hstep.out k hkl)
   generalize row[k] = p at *
   generalize key p = x at *
   generalize bmax key row k = mx at *
   have hpi : (0 : Int) ≤ (p : Int) ∧ (p : Int) < (m : Int) := by omega
   by_cases hgt : mx < x
   ·have hgi : (mx : Int) < (x : Int) := by omega
    go_wp2
    go_round
    case rel => exact ⟨k + 1, by omega, iv (by omega), iv (by rw [Hs.out]; omega)⟩
    case measure => simp only [intOf]; omega
   ·have hgi : ¬ (mx : Int) < (x : Int) := by omega
    go_wp2
    go_round
    case rel => exact ⟨k + 1, by omega, iv (by omega), iv (by rw [Hs.out]; omega)⟩
    case measure => simp only [intOf]; omega
  ·obtain rfl : k = n := by omega
   have hmx := Hmx.out k (by rw [Hn.out]; exact qaf _)
   have Hmxn : Hid (bmax key row row.length = bmax key row k) := qaa (by rw [Hn.out])
   generalize hMX : bmax key row k = mx at *
   have hmk := fun w => ydm ((mx : Int) + 2) (mx + 2) (by omega) (by omega) w
   rw [← bn1_zero key row mx] at hmk
   have hmxi : (0 : Int) ≤ (mx : Int) ∧ (mx : Int) ≤ 1000000 := by omega
   have HB1 := qaa (Blk.new w 3 (ints (bn1 key row mx 0)).toArray)
   have HO1 := qaa ((qaj w.heap.size w).alloc (qaf _) (.cells (ints (bn1 key row mx 0)).toArray 3))
   have hii : ¬ (k : Int) < (k : Int) := by omega
   generalize hg : w.heap.size = g at *
   go_wp2
   clear hmk
   go_loopw [34] (fun i wr => ∃ j : Nat, j ≤ k ∧ i = .int .i64 j ∧ Hid (Blk wr g 3 (ints (bn1 key row mx j)).toArray) ∧ Hid (Below g w wr)) (fun i _ => k - (intOf i).toNat)
   case atStart => exact ⟨0, by omega, rfl, HB1, HO1⟩
   case round =>
    obtain ⟨j, hj, rfl, HB, HO⟩ := hrel
    clear HB1 HO1
    by_cases hlt : j < k
    ·have hki : (0 : Int) ≤ (j : Int) ∧ (j : Int) < (k : Int) := by omega
     have hkl : j < row.length := by rw [Hn.out]; exact hlt
     obtain ⟨b, off, rfl, hbl, x1⟩ := Hrow.out wr HO.out j hkl
     obtain ⟨hp, hx, hxm, b2, off2, rfl, hbl2, x2⟩ := Hkey.out wr HO.out j hkl
     rw [Hmxn.out] at hxm
     have hlen : key row[j] + 1 < (bn1 key row mx j).length := by rw [bn1_len]; omega
     have x3 := yaI HB.out (key row[j] + 1) hlen
     rw [bn1_get] at x3
     have x4 := HB.out.frozen (key row[j] + 1)
     have hc := qa7 (ybR key row j (key row[j])) (bcnt_le key row (key row[j]))
     rw [Hn.out] at hc
     have Hs := qaa (bn1_step key row mx j hkl)
     have hgl := HB.out.lt
     clear hlen
     generalize bcnt key (row.take j) (key row[j]) = cc at *
     generalize hpp : row[j] = p at *
     generalize key p = x at *
     have hpi : (0 : Int) ≤ (p : Int) ∧ (p : Int) < (m : Int) := by omega
     have hci : (0 : Int) ≤ (cc : Int) ∧ (cc : Int) ≤ 1000001 := by omega
     have hxi : (0 : Int) ≤ (x : Int) ∧ (x : Int) ≤ (mx : Int) := by omega
     clear hpp
     go_wp2
     go_roundw
     case rel => exact ⟨j + 1, by omega, iv (by omega), qaa (by rw [← Hs.out, ← yaH]; exact HB.out.set_ (x + 1) _), qaa (HO.out.setCell (p := ⟨g, x + 1, none⟩) (qaf _) _)⟩
     case measure => simp only [intOf]; omega
    ·obtain rfl : j = k := by omega
     have hii : ¬ (j : Int) < (j : Int) := by omega
     have HB2 : Hid (Blk wr g 3 (ints (bn2 key row mx 0)).toArray) := qaa (by rw [← bn1_all, Hn.out]; exact HB.out)
     have HO2 := qaa HO.out
     clear HB HO
     go_wp2
     go_loopw [50] (fun i W => ∃ q : Nat, q ≤ mx ∧ i = .int .i64 q ∧ Hid (Blk W g 3 (ints (bn2 key row mx q)).toArray) ∧ Hid (Below g w W)) (fun i _ => mx - (intOf i).toNat)
     case atStart => exact ⟨0, by omega, rfl, HB2, HO2⟩
     case round =>
      obtain ⟨q, hq, rfl, HB, HO⟩ := hrel
      clear HB2 HO2
      by_cases hlt : q < mx
      ·have hki : (0 : Int) ≤ (q : Int) ∧ (q : Int) < (mx : Int) := by omega
       have x1 := yaI HB.out (q + 1) (by rw [bn2_len]; omega)
       have x2 := yaI HB.out q (by rw [bn2_len]; omega)
       rw [bn2_get1] at x1
       rw [bn2_get0] at x2
       have x4 := HB.out.frozen (q + 1)
       have hc := bcnt_le key row q
       have hc2 := bsum_le key row q
       rw [Hn.out] at hc hc2
       have Hs := qaa (bn2_step key row mx q)
       have hgl := HB.out.lt
       generalize bcnt key row q = cc at *
       generalize bsum key row q = cs at *
       have hci : (0 : Int) ≤ (cc : Int) ∧ (cc : Int) ≤ 1000001 ∧ (0 : Int) ≤ (cs : Int) ∧ (cs : Int) ≤ 1000001 := by omega
       go_wp2
       have hw1 : IntKind.i64.wrap ((q : Int) + 1) = (q : Int) + 1 := by rw [qai]; omega
       have hw2 : IntKind.i64.wrap ((cc : Int) + (cs : Int)) = (cc : Int) + (cs : Int) := by rw [qai]; omega
       have hb1 : 0 ≤ (q : Int) + 1 ∧ (q : Int) + 1 < (mx : Int) + 2 := by omega
       have hb0 : 0 ≤ (q : Int) ∧ (q : Int) < (mx : Int) + 2 := by omega
       refine qbs 11 (by kernel_rfl) (by kernel_rfl) ?_
       simp only [qaR, qaX, qbl, qbt]
       change wpStill _ _ (World.drew _) (fun a' => wpList _ _ _ _ a' (World.drew _)) _ _
       repeat still_step
       refine qcp ?_
       go_wp2
       go_roundw
       case rel => exact ⟨q + 1, by omega, iv (by omega), qaa (by rw [← Hs.out, ← yaH]; exact HB.out.drew.set_ (q + 1) _), qaa (HO.out.drew.setCell (p := ⟨g, q + 1, none⟩) (qaf _) _)⟩
       case measure => simp only [intOf]; omega
      ·obtain rfl : q = mx := by omega
       have hii2 : ¬ (q : Int) < (q : Int) := by omega
       have HB3 : Hid (Blk wr g 3 (ints (bn3 key row q 0)).toArray) := qaa (by rw [← bn2_all]; exact HB.out)
       have HO3 := qaa HO.out
       have hmk2 := fun w => ydm (j : Int) j rfl (by omega) w
       have e2 : List.replicate j 0 = bmid key row 0 (q + 1) := by
        rw [yfS, ycX key row (q + 1) (fun p hp => by have := Hall.out p hp; rw [Hmxn.out] at this; exact this), Hn.out]
       rw [e2] at hmk2
       clear HB HO
       have hgl := HB3.out.lt
       have HN := qaa (Blk.new wr 3 (ints (bmid key row 0 (q + 1))).toArray)
       have HB4 := qaa (HB3.out.alloc (.cells (ints (bmid key row 0 (q + 1))).toArray 3))
       have HO4 := qaa (HO3.out.alloc (Nat.le_of_lt hgl) (.cells (ints (bmid key row 0 (q + 1))).toArray 3))
       generalize hg2 : wr.heap.size = g2 at *
       clear HB3 HO3
       go_wp2
       clear hmk2 e2
       go_loopw [70] (fun i V => ∃ u : Nat, u ≤ j ∧ i = .int .i64 u ∧ Hid (Blk V g 3 (ints (bn3 key row q u)).toArray) ∧ Hid (Blk V g2 3 (ints (bmid key row u (q + 1))).toArray) ∧ Hid (Below g w V)) (fun i _ => j - (intOf i).toNat)
       case atStart => exact ⟨0, by omega, rfl, HB4, HN, HO4⟩
       case round =>
        obtain ⟨u, hu, rfl, HB, HC, HO⟩ := hrel
        clear HB4 HN HO4
        by_cases hlt : u < j
        ·have hki : (0 : Int) ≤ (u : Int) ∧ (u : Int) < (j : Int) := by omega
         have hkl : u < row.length := by rw [Hn.out]; exact hlt
         obtain ⟨b, off, rfl, hbl, x1⟩ := Hrow.out _ HO.out u hkl
         obtain ⟨hp, hx, hxm, b2, off2, rfl, hbl2, x2⟩ := Hkey.out _ HO.out u hkl
         rw [Hmxn.out] at hxm
         have hpl := bplace_lt key row u hkl
         rw [Hn.out] at hpl
         have x3 := yaI HB.out (key row[u]) (by rw [bn3_len]; omega)
         rw [bn3_get key row q u _ hxm] at x3
         have x4 := HB.out.frozen (key row[u])
         have hml : (bmid key row u (q + 1)).length = j := by
          rw [yfq, ycX key row (q + 1) (fun p hp => by have := Hall.out p hp; rw [Hmxn.out] at this; exact this), Hn.out]
         have x5 := yaI HC.out (bsum key row (key row[u]) + bcnt key (row.take u) (key row[u])) (by rw [hml]; exact hpl)
         have x6 := HC.out.frozen (bsum key row (key row[u]) + bcnt key (row.take u) (key row[u]))
         have Hs := qaa (bn3_step key row q u hkl hxm)
         have Hs2 := qaa (ygG key row u hkl (q + 1) (by omega))
         have hgl := HB.out.lt
         have hgl2 := HC.out.lt
         generalize (bmid key row u (q + 1))[bsum key row (key row[u]) + bcnt key (row.take u) (key row[u])]'(by rw [hml]; exact hpl) = vv at x5
         generalize bsum key row (key row[u]) + bcnt key (row.take u) (key row[u]) = at_ at *
         generalize hpp : row[u] = p at *
         generalize key p = x at *
         have hpi : (0 : Int) ≤ (p : Int) ∧ (p : Int) < (m : Int) := by omega
         have hci : (0 : Int) ≤ (at_ : Int) ∧ (at_ : Int) < (j : Int) := by omega
         have hxi : (0 : Int) ≤ (x : Int) ∧ (x : Int) ≤ (q : Int) := by omega
         have hne : g ≠ g2 := by omega
         have hne2 : g2 ≠ g := by omega
         clear hpp hml
         go_wp2
         go_roundw
         case rel => exact ⟨u + 1, by omega, iv (by omega), qaa (by rw [← Hs.out, ← yaH]; exact (HB.out.far (p := ⟨g2, at_, none⟩) hne _).set_ x _), qaa (by rw [← Hs2.out, ← yaH]; exact (HC.out.set_ at_ _).far (p := ⟨g, x, none⟩) hne2 _), qaa ((HO.out.setCell (p := ⟨g2, at_, none⟩) (by show g ≤ g2; omega) _).setCell (p := ⟨g, x, none⟩) (qaf _) _)⟩
         case measure => simp only [intOf]; omega
        ·obtain rfl : u = j := by omega
         have hii3 : ¬ (u : Int) < (u : Int) := by omega
         have HF : Hid (Blk wr g2 3 (ints (splc (bks key row (q + 1)))).toArray) := qaa (by rw [← bmid_all, Hn.out]; exact HC.out)
         have HM : Hid (∀ p ∈ row, key p < q + 1) := qaa fun p hp => by have := Hall.out p hp; rw [Hmxn.out] at this; exact this
         have Hgg : Hid (g ≤ g2) := qaa (by omega)
         clear HB HC
         go_wp2
         go_ret
         first | exact ⟨g2, rfl, Hgg.out, q + 1, HM.out, HF.out, HO.out⟩ | exact ⟨g2, q + 1, rfl, Hgg.out, HM.out, HF.out, HO.out⟩
theorem yaC (row : List Nat) (key : Nat → Nat) (A B : Option Addr) (n c m d : Nat) (w : World) (hn : row.length = n) (hm : n ≤ 1000001) (hkey : ∀ p ∈ row, key p ≤ 255) (hr : Reads w w.heap.size 1 A n (ints (splc row))) (hk : KRow w .u8 key B m row) :
  Calls prog 158 #[.slice A n c, .slice B m d] w fun e w' => ∃ g M, e = .returned (.slice (some ⟨g, 0, none⟩) n n) ∧ w.heap.size ≤ g ∧ (∀ p ∈ row, key p < M) ∧ Blk w' g 3 (ints (splc (bks key row M))).toArray ∧ Below w.heap.size w w' := by
 have hni : (n : Int) ≤ 1000001 := by omega
 have Hrow := qaa (ycO hn hr)
 have Hkey := qaa (hk.at fun p hp => qa7 (hkey p hp) (by omega))
 have Hmx := qaa (bmax_le key row 255 hkey)
 have Hall := qaa (yf4 key row)
 have Hstep := qaa (bmax_step key row)
 have Hn := qaa hn
 have HB0 := qaa (qaj w.heap.size w)
 have Hg0 : Hid (∀ W : World, Below w.heap.size w W → w.heap.size ≤ W.heap.size) := qaa fun W h => h.size
 clear hr hk hkey hn
 go_enter func158, ntmps158
 go_wp2
 go_loop [5, 18] (fun mx i => ∃ k : Nat, k ≤ n ∧ i = .int .i64 k ∧ mx = .int .u8 (bmax key row k : Nat)) (fun _ i => n - (intOf i).toNat)
 case atStart => exact ⟨0, by omega, rfl, rfl⟩
 case round =>
  obtain ⟨k, hk, rfl, rfl⟩ := hrel
  by_cases hlt : k < n
  ·have hki : (0 : Int) ≤ (k : Int) ∧ (k : Int) < (n : Int) := by omega
   have hkl : k < row.length := by rw [Hn.out]; exact hlt
   obtain ⟨b, off, rfl, hbl, x1⟩ := Hrow.out w HB0.out k hkl
   obtain ⟨hp, hx, _, b2, off2, rfl, hbl2, x2⟩ := Hkey.out w HB0.out k hkl
   have Hs := qaa (Hstep.out k hkl)
   generalize row[k] = p at *
   generalize key p = x at *
   generalize bmax key row k = mx at *
   have hpi : (0 : Int) ≤ (p : Int) ∧ (p : Int) < (m : Int) := by omega
   by_cases hgt : mx < x
   ·have hgi : (mx : Int) < (x : Int) := by omega
    go_wp2
    go_round
    case rel => exact ⟨k + 1, by omega, iv (by omega), iv (by rw [Hs.out]; omega)⟩
    case measure => simp only [intOf]; omega
   ·have hgi : ¬ (mx : Int) < (x : Int) := by omega
    go_wp2
    go_round
    case rel => exact ⟨k + 1, by omega, iv (by omega), iv (by rw [Hs.out]; omega)⟩
    case measure => simp only [intOf]; omega
  ·obtain rfl : k = n := by omega
   have hmx := Hmx.out k (by rw [Hn.out]; exact qaf _)
   have Hmxn : Hid (bmax key row row.length = bmax key row k) := qaa (by rw [Hn.out])
   generalize hMX : bmax key row k = mx at *
   have hmk := fun w => ydm ((mx : Int) + 2) (mx + 2) (by omega) (by omega) w
   rw [← bn1_zero key row mx] at hmk
   have hmxi : (0 : Int) ≤ (mx : Int) ∧ (mx : Int) ≤ 255 := by omega
   have HB1 := qaa (Blk.new w 3 (ints (bn1 key row mx 0)).toArray)
   have HO1 := qaa ((qaj w.heap.size w).alloc (qaf _) (.cells (ints (bn1 key row mx 0)).toArray 3))
   have hii : ¬ (k : Int) < (k : Int) := by omega
   generalize hg : w.heap.size = g at *
   go_wp2
   clear hmk
   go_loopw [35] (fun i wr => ∃ j : Nat, j ≤ k ∧ i = .int .i64 j ∧ Hid (Blk wr g 3 (ints (bn1 key row mx j)).toArray) ∧ Hid (Below g w wr)) (fun i _ => k - (intOf i).toNat)
   case atStart => exact ⟨0, by omega, rfl, HB1, HO1⟩
   case round =>
    obtain ⟨j, hj, rfl, HB, HO⟩ := hrel
    clear HB1 HO1
    by_cases hlt : j < k
    ·have hki : (0 : Int) ≤ (j : Int) ∧ (j : Int) < (k : Int) := by omega
     have hkl : j < row.length := by rw [Hn.out]; exact hlt
     obtain ⟨b, off, rfl, hbl, x1⟩ := Hrow.out wr HO.out j hkl
     obtain ⟨hp, hx, hxm, b2, off2, rfl, hbl2, x2⟩ := Hkey.out wr HO.out j hkl
     rw [Hmxn.out] at hxm
     have hlen : key row[j] + 1 < (bn1 key row mx j).length := by rw [bn1_len]; omega
     have x3 := yaI HB.out (key row[j] + 1) hlen
     rw [bn1_get] at x3
     have x4 := HB.out.frozen (key row[j] + 1)
     have hc := qa7 (ybR key row j (key row[j])) (bcnt_le key row (key row[j]))
     rw [Hn.out] at hc
     have Hs := qaa (bn1_step key row mx j hkl)
     have hgl := HB.out.lt
     clear hlen
     generalize bcnt key (row.take j) (key row[j]) = cc at *
     generalize hpp : row[j] = p at *
     generalize key p = x at *
     have hpi : (0 : Int) ≤ (p : Int) ∧ (p : Int) < (m : Int) := by omega
     have hci : (0 : Int) ≤ (cc : Int) ∧ (cc : Int) ≤ 1000001 := by omega
     have hxi : (0 : Int) ≤ (x : Int) ∧ (x : Int) ≤ (mx : Int) := by omega
     clear hpp
     go_wp2
     go_roundw
     case rel => exact ⟨j + 1, by omega, iv (by omega), qaa (by rw [← Hs.out, ← yaH]; exact HB.out.set_ (x + 1) _), qaa (HO.out.setCell (p := ⟨g, x + 1, none⟩) (qaf _) _)⟩
     case measure => simp only [intOf]; omega
    ·obtain rfl : j = k := by omega
     have hii : ¬ (j : Int) < (j : Int) := by omega
     have HB2 : Hid (Blk wr g 3 (ints (bn2 key row mx 0)).toArray) := qaa (by rw [← bn1_all, Hn.out]; exact HB.out)
     have HO2 := qaa HO.out
     clear HB HO
     go_wp2
     go_loopw [53] (fun i W => ∃ q : Nat, q ≤ mx ∧ i = .int .i64 q ∧ Hid (Blk W g 3 (ints (bn2 key row mx q)).toArray) ∧ Hid (Below g w W)) (fun i _ => mx - (intOf i).toNat)
     case atStart => exact ⟨0, by omega, rfl, HB2, HO2⟩
     case round =>
      obtain ⟨q, hq, rfl, HB, HO⟩ := hrel
      clear HB2 HO2
      by_cases hlt : q < mx
      ·have hki : (0 : Int) ≤ (q : Int) ∧ (q : Int) < (mx : Int) := by omega
       have x1 := yaI HB.out (q + 1) (by rw [bn2_len]; omega)
       have x2 := yaI HB.out q (by rw [bn2_len]; omega)
       rw [bn2_get1] at x1
       rw [bn2_get0] at x2
       have x4 := HB.out.frozen (q + 1)
       have hc := bcnt_le key row q
       have hc2 := bsum_le key row q
       rw [Hn.out] at hc hc2
       have Hs := qaa (bn2_step key row mx q)
       have hgl := HB.out.lt
       generalize bcnt key row q = cc at *
       generalize bsum key row q = cs at *
       have hci : (0 : Int) ≤ (cc : Int) ∧ (cc : Int) ≤ 1000001 ∧ (0 : Int) ≤ (cs : Int) ∧ (cs : Int) ≤ 1000001 := by omega
       go_wp2
       have hw1 : IntKind.i64.wrap ((q : Int) + 1) = (q : Int) + 1 := by rw [qai]; omega
       have hw2 : IntKind.i64.wrap ((cc : Int) + (cs : Int)) = (cc : Int) + (cs : Int) := by rw [qai]; omega
       have hb1 : 0 ≤ (q : Int) + 1 ∧ (q : Int) + 1 < (mx : Int) + 2 := by omega
       have hb0 : 0 ≤ (q : Int) ∧ (q : Int) < (mx : Int) + 2 := by omega
       refine qbs 11 (by kernel_rfl) (by kernel_rfl) ?_
       simp only [qaR, qaX, qbl, qbt]
       change wpStill _ _ (World.drew _) (fun a' => wpList _ _ _ _ a' (World.drew _)) _ _
       repeat still_step
       refine qcp ?_
       go_wp2
       go_roundw
       case rel => exact ⟨q + 1, by omega, iv (by omega), qaa (by rw [← Hs.out, ← yaH]; exact HB.out.drew.set_ (q + 1) _), qaa (HO.out.drew.setCell (p := ⟨g, q + 1, none⟩) (qaf _) _)⟩
       case measure => simp only [intOf]; omega
      ·obtain rfl : q = mx := by omega
       have hii2 : ¬ (q : Int) < (q : Int) := by omega
       have HB3 : Hid (Blk wr g 3 (ints (bn3 key row q 0)).toArray) := qaa (by rw [← bn2_all]; exact HB.out)
       have HO3 := qaa HO.out
       have hmk2 := fun w => ydm (j : Int) j rfl (by omega) w
       have e2 : List.replicate j 0 = bmid key row 0 (q + 1) := by
        rw [yfS, ycX key row (q + 1) (fun p hp => by have := Hall.out p hp; rw [Hmxn.out] at this; exact this), Hn.out]
       rw [e2] at hmk2
       clear HB HO
       have hgl := HB3.out.lt
       have HN := qaa (Blk.new wr 3 (ints (bmid key row 0 (q + 1))).toArray)
       have HB4 := qaa (HB3.out.alloc (.cells (ints (bmid key row 0 (q + 1))).toArray 3))
       have HO4 := qaa (HO3.out.alloc (Nat.le_of_lt hgl) (.cells (ints (bmid key row 0 (q + 1))).toArray 3))
       generalize hg2 : wr.heap.size = g2 at *
       clear HB3 HO3
       go_wp2
       clear hmk2 e2
       go_loopw [73] (fun i V => ∃ u : Nat, u ≤ j ∧ i = .int .i64 u ∧ Hid (Blk V g 3 (ints (bn3 key row q u)).toArray) ∧ Hid (Blk V g2 3 (ints (bmid key row u (q + 1))).toArray) ∧ Hid (Below g w V)) (fun i _ => j - (intOf i).toNat)
       case atStart => exact ⟨0, by omega, rfl, HB4, HN, HO4⟩
       case round =>
        obtain ⟨u, hu, rfl, HB, HC, HO⟩ := hrel
        clear HB4 HN HO4
        by_cases hlt : u < j
        ·have hki : (0 : Int) ≤ (u : Int) ∧ (u : Int) < (j : Int) := by omega
         have hkl : u < row.length := by rw [Hn.out]; exact hlt
         obtain ⟨b, off, rfl, hbl, x1⟩ := Hrow.out _ HO.out u hkl
         obtain ⟨hp, hx, hxm, b2, off2, rfl, hbl2, x2⟩ := Hkey.out _ HO.out u hkl
         rw [Hmxn.out] at hxm
         have hpl := bplace_lt key row u hkl
         rw [Hn.out] at hpl
         have x3 := yaI HB.out (key row[u]) (by rw [bn3_len]; omega)
         rw [bn3_get key row q u _ hxm] at x3
         have x4 := HB.out.frozen (key row[u])
         have hml : (bmid key row u (q + 1)).length = j := by
          rw [yfq, ycX key row (q + 1) (fun p hp => by have := Hall.out p hp; rw [Hmxn.out] at this; exact this), Hn.out]
         have x5 := yaI HC.out (bsum key row (key row[u]) + bcnt key (row.take u) (key row[u])) (by rw [hml]; exact hpl)
         have x6 := HC.out.frozen (bsum key row (key row[u]) + bcnt key (row.take u) (key row[u]))
         have Hs := qaa (bn3_step key row q u hkl hxm)
         have Hs2 := qaa (ygG key row u hkl (q + 1) (by omega))
         have hgl := HB.out.lt
         have hgl2 := HC.out.lt
         generalize (bmid key row u (q + 1))[bsum key row (key row[u]) + bcnt key (row.take u) (key row[u])]'(by rw [hml]; exact hpl) = vv at x5
         generalize bsum key row (key row[u]) + bcnt key (row.take u) (key row[u]) = at_ at *
         generalize hpp : row[u] = p at *
         generalize key p = x at *
         have hpi : (0 : Int) ≤ (p : Int) ∧ (p : Int) < (m : Int) := by omega
         have hci : (0 : Int) ≤ (at_ : Int) ∧ (at_ : Int) < (j : Int) := by omega
         have hxi : (0 : Int) ≤ (x : Int) ∧ (x : Int) ≤ (q : Int) := by omega
         have hne : g ≠ g2 := by omega
         have hne2 : g2 ≠ g := by omega
         clear hpp hml
         go_wp2
         go_roundw
         case rel => exact ⟨u + 1, by omega, iv (by omega), qaa (by rw [← Hs.out, ← yaH]; exact (HB.out.far (p := ⟨g2, at_, none⟩) hne _).set_ x _), qaa (by rw [← Hs2.out, ← yaH]; exact (HC.out.set_ at_ _).far (p := ⟨g, x, none⟩) hne2 _), qaa ((HO.out.setCell (p := ⟨g2, at_, none⟩) (by show g ≤ g2; omega) _).setCell (p := ⟨g, x, none⟩) (qaf _) _)⟩
         case measure => simp only [intOf]; omega
        ·obtain rfl : u = j := by omega
         have hii3 : ¬ (u : Int) < (u : Int) := by omega
         have HF : Hid (Blk wr g2 3 (ints (splc (bks key row (q + 1)))).toArray) := qaa (by rw [← bmid_all, Hn.out]; exact HC.out)
         have HM : Hid (∀ p ∈ row, key p < q + 1) := qaa fun p hp => by have := Hall.out p hp; rw [Hmxn.out] at this; exact this
         have Hgg : Hid (g ≤ g2) := qaa (by omega)
         clear HB HC
         go_wp2
         go_ret
         first | exact ⟨g2, rfl, Hgg.out, q + 1, HM.out, HF.out, HO.out⟩ | exact ⟨g2, q + 1, rfl, Hgg.out, HM.out, HF.out, HO.out⟩
end Go.Proofs.YtanjhbkbpalnaaaGreat
