/-
 What the law of the last of these texts stands on, part 8.
-/
import Derived.Test.YtanjhbkbpalnaaaGreatMc07
import Derived.Deep.RegionWith
import Derived.OwnWalk
import Derived.OrdersHeld
import Derived.Laws.IdiomStrings
set_option maxRecDepth 100000
set_option maxHeartbeats 8000000
open Go.Proofs.Tryz
namespace Go.Proofs.YtanjhbkbpalnaaaGreat
set_option linter.unusedSimpArgs false
set_option linter.unusedVariables false
open Go.ChangeShapes Go.WideShapes Go.ChangeAt Go.RowKit Go.Joins Go.Deep
def yc9 (top : Int) (l : List Int) : Bool := l.all fun k => decide (0 ≤ k) && decide (k ≤ top)
theorem agood_get {top : Int} {l : List Int} (h : yc9 top l = true) (i : Nat) (hi : i < l.length) : 0 ≤ l[i] ∧ l[i] ≤ top := by
 unfold yc9 at h
 rw [qb5] at h
 have := h l[i] (qaq hi)
 simpa using this
theorem agood_of {top : Int} {l : List Int} (h : ∀ i (hi : i < l.length), 0 ≤ l[i] ∧ l[i] ≤ top) : yc9 top l = true := by
 unfold yc9
 rw [qb5]
 intro x hx
 obtain ⟨i, hi, rfl⟩ := qaI hx
 simpa using h i hi
theorem agood_bad {top : Int} {l : List Int} (i : Nat) (hi : i < l.length) (hb : ¬(0 ≤ l[i] ∧ l[i] ≤ top)) : yc9 top l = false := by
 cases h : yc9 top l with
 | false => rfl
 | true => exact absurd (agood_get h i hi) hb
theorem aint_info : (prog.info? 3).map (fun i => (i.zero, i.size, i.bytes)) = some (some (.int .i64 0), 1, 8) := by kernel_rfl
theorem a_mkfunc (fn : Fn) (first cap : Array Value) (w : World) : (Instr.makeFunc fn first cap).run prog w = .ok (.func fn first cap) w := rfl
def ain (top n : Int) : Bool := decide (0 ≤ n) && decide (n ≤ top)
theorem ain_iff (top n : Int) : ain top n = true ↔ 0 ≤ n ∧ n ≤ top := by simp [ain]
theorem ain_no (top n : Int) (h : ¬(0 ≤ n ∧ n ≤ top)) : ain top n = false := by
 cases h2 : ain top n with
 | false => rfl
 | true => exact absurd ((ain_iff top n).1 h2) h
theorem a_within_any (n top : Int) (w : World) : Calls prog 181 #[.int .i64 n, .int .i64 top] w fun e w' => e = .returned (.bool (ain top n)) ∧ w' = w := by
 by_cases h0 : 0 ≤ n
 ·by_cases h1 : n ≤ top
  ·have fin : ain top n = true := (ain_iff _ _).2 ⟨h0, h1⟩
   rw [fin]
   clear fin
   go_enter func181, ntmps181
   go_wp2
   go_ret
   exact ⟨rfl, rfl⟩
  ·have fin : ain top n = false := ain_no _ _ fun h => h1 h.2
   rw [fin]
   clear fin
   go_enter func181, ntmps181
   go_wp2
   go_ret
   exact ⟨rfl, rfl⟩
 ·have fin : ain top n = false := ain_no _ _ fun h => h0 h.1
  rw [fin]
  clear fin
  go_enter func181, ntmps181
  go_wp2
  go_ret
  exact ⟨rfl, rfl⟩
theorem a_not_any (n top : Int) (pb : Nat) (w : World) (hP : Blk w pb 3 #[.int .i64 top]) : Calls prog 180 #[.int .i64 n, .pointer (some ⟨pb, 0, none⟩)] w fun e w' => e = .returned (.bool (!ain top n)) ∧ w' = w := by
 have c1 : w.cell? ⟨pb, 0, none⟩ = some (.int .i64 top) := hP.cell 0
 clear hP
 go_enter func180, ntmps180
 go_wp2_with (go_at_call 181; refine (a_within_any n top _).mono ?_; rintro e w1 ⟨rfl, rfl⟩)
 go_ret
 exact ⟨rfl, rfl⟩
theorem a_index_any (l : List Int) (top : Int) (A : Option Addr) (n c pb : Nat) (w : World) (hm : n ≤ 4611686018427387904) (hr : Reads w w.heap.size 1 A n (ints l)) (hP : Blk w pb 3 #[.int .i64 top]) :
  Calls prog 164 #[.slice A n c, .func (.func 180) #[] #[.pointer (some ⟨pb, 0, none⟩)]] w fun e w' => ∃ r : Int, e = .returned (.int .i64 r) ∧ (decide (0 ≤ r)) = !yc9 top l ∧ w' = w := by
 have en : l.length = n := by have := hr.1; rw [yac] at this; omega
 have Hcell : Hid (0 < n → ∃ b off, A = some ⟨b, off, none⟩ ∧ ∀ k, (hk : k < l.length) → w.cell? ⟨b, off + k, none⟩ = some (.int .i64 l[k])) := qaa fun h => by
  obtain ⟨b, off, e, hb, hc⟩ := hr.2 h
  exact ⟨b, off, e, fun k hk => hc k _ (yao l k hk)⟩
 have Hcl := qaa fun n => a_not_any n top pb w hP
 have Hbad : Hid (∀ k (hk : k < l.length), ain top l[k] = false → yc9 top l = false) := qaa fun k hk h => agood_bad k hk fun h2 => by rw [(ain_iff _ _).2 h2] at h; cases h
 have Hgood : Hid ((∀ k (hk : k < l.length), ain top l[k] = true) → yc9 top l = true) := qaa fun h => agood_of fun k hk => (ain_iff _ _).1 (h k hk)
 have En := qaa en
 clear hr hP en
 go_enter func164, ntmps164
 go_wp2
 go_loop [8] (fun i => ∃ k : Nat, k ≤ n ∧ i = .int .i64 k ∧ Hid (∀ j (hj : j < l.length), j < k → ain top l[j] = true)) (fun i => n - (intOf i).toNat)
 case atStart => exact ⟨0, by omega, rfl, fun j _ h => by omega⟩
 case round =>
  obtain ⟨k, hk, rfl, Hk⟩ := hrel
  by_cases hlt : k < n
  ·have hkl : k < l.length := by rw [En.out]; exact hlt
   obtain ⟨b, off, rfl, hc⟩ := Hcell.out (by omega)
   have hcell := hc k hkl
   have hki : (0 : Int) ≤ (k : Int) ∧ (k : Int) < n := by omega
   have Hc2 := qaa (Hcl.out l[k])
   clear hc
   cases hz : ain top l[k] with
   | true =>
    have Hn : Hid (∀ j (hj : j < l.length), j < k + 1 → ain top l[j] = true) := qaa fun j hj h => by
     rcases qbz j k with h1 | h1
     ·exact Hk.out j hj h1
     ·obtain rfl : j = k := by omega
      exact hz
    rw [hz] at Hc2
    clear hz Hbad Hgood
    generalize l[k] = x at *
    go_wp2_with (go_at_call 180; refine Hc2.out.mono ?_; rintro e w1 ⟨rfl, rfl⟩)
    go_round
    case rel => exact ⟨k + 1, by omega, iv (by omega), Hn.out⟩
    case measure => simp only [intOf]; omega
   | false =>
    have Hf := qaa (Hbad.out k hkl hz)
    rw [hz] at Hc2
    clear hz Hbad Hgood
    generalize l[k] = x at *
    go_wp2_with (go_at_call 180; refine Hc2.out.mono ?_; rintro e w1 ⟨rfl, rfl⟩)
    go_ret
    exact ⟨_, rfl, by rw [Hf.out]; simp, rfl⟩
  ·obtain rfl : k = n := by omega
   have Hg := qaa (Hgood.out fun j hj => Hk.out j hj (by have := En.out; omega))
   clear Hbad Hgood
   go_wp2
   go_ret
   exact ⟨_, rfl, by rw [Hg.out]; rfl, rfl⟩
theorem a_contains_any (l : List Int) (top : Int) (A : Option Addr) (n c pb : Nat) (w : World) (hm : n ≤ 4611686018427387904) (hr : Reads w w.heap.size 1 A n (ints l)) (hP : Blk w pb 3 #[.int .i64 top]) :
  Calls prog 118 #[.slice A n c, .func (.func 180) #[] #[.pointer (some ⟨pb, 0, none⟩)]] w fun e w' => e = .returned (.bool (!yc9 top l)) ∧ w' = w := by
 have Hi := qaa (a_index_any l top A n c pb w hm hr hP)
 clear hr hP
 generalize yc9 top l = g at *
 go_enter func118, ntmps118
 go_wp2_with (go_at_call 164; refine Hi.out.mono ?_; rintro e w1 ⟨r, rfl, hd, rfl⟩; have Hd := qaa hd; clear hd)
 go_ret
 exact ⟨by rw [← Hd.out]; rfl, rfl⟩
theorem a_all_any (l : List Int) (top : Int) (A : Option Addr) (n c : Nat) (w : World) (hm : n ≤ 4611686018427387904) (hr : Reads w w.heap.size 1 A n (ints l)) :
  Calls prog 143 #[.slice A n c, .int .i64 top] w fun e w' => e = .returned (.bool (yc9 top l)) ∧ Below w.heap.size w w' := by
 have hmf := a_mkfunc
 have hb : Below w.heap.size w (w.alloc (.cells #[.int .i64 top] 3)) := (qam _ _).alloc (qaf _) _
 have Hc := qaa (a_contains_any l top A n c w.heap.size (w.alloc (.cells #[.int .i64 top] 3)) hm ((hr.below hb).more hb.size) (Blk.new w _ _))
 have Hb := qaa hb
 clear hr hb
 generalize yc9 top l = g at *
 go_enter func143, ntmps143
 go_wp2_with (go_at_call 118; refine Hc.out.mono ?_; rintro e w1 ⟨rfl, rfl⟩)
 go_ret
 exact ⟨by cases g <;> rfl, Hb.out⟩
def yfz (u : Nat) : Int := if u = 0 then 0 else if u = 1 then 16384 else 32768
theorem p_full_any (u : Nat) (hu : u ≤ 1000000) (w : World) : Calls prog 147 #[.int .i64 (u : Int)] w fun e w' => e = .returned (.int .i64 (yfz u)) ∧ w' = w := by
 unfold yfz
 by_cases h0 : u = 0
 ·subst h0
  rw [qah rfl]
  go_enter func147, ntmps147
  go_wp2
  go_ret
  exact ⟨rfl, rfl⟩
 ·rw [qag h0]
  by_cases h1 : u = 1
  ·subst h1
   rw [qah rfl]
   go_enter func147, ntmps147
   go_wp2
   go_ret
   exact ⟨rfl, rfl⟩
  ·rw [qag h1]
   have b0 : ((u : Int) == 0) = false := by simp; omega
   have b1 : ((u : Int) == 1) = false := by simp; omega
   go_enter func147, ntmps147
   go_wp2
   go_ret
   exact ⟨rfl, rfl⟩
section
variable (l : List Int) (A : Option Addr) (n c : Nat) (w : World)
theorem p_used_any (hm : n ≤ 1000000) (hr : Reads w w.heap.size 1 A n (ints l)) :
  Calls prog 148 #[.slice A n c] w fun e w' => e = .returned (.int .i64 (ya1 l : Int)) ∧ w' = w := by
 have en : l.length = n := by have := hr.1; rw [yac] at this; omega
 have Hcell := lcells hr
 have Htake : Hid (∀ k (h : k < l.length), ya1 (l.take (k + 1)) = ya1 (l.take k) + if 0 < l[k] then 1 else 0) := qaa (usedF_take l)
 have Hall : Hid (ya1 (l.take n) = ya1 l) := qaa (by rw [qa5 (by omega)])
 have En := qaa en
 obtain ⟨R, hR⟩ : ∃ R : Int, (ya1 l : Int) = R := ⟨_, rfl⟩
 rw [hR]
 have HR := qaa hR
 clear hr en hR
 go_enter func148, ntmps148
 go_wp2
 go_loop [3, 5, 8] (fun p x i => ∃ k P : Nat, k ≤ n ∧ P ≤ k ∧ p = .int .i64 P ∧ i = .int .i64 k ∧ Hid (P = ya1 (l.take k))) (fun _ _ i => n - (intOf i).toNat)
 case atStart => exact ⟨0, 0, by omega, by omega, rfl, rfl, rfl⟩
 case round =>
  obtain ⟨k, P, hk, hP, rfl, rfl, Hk⟩ := hrel
  by_cases hlt : k < n
  ·have hki : (0 : Int) ≤ (k : Int) ∧ (k : Int) < n := by omega
   have hkl : k < l.length := by rw [En.out]; exact hlt
   obtain ⟨b, off, rfl, hb, hc⟩ := Hcell.out (by omega)
   have hx := hc k hkl
   have ht := Htake.out k hkl
   rw [← Hk.out] at ht
   have Ht := qaa ht
   clear hc ht
   generalize l[k] = x at *
   by_cases hx0 : 0 < x
   ·have Ht2 : Hid (P + 1 = ya1 (l.take (k + 1))) := qaa (by rw [Ht.out, qah hx0])
    go_wp2
    go_round
    case rel => exact ⟨k + 1, P + 1, by omega, by omega, iv (by omega), iv (by omega), Ht2.out⟩
    case measure => simp only [intOf]; omega
   ·have Ht2 : Hid (P = ya1 (l.take (k + 1))) := qaa (by rw [Ht.out, qag hx0]; rfl)
    go_wp2
    go_round
    case rel => exact ⟨k + 1, P, by omega, by omega, rfl, iv (by omega), Ht2.out⟩
    case measure => simp only [intOf]; omega
  ·obtain rfl : k = n := by omega
   have Hf : Hid ((P : Int) = R) := qaa (by rw [← HR.out, ← Hall.out, ← Hk.out])
   go_wp2
   go_ret
   exact ⟨by rw [← Hf.out]; rfl, rfl⟩
def ycC (l : List Int) : Int := if 257 < l.length then 3 else if ydN l = true then (if (yaA l : Int) = yfz (ya1 l) then 0 else 80) else 80
theorem partF_le : ∀ l : List Int, yaA l ≤ 32768 * l.length
 | [] => by simp [yaA]
 | x :: t => by
  have := partF_le t
  have h2 : (2 : Nat) ^ (15 - x.toNat) ≤ 2 ^ 15 := qaH (by omega) (by omega)
  show (if 0 < x then 2 ^ (15 - x.toNat) else 0) + yaA t ≤ _
  rw [qau]
  split <;> omega
theorem pshift (m : Nat) (h : m ≤ 15) : (32768 : Int) / 2 ^ m = ((2 ^ (15 - m) : Nat) : Int) := by
 have : ∀ m : Fin 16, (32768 : Int) / 2 ^ m.1 = ((2 ^ (15 - m.1) : Nat) : Int) := by decide
 exact this ⟨m, by omega⟩
theorem ydQ (hm : n ≤ 1000000) (hr : Reads w w.heap.size 1 A n (ints l)) :
  Calls prog 104 #[.slice A n c] w fun e w' => e = .returned (.int .i64 (ycC l)) ∧ Below w.heap.size w w' := by
 have en : l.length = n := by have := hr.1; rw [yac] at this; omega
 have Hall := qaa (a_all_any l 15 A n c w (by omega) hr)
 have Hused := qaa fun (W : World) (hW : Below w.heap.size w W) => p_used_any l A n c W (by omega) ((hr.below hW).more hW.size)
 have Hfull := qaa fun W => p_full_any (ya1 l) (by have := usedF_le l; omega) W
 obtain ⟨F, hF⟩ : ∃ F, ycC l = F := ⟨_, rfl⟩
 rw [hF]
 unfold ycC at hF
 rw [en] at hF
 by_cases hn : 257 < n
 ·rw [qah hn] at hF
  subst hF
  have hni : (257 : Int) < n := by omega
  clear hr
  go_enter func104, ntmps104
  go_wp2
  go_ret
  exact ⟨rfl, qam _ _⟩
 ·rw [qag hn] at hF
  have hni : ¬ (257 : Int) < n := by omega
  by_cases hg : ydN l = true
  ·rw [qah hg] at hF
   have hga : yc9 15 l = true := hg
   rw [hga] at Hall
   have Hcell : Hid (0 < n → ∃ b off, A = some ⟨b, off, none⟩ ∧ ∀ wr, Below w.heap.size w wr → ∀ k, (hk : k < l.length) → wr.cell? ⟨b, off + k, none⟩ = some (.int .i64 l[k])) := qaa fun h => by
    obtain ⟨b, off, e, hb, hc⟩ := hr.2 h
    exact ⟨b, off, e, fun wr hw k hk => (hw.cell (p := ⟨b, off + k, none⟩) hb).trans (hc k _ (yao l k hk))⟩
   have Hgood := qaa fun k hk => ybK hg k hk
   have Htake := qaa (partF_take l)
   have Hend : Hid (yaA (l.take n) = yaA l) := qaa (by rw [qa5 (by omega)])
   have Hbound : Hid (∀ k, k ≤ n → yaA (l.take k) ≤ 32768 * 257) := qaa fun k hk => by
    have := partF_le (l.take k)
    rw [qao] at this
    have h3 : min k l.length ≤ 257 := by omega
    have := qcp 32768 h3
    omega
   have En := qaa en
   have Hf := qaa hF
   clear hr hg hga en hF
   generalize yfz (ya1 l) = FU at *
   generalize hUU : (ya1 l : Int) = UU at *
   clear hUU
   go_enter func104, ntmps104
   go_wp2_with (go_at_call 143; refine Hall.out.mono ?_; rintro e w1 ⟨rfl, hb1⟩; have Hb1 := qaa hb1; clear hb1)
   go_loopw [3, 5, 14] (fun p x i wr => ∃ k P : Nat, k ≤ n ∧ P ≤ 32768 * 257 ∧ p = .int .i64 P ∧ i = .int .i64 k ∧ Hid (P = yaA (l.take k)) ∧ Hid (Below w.heap.size w wr)) (fun _ _ i _ => n - (intOf i).toNat)
   case atStart => exact ⟨0, 0, by omega, by omega, rfl, rfl, rfl, Hb1⟩
   case round =>
    obtain ⟨k, P, hk, hP, rfl, rfl, Hk, Hw⟩ := hrel
    by_cases hlt : k < n
    ·have hki : (0 : Int) ≤ (k : Int) ∧ (k : Int) < n := by omega
     have hkl : k < l.length := by rw [En.out]; exact hlt
     obtain ⟨b, off, rfl, hc⟩ := Hcell.out (by omega)
     have hx := hc wr Hw.out k hkl
     have ht := Htake.out k hkl
     rw [← Hk.out] at ht
     have hbd := Hbound.out (k + 1) (by omega)
     obtain ⟨g1, g2⟩ := Hgood.out k hkl
     have Ht := qaa ht
     have Hbd := qaa hbd
     clear hc ht hbd
     generalize l[k] = x at *
     obtain ⟨m, rfl⟩ : ∃ m : Nat, x = m := ⟨x.toNat, by omega⟩
     by_cases hx0 : (0 : Int) < (m : Int)
     ·obtain ⟨S2, hS2⟩ : ∃ S2, yaA (l.take (k + 1)) = S2 := ⟨_, rfl⟩
      have Ht2 := Ht.out
      rw [qah hx0, qav, hS2] at Ht2
      have Hbd2 := Hbd.out
      rw [hS2] at Hbd2
      have hsh := pshift m (by omega)
      generalize (2 ^ (15 - m) : Nat) = pw at *
      have HS2 : Hid (S2 = yaA (l.take (k + 1))) := qaa hS2.symm
      clear hS2 Ht Hbd
      have hz : (P : Int) + (pw : Int) = (S2 : Int) := by omega
      have hpw : (pw : Int) ≤ 8421376 := by omega
      clear Ht2
      go_wp2
      go_roundw
      case rel => exact ⟨k + 1, S2, by omega, by omega, iv (by omega), iv (by omega), HS2.out, Hw⟩
      case measure => simp only [intOf]; omega
     ·have Ht2 : Hid (P = yaA (l.take (k + 1))) := qaa (by rw [Ht.out, qag hx0]; rfl)
      go_wp2
      go_roundw
      case rel => exact ⟨k + 1, P, by omega, hP, rfl, iv (by omega), Ht2.out, Hw⟩
      case measure => simp only [intOf]; omega
    ·obtain rfl : k = n := by omega
     have hPe : (P : Int) = (yaA l : Int) := by rw [← Hend.out, ← Hk.out]
     have hf := Hf.out
     rw [← hPe] at hf
     by_cases he : (P : Int) = FU
     ·rw [qah he] at hf
      subst hf
      have hb : ((P : Int) == FU) = true := by simpa using he
      have HE := qaa he
      clear hPe he Hf
      go_wp2_with (first
       | (go_at_call 148; refine (Hused.out _ Hw.out).mono ?_; rintro e w2 ⟨rfl, rfl⟩)
       | (go_at_call 147; refine (Hfull.out _).mono ?_; rintro e w2 ⟨rfl, rfl⟩))
      go_ret
      exact ⟨rfl, Hw.out⟩
     ·rw [qag he] at hf
      subst hf
      have hb : ((P : Int) == FU) = false := by simpa using he
      have HE := qaa he
      clear hPe he Hf
      go_wp2_with (first
       | (go_at_call 148; refine (Hused.out _ Hw.out).mono ?_; rintro e w2 ⟨rfl, rfl⟩)
       | (go_at_call 147; refine (Hfull.out _).mono ?_; rintro e w2 ⟨rfl, rfl⟩))
      go_ret
      exact ⟨rfl, Hw.out⟩
  ·have hg2 : yc9 15 l = false := by
    cases h : yc9 15 l with
    | false => rfl
    | true => exact absurd h hg
   rw [qag hg] at hF
   rw [hg2] at Hall
   subst hF
   clear hr hg hg2
   go_enter func104, ntmps104
   go_wp2_with (go_at_call 143; refine Hall.out.mono ?_; rintro e w1 ⟨rfl, hb1⟩; have Hb1 := qaa hb1; clear hb1)
   go_ret
   exact ⟨rfl, Hb1.out⟩
end
theorem lfirst_yes (i : Nat) (c : Int) (t : List Int) (R : List LTh) (h : 0 < c) : ybo i (c :: t) R = ybo (i + 1) t (lput R ⟨c, [i], true⟩) := by
 conv => lhs; unfold ybo
 rw [qah h]
theorem lfirst_no (i : Nat) (c : Int) (t : List Int) (R : List LTh) (h : ¬ 0 < c) : ybo i (c :: t) R = ybo (i + 1) t R := by
 conv => lhs; unfold ybo
 rw [qag h]
theorem lone_reads (W : World) (s : Nat) : Reads (W.alloc (.cells #[.int .i64 (s : Int)] 3)) (W.alloc (.cells #[.int .i64 (s : Int)] 3)).heap.size 1 (some ⟨W.heap.size, 0, none⟩) 1 (ints (lsy [s])) := by
 have := yaB W 3 #[.int .i64 (s : Int)] 1 1 rfl
 exact this.more (by simp)
theorem lint_info : (prog.info? 3).map (fun i => (i.zero, i.size, i.bytes)) = some (some (.int .i64 0), 1, 8) := by kernel_rfl
def ygd (l : List Int) : Bool := l.all fun c => decide (0 ≤ c) && decide (c ≤ 1000000)
theorem cgood_get {l : List Int} (h : ygd l = true) (i : Nat) (hi : i < l.length) : 0 ≤ l[i] ∧ l[i] ≤ 1000000 := by
 unfold ygd at h
 rw [qb5] at h
 simpa using h l[i] (qaq hi)
theorem cgood_of {l : List Int} (h : ∀ i (hi : i < l.length), 0 ≤ l[i] ∧ l[i] ≤ 1000000) : ygd l = true := by
 unfold ygd
 rw [qb5]
 intro x hx
 obtain ⟨i, hi, rfl⟩ := qaI hx
 simpa using h i hi
def yee (counts : List Int) (most : Int) : List Int × Int :=
 if 257 < counts.length then ([], 3) else if most < 1 ∨ 15 < most then ([], 2) else if ygd counts = true then
  (if 2 ^ most.toNat < (yaa counts).length then ([], 3) else (ya0 counts most.toNat, 0)) else ([], 2)
theorem ydH (counts : List Int) : (yaa counts).length ≤ counts.length := by
 have h1 := ydS counts (fun _ => 1)
 rw [ydq] at h1
 have h2 : ∀ (l : List Int) (i : Nat), isum (fun _ c => if 0 < c then 1 else 0) i l ≤ l.length := by
  intro l
  induction l with
  | nil => intro i; simp [isum]
  | cons c t ih =>
   intro i
   have := ih (i + 1)
   simp only [isum, qau]
   split <;> omega
 have := h2 counts 0
 omega
theorem yfh {leaves : List LTh} (hl : yaH leaves) : ∀ k, (lrow leaves k).length ≤ 2 * leaves.length
 | 0 => by show leaves.length ≤ _; omega
 | k + 1 => by
  have := yfh hl k
  rw [yfH hl k]
  omega
theorem lpacks_all {P Q : LTh → Prop} (h : ∀ a b, P a → P b → Q (ycd a b)) : ∀ R : List LTh, (∀ x ∈ R, P x) → ∀ x ∈ yav R, Q x
 | [], _, x, hx => by cases hx
 | [_], _, x, hx => by cases hx
 | a :: b :: t, hp, x, hx => by
  rcases qaB.1 hx with rfl | hx
  ·exact h a b (hp a (by simp)) (hp b (by simp))
  ·exact lpacks_all h t (fun y hy => hp y (by simp [hy])) x hx
def LFits (n k : Nat) (x : LTh) : Prop := x.syms.length ≤ 2 ^ k ∧ 0 ≤ x.w ∧ x.w ≤ ((2 ^ k : Nat) : Int) * 1000000 ∧ ∀ s ∈ x.syms, s < n
theorem ygy (counts : List Int) (hg : ygd counts = true) : ∀ k, ∀ x ∈ lrow (yaa counts) k, LFits counts.length k x
 | 0, x, h => by
  obtain ⟨j, hj, hp, rfl⟩ := (yax counts x).1 h
  have := cgood_get hg j hj
  refine ⟨by simp, by show 0 ≤ counts[j]; omega, by show counts[j] ≤ _; simp; omega, fun s hs => ?_⟩
  have : s = j := by simpa using hs
  omega
 | k + 1, x, h => by
  have hl := yaV counts
  have hr := ybv hl k
  have ih := ygy counts hg k
  have h2 : (2 ^ (k + 1) : Nat) = 2 ^ k + 2 ^ k := by rw [qaW]; omega
  have hp1 : 0 < (2 ^ k : Nat) := qbf (by omega)
  cases hx : x.leaf with
  | true =>
   have h0 : x ∈ yaa counts := by rw [← hr.lv]; exact qaT.2 ⟨h, hx⟩
   obtain ⟨j, hj, hp, rfl⟩ := (yax counts x).1 h0
   have := cgood_get hg j hj
   refine ⟨by show 1 ≤ _; omega, by show 0 ≤ counts[j]; omega, ?_, fun s hs => ?_⟩
   ·show counts[j] ≤ _
    have : (1 : Int) * 1000000 ≤ ((2 ^ (k + 1) : Nat) : Int) * 1000000 := Int.mul_le_mul_of_nonneg_right (by omega) (by omega)
    omega
   ·have : s = j := by simpa using hs
    omega
  | false =>
   refine lpacks_all (P := LFits counts.length k) ?_ (lrow (yaa counts) k) ih x (by rw [← hr.pk]; exact qaT.2 ⟨h, by simp [hx]⟩)
   rintro a b ⟨a1, a2, a3, a4⟩ ⟨b1, b2, b3, b4⟩
   refine ⟨?_, ?_, ?_, ?_⟩
   ·show (a.syms ++ b.syms).length ≤ _
    rw [qae]
    omega
   ·show 0 ≤ a.w + b.w
    omega
   ·show a.w + b.w ≤ _
    rw [h2, qb7, Int.add_mul]
    omega
   ·intro s hs
    rcases qbm.1 (show s ∈ a.syms ++ b.syms from hs) with hs | hs
    ·exact a4 s hs
    ·exact b4 s hs
def lout (n : Nat) (f : Nat → Int) : List Int := (List.range n).map f
theorem yfI (n : Nat) (f : Nat → Int) : (lout n f).length = n := by simp [lout]
theorem yfN (n : Nat) (f : Nat → Int) (s : Nat) (h : s < n) : (lout n f)[s]? = some (f s) := by simp [lout, h]
theorem lout_set (n : Nat) (f g : Nat → Int) (s : Nat) (v : Int) (hs : g s = v) (ho : ∀ t, t ≠ s → g t = f t) : (lout n f).set s v = lout n g := by
 apply qc4
 intro t
 by_cases ht : t < n
 ·rw [List.getElem?_set, yfN n f t ht, yfN n g t ht, yfI]
  by_cases e : s = t
  ·subst e
   rw [qah rfl, qah ht, hs]
  ·rw [qag e, ho t (fun h => e h.symm)]
 ·rw [qbw (by rw [qbM, yfI]; omega), qbw (by rw [yfI]; omega)]
theorem yck (n : Nat) (f g : Nat → Int) (h : ∀ t, t < n → f t = g t) : lout n f = lout n g := by
 unfold lout
 exact qc7 fun t ht => h t (qaU.1 ht)
def lfar (R : List LTh) (i k s : Nat) : Int := lsum (lhas s) (R.take i) + ((((R[i]?).map (·.syms)).getD []).take k).count s
theorem ygG (R : List LTh) (i s : Nat) : lfar R i 0 s = lsum (lhas s) (R.take i) := by simp [lfar]
theorem lfar_step (R : List LTh) (i k s : Nat) (hi : i < R.length) (hk : k < R[i].syms.length) : lfar R i (k + 1) s = lfar R i k s + if s = R[i].syms[k] then 1 else 0 := by
 unfold lfar
 rw [qaj hi]
 simp only [qbN, qbW]
 rw [qap hk, List.count_append, List.count_singleton]
 by_cases e : s = R[i].syms[k]
 ·rw [qah e, qah (by simp [e])]; omega
 ·rw [qag e, qag (by simpa using fun h => e h.symm)]; omega
theorem lfar_end (R : List LTh) (i s : Nat) (hi : i < R.length) : lfar R i R[i].syms.length s = lsum (lhas s) (R.take (i + 1)) := by
 unfold lfar
 rw [qaj hi]
 simp only [qbN, qbW, qbQ]
 rw [qap hi, yc1]
 simp [lsum, lhas]
theorem ygD (counts : List Int) (most : Nat) (h : (yaa counts).length ≠ 1) : ya0 counts most = lout counts.length (fun s => lsum (lhas s) (ltaken counts most)) := by
 unfold ya0
 rw [qag h]
 rfl
theorem lbestL_one (counts : List Int) (most s : Nat) (h : (yaa counts).length = 1) (hs : ((yaa counts)[0]'(by omega)).syms = [s]) : s < counts.length ∧ (lout counts.length (fun _ => 0)).set s 1 = ya0 counts most := by
 obtain ⟨j, hj, hp, e⟩ := (yax counts _).1 (qaq (show 0 < (yaa counts).length by omega))
 have hjs : j = s := by
  rw [e] at hs
  simpa using hs
 subst hjs
 refine ⟨hj, ?_⟩
 rw [lout_set counts.length (fun _ => 0) (fun t => if t = j then 1 else 0) j 1 (by simp) (fun t ht => qag ht)]
 unfold ya0
 rw [qah h]
 apply qbg
 ·simp [lout]
 ·intro t h1 h2
  have ht : t < counts.length := by simpa using h2
  simp only [lout, qaY, qbp]
  by_cases e2 : t = j
  ·subst e2
   rw [qah rfl, qah hp]
  ·rw [qag e2, qag ?_]
   intro hp2
   obtain ⟨r, hr, e3⟩ := qaI ((yax counts ⟨counts[t], [t], true⟩).2 ⟨t, ht, hp2, rfl⟩)
   obtain rfl : r = 0 := by omega
   rw [e] at e3
   injection e3 with _ e4 _
   injection e4 with e4 _
   exact e2 e4.symm
def begF : List Nat → List Nat → Bool × Bool
 | _, [] => (true, true)
 | [], _ :: _ => (true, false)
 | a :: t, b :: u => if a = b then begF t u else (false, false)
def yaZ (ws : List (Int × Int)) (s : Int) : List Nat × Int := if 0 ≤ s ∧ s < ws.length ∧ (ws.getD s.toNat (0, 0)).2 ≠ 0 then (digI (ws.getD s.toNat (0, 0)).1 (ws.getD s.toNat (0, 0)).2, 0) else ([], 70)
def ybr : List (Int × Int) → Nat → List Nat → Int → Int × Int × Int
 | [], _, _, E => (0, 0, E)
 | f :: t, s, R, E => if f.2 = 0 then ybr t (s + 1) R E else if (begF R (digI f.1 f.2)).2 = true then ((s : Int), ((digI f.1 f.2).length : Int), 0) else ybr t (s + 1) R (if (begF R (digI f.1 f.2)).1 = true then 4 else E)
def ybk (ws : List (Int × Int)) (L : List Nat) (p : Nat) : Int × Int × Int := ybr ws 0 (L.drop p) (if p = L.length then 4 else 40)
theorem cword_at (ws : List (Int × Int)) (k : Nat) (h : k < ws.length) : yaZ ws (k : Int) = if ws[k].2 ≠ 0 then (digI ws[k].1 ws[k].2, 0) else ([], 70) := by
 have hgd : ws.getD k (0, 0) = ws[k] := by rw [qar, qaj h]; rfl
 unfold yaZ
 rw [qav, hgd]
 by_cases hz : ws[k].2 ≠ 0
 ·rw [qah hz, qah ⟨by omega, by omega, hz⟩]
 ·rw [qag hz, qag (fun h => hz h.2.2)]
theorem num_next (D : List Nat) (k : Nat) (h : k < D.length) : num (D.take (k + 1)) = 2 * num (D.take k) + D[k] := by
 rw [qap h, yf6]
theorem cwords_fit (l : List Int) : ∀ f ∈ (cwordsF l).1, fits f.1 f.2 := by
 unfold cwordsF
 by_cases h0 : ya3 l = 0
 ·rw [qah h0]
  obtain ⟨hl, hg, hca⟩ := ydi h0
  intro f hf
  obtain ⟨j, hj, rfl⟩ := qbI.1 (show f ∈ wat (l.map Int.toNat) 16 0 from hf)
  have hjl := qaU.1 hj
  have hjl2 : j < l.length := by simpa using hjl
  have hgd : (l.map Int.toNat).getD j 0 = (l.map Int.toNat)[j] := by rw [qar, qaj hjl]; rfl
  have hle : (l.map Int.toNat)[j] ≤ 15 := by
   have := ybK hg j hjl2
   rw [qaY]
   omega
  unfold cat1
  rw [hgd]
  by_cases hp : 0 < (l.map Int.toNat)[j] ∧ ((l.map Int.toNat)[j] < 16 ∨ ((l.map Int.toNat)[j] = 16 ∧ j < 0))
  ·rw [qah hp]
   have hlt := cword_lt (ls := l.map Int.toNat) (l.map Int.toNat)[j] j hjl rfl ⟨hp.1, hle⟩ hca
   refine ⟨by show (0 : Int) ≤ _; omega, by show (_ : Int) ≤ 32; omega, by show (0 : Int) ≤ _; omega, ?_⟩
   show ((yb7 (l.map Int.toNat) (l.map Int.toNat)[j] j : Nat) : Int) < 2 ^ (((l.map Int.toNat)[j] : Nat) : Int).toNat
   rw [qav]
   exact_mod_cast hlt
  ·rw [qag hp]
   exact ⟨by decide, by decide, by decide, by decide⟩
 ·rw [qag h0]
  intro f hf
  cases hf
theorem yha {ws : List (Int × Int)} (hf : ∀ f ∈ ws, fits f.1 f.2) (s : Int) : (yaZ ws s).1.length ≤ 32 ∧ Bin (yaZ ws s).1 := by
 unfold yaZ
 by_cases h : 0 ≤ s ∧ s < ws.length ∧ (ws.getD s.toNat (0, 0)).2 ≠ 0
 ·rw [qah h]
  have hk : s.toNat < ws.length := by omega
  have hgd : ws.getD s.toNat (0, 0) = ws[s.toNat] := by rw [qar, qaj hk]; rfl
  have hfit := hf _ (qaq hk)
  rw [← hgd] at hfit
  refine ⟨?_, ycw _ _⟩
  show (digI _ _).length ≤ 32
  unfold digI
  rw [yab]
  have := hfit.2.1
  omega
 ·rw [qag h]
  exact ⟨qbE _, yeL⟩
theorem begF_len : ∀ (R d : List Nat), (begF R d).2 = true → d.length ≤ R.length
 | _, [], _ => qbE _
 | [], _ :: _, h => by cases h
 | a :: t, b :: u, h => by
  unfold begF at h
  by_cases e : a = b
  ·rw [qah e] at h
   have := begF_len t u h
   simp only [qau]
   omega
  ·rw [qag e] at h
   cases h
theorem yfK (R : List Nat) : ∀ (ws : List (Int × Int)) (s : Nat) (E : Int), E = 4 ∨ E = 40 → (∀ f ∈ ws, fits f.1 f.2) → ((ybr ws s R E).2.2 = 0 ∧ ∃ x k : Nat, (ybr ws s R E).1 = (x : Int) ∧ x < s + ws.length ∧ (ybr ws s R E).2.1 = (k : Int) ∧ k ≤ R.length ∧ k ≤ 32) ∨ ((ybr ws s R E).2.2 = 4 ∨ (ybr ws s R E).2.2 = 40) ∧ (ybr ws s R E).1 = 0 ∧ (ybr ws s R E).2.1 = 0
 | [], s, E, hE, _ => qaK ⟨hE, rfl, rfl⟩
 | f :: t, s, E, hE, hf => by
  have hft : ∀ f ∈ t, fits f.1 f.2 := fun g hg => hf g (qa3 _ hg)
  have hff := hf f (qa4 ..)
  unfold ybr
  by_cases hz : f.2 = 0
  ·rw [qah hz]
   rcases yfK R t (s + 1) E hE hft with ⟨h1, x, k, h2, h3, h4⟩ | h
   ·exact qas ⟨h1, x, k, h2, by simp only [qau]; omega, h4⟩
   ·exact qaK h
  ·rw [qag hz]
   by_cases hb : (begF R (digI f.1 f.2)).2 = true
   ·rw [qah hb]
    refine qas ⟨rfl, s, _, rfl, by simp, rfl, begF_len _ _ hb, ?_⟩
    unfold digI
    rw [yab]
    have := hff.2.1
    omega
   ·rw [qag hb]
    rcases yfK R t (s + 1) (if (begF R (digI f.1 f.2)).1 = true then 4 else E) (by split <;> omega) hft with ⟨h1, x, k, h2, h3, h4⟩ | h
    ·exact qas ⟨h1, x, k, h2, by simp only [qau]; omega, h4⟩
    ·exact qaK h
def cunp (ws : List (Int × Int)) (L : List Nat) : Nat → Nat → List Int → List Int × Nat × Int
 | 0, p, acc => (acc, p, 0)
 | i + 1, p, acc => if (ybk ws L p).2.2 = 0 then cunp ws L i (p + (ybk ws L p).2.1.toNat) (acc ++ [(ybk ws L p).1]) else (acc, p, (ybk ws L p).2.2)
theorem ycQ (ws : List (Int × Int)) (L : List Nat) (i p : Nat) (acc : List Int) : cunp ws L (i + 1) p acc = if (ybk ws L p).2.2 = 0 then cunp ws L i (p + (ybk ws L p).2.1.toNat) (acc ++ [(ybk ws L p).1]) else (acc, p, (ybk ws L p).2.2) := rfl
theorem cgetF_ok (ws : List (Int × Int)) (L : List Nat) (p nl : Nat) (hL : L.length = nl) (hp : p ≤ nl) (hw : ws.length ≤ 257) (hf : ∀ f ∈ ws, fits f.1 f.2) : ((ybk ws L p).2.2 = 0 ∧ ∃ x k : Nat, (ybk ws L p).1 = (x : Int) ∧ x < 257 ∧ (ybk ws L p).2.1 = (k : Int) ∧ p + k ≤ nl) ∨ (ybk ws L p).2.2 ≠ 0 := by
 unfold ybk
 rcases yfK (L.drop p) ws 0 (if p = L.length then 4 else 40) (by split <;> omega) hf with ⟨h1, x, k, h2, h3, h4, h5, h6⟩ | ⟨h, _⟩
 ·refine qas ⟨h1, x, k, h2, by omega, h4, ?_⟩
  rw [qat] at h5
  omega
 ·exact qaK (by omega)
def v15 (R : List Nat) : Nat := num ((R ++ List.replicate 15 0).take 15)
theorem bin_zeros (n : Nat) : Bin (List.replicate n 0) := fun d hd => by rw [List.eq_of_mem_replicate hd]; omega
theorem v15_bin {R : List Nat} (hb : Bin R) : Bin ((R ++ List.replicate 15 0).take 15) := fun d hd => (hb.app (bin_zeros 15)) d (qaV hd)
theorem v15_lt {R : List Nat} (hb : Bin R) : v15 R < 32768 := by
 have h := ye3 (v15_bin hb)
 have hl : ((R ++ List.replicate 15 0).take 15).length = 15 := by simp
 rw [hl] at h
 exact h
theorem ydk {R : List Nat} (hb : Bin R) (n : Nat) (hn : n ≤ 15) (hl : n ≤ R.length) : num (R.take n) = v15 R / 2 ^ (15 - n) := by
 have e : (R ++ List.replicate 15 0).take 15 = R.take n ++ ((R ++ List.replicate 15 0).drop n).take (15 - n) := by
  conv => lhs; rw [show 15 = n + (15 - n) from by omega]
  rw [qco, qbk hl, show n + (15 - n) = 15 from by omega]
 have hr : Bin (((R ++ List.replicate 15 0).drop n).take (15 - n)) := fun d hd => (hb.app (bin_zeros 15)) d (qbt (qaV hd))
 have hrl : (((R ++ List.replicate 15 0).drop n).take (15 - n)).length = 15 - n := by simp; omega
 have h1 := ye3 hr
 rw [hrl] at h1
 unfold v15
 rw [e, ycl, hrl, qbO, Nat.mul_add_div (qbf (by omega)), Nat.div_eq_of_lt h1, qb0]
theorem part_of {v D x : Nat} (h : 0 < D) : v / D = x ↔ x * D ≤ v ∧ v < x * D + D := by
 constructor
 ·intro e
  subst e
  have h1 := Nat.div_add_mod v D
  have h2 := Nat.mod_lt v h
  rw [qbO] at h1
  omega
 ·intro e
  exact Nat.div_eq_of_lt_le e.1 (by rw [qcy, Nat.one_mul]; exact e.2)
theorem yed : ∀ (R d : List Nat), (begF R d).2 = true ↔ d.length ≤ R.length ∧ R.take d.length = d
 | R, [] => by cases R <;> simp [begF]
 | [], _ :: _ => by simp [begF]
 | a :: t, b :: u => by
  unfold begF
  by_cases e : a = b
  ·rw [qah e, yed t u]
   subst e
   simp
  ·rw [qag e]
   simp [e]
theorem ygO : ∀ (R d : List Nat), (begF R d).1 = true ↔ R.take d.length = d.take R.length
 | R, [] => by cases R <;> simp [begF]
 | [], _ :: _ => by simp [begF]
 | a :: t, b :: u => by
  unfold begF
  by_cases e : a = b
  ·rw [qah e, ygO t u]
   subst e
   simp
  ·rw [qag e]
   simp [e]
theorem begF_word {R : List Nat} (hb : Bin R) (n x : Nat) (hn : n ≤ 15) (hx : x < 2 ^ n) : (begF R (dig n x)).2 = true ↔ n ≤ R.length ∧ x * 2 ^ (15 - n) ≤ v15 R ∧ v15 R < x * 2 ^ (15 - n) + 2 ^ (15 - n) := by
 rw [yed, yab]
 have hD : 0 < (2 : Nat) ^ (15 - n) := qbf (by omega)
 constructor
 ·rintro ⟨hl, e⟩
  refine ⟨hl, (part_of hD).1 ?_⟩
  rw [← ydk hb n hn hl, e, ydf, qc8 hx]
 ·rintro ⟨hl, e⟩
  refine ⟨hl, ?_⟩
  have h1 := (part_of hD).2 e
  rw [← ydk hb n hn hl] at h1
  have h2 := ydh n (R.take n) (by simp; omega) fun d hd => hb d (qaV hd)
  rw [← h2, h1]
theorem begF_part {R : List Nat} (hb : Bin R) (n x : Nat) (hn : n ≤ 15) (hl : R.length < n) (e : x * 2 ^ (15 - n) ≤ v15 R ∧ v15 R < x * 2 ^ (15 - n) + 2 ^ (15 - n)) : (begF R (dig n x)).1 = true := by
 rw [ygO, yab, qa5 (by omega)]
 have hD : 0 < (2 : Nat) ^ (15 - n) := qbf (by omega)
 have h1 := (part_of hD).2 e
 have h2 := ydk hb R.length (by omega) (qaf _)
 rw [qa5 (qaf _)] at h2
 have h3 : x / 2 ^ (n - R.length) = num R := by
  rw [← h1, h2, qce, ← qbJ, show 15 - n + (n - R.length) = 15 - R.length from by omega]
 have h4 := ycA R.length (n - R.length) x
 rw [show R.length + (n - R.length) = n from by omega, h3, dig_num hb] at h4
 rw [h4, qbk (qaf _), qa5 (qaf _)]
theorem cget1_hit (R : List Nat) (E : Int) : ∀ (ws : List (Int × Int)) (s k : Nat) (E : Int) (hk : k < ws.length), (∀ j (hj : j < ws.length), j < k → ws[j].2 = 0 ∨ (begF R (digI ws[j].1 ws[j].2)).2 = false) → ws[k].2 ≠ 0 → (begF R (digI ws[k].1 ws[k].2)).2 = true → ybr ws s R E = (((s + k : Nat) : Int), ((digI ws[k].1 ws[k].2).length : Int), 0)
 | f :: t, s, 0, E, hk, _, h1, h2 => by
  unfold ybr
  simp only [List.getElem_cons_zero] at h1 h2 ⊢
  rw [qag h1, qah h2]
  rfl
 | f :: t, s, k + 1, E, hk, h0, h1, h2 => by
  have hf := h0 0 (by simp) (by omega)
  simp only [List.getElem_cons_zero] at hf
  have ih := fun E => cget1_hit R E t (s + 1) k E (by simpa using hk) (fun j hj hjk => by
   have := h0 (j + 1) (by simpa using hj) (by omega)
   simpa only [List.getElem_cons_succ] using this) (by simpa only [List.getElem_cons_succ] using h1) (by simpa only [List.getElem_cons_succ] using h2)
  simp only [List.getElem_cons_succ]
  unfold ybr
  by_cases hz : f.2 = 0
  ·rw [qah hz, ih, show s + 1 + k = s + (k + 1) from by omega]
  ·rcases hf with hf | hf
   ·exact absurd hf hz
   ·rw [qag hz, qag (by rw [hf]; decide), ih, show s + 1 + k = s + (k + 1) from by omega]
theorem ydP (R : List Nat) : ∀ (ws : List (Int × Int)) (s : Nat) (E : Int), (∀ j (hj : j < ws.length), ws[j].2 = 0 ∨ (begF R (digI ws[j].1 ws[j].2)).2 = false) → (E = 4 ∨ ∃ j, ∃ hj : j < ws.length, ws[j].2 ≠ 0 ∧ (begF R (digI ws[j].1 ws[j].2)).1 = true) → ybr ws s R E = (0, 0, 4)
 | [], s, E, _, h => by
  rcases h with rfl | ⟨j, hj, _⟩
  ·rfl
  ·exact absurd hj (by simp)
 | f :: t, s, E, h0, h => by
  have hf := h0 0 (by simp)
  simp only [List.getElem_cons_zero] at hf
  have ih := fun E => ydP R t (s + 1) E (fun j hj => by
   have := h0 (j + 1) (by simpa using hj)
   simpa only [List.getElem_cons_succ] using this)
  have hrest : E = 4 ∨ (f.2 ≠ 0 ∧ (begF R (digI f.1 f.2)).1 = true) ∨ ∃ j, ∃ hj : j < t.length, t[j].2 ≠ 0 ∧ (begF R (digI t[j].1 t[j].2)).1 = true := by
   rcases h with h | ⟨j, hj, h1, h2⟩
   ·exact qas h
   ·cases j with
    | zero => exact qaK (qas ⟨by simpa only [List.getElem_cons_zero] using h1, by simpa only [List.getElem_cons_zero] using h2⟩)
    | succ j => exact qaK (qaK ⟨j, by simpa using hj, by simpa only [List.getElem_cons_succ] using h1, by simpa only [List.getElem_cons_succ] using h2⟩)
  unfold ybr
  by_cases hz : f.2 = 0
  ·rw [qah hz]
   refine ih E ?_
   rcases hrest with h | h | h
   ·exact qas h
   ·exact absurd hz h.1
   ·exact qaK h
  ·rcases hf with hf | hf
   ·exact absurd hf hz
   ·rw [qag hz, qag (by rw [hf]; decide)]
    refine ih _ ?_
    rcases hrest with h | h | h
    ·left; split <;> simp [h]
    ·left; rw [qah h.2]
    ·exact qaK h
theorem ybD {P : Program} {t e : TypeId} {i : TypeInfo} {size : Nat} (ht : P.underlying t = some (.slice e)) (hi : P.info? e = some i) (hs : i.size = size) (A : Option Addr) (n c k : Nat) (hk : k ≤ c) (w : World) :
  (Instr.slice t (.slice A n c) none (some (.int .i64 (k : Int))) none).run P w = .ok (.slice A k c) w := by
 have he : P.elem t = e := by simp [Program.elem, ht]
 rw [run_slice_h w t A n c (by rw [he]; exact ht) .i64 k (by omega) (by omega), he]
 simp [sizeOf, typeInfo, hi, hs, sliced]
 intro _
 cases A with
 | none => rfl
 | some a => simp [Addr.add]
theorem ycS {w1 W W' : World} {n : Nat} {v : Value} {xs : List Value} (hb : Below w1.heap.size w1 W) (h : W.ownsRow w1.heap.size 3 1 v n xs) (hg : W.grownBy W' v.ownBlock) : Below w1.heap.size w1 W' := hb.grown hg hb.size fun b hb => (h.lt b hb).1
theorem saF_no {s : List UInt8} (h : 20000 < s.length) : saF s = ([], 3) := qah h
theorem saF_yes {s : List UInt8} (h : ¬ 20000 < s.length) : saF s = (splc (sarr s), 0) := qag h
theorem sbyteD {s : List UInt8} {p : Nat} (h : p < s.length) : s.getD p 0 = s[p] := by rw [qar, qaj h]; rfl
theorem s_same1_any (s : List UInt8) (a b pb : Nat) (w : World) (ha : a ≤ s.length) (hb : b < s.length) (hs : s.length ≤ 1000000) (hP : w.cell? ⟨pb, 0, none⟩ = some (.string ⟨s.toArray⟩)) :
  Calls prog 160 #[.int .i64 (a : Int), .int .i64 (b : Int), .pointer (some ⟨pb, 0, none⟩)] w fun e w' => e = .returned (.bool (yfy s a b)) ∧ ∃ m, w' = w.drewN m := by
 have hi : (0 : Int) ≤ (a : Int) ∧ (a : Int) ≤ (s.length : Int) ∧ (0 : Int) ≤ (b : Int) ∧ (b : Int) < (s.length : Int) ∧ (s.length : Int) ≤ 1000000 := by omega
 by_cases h1 : a < s.length
 ·have b1 : decide ((a : Int) < (s.length : Int)) = true := by rw [qch]; omega
  have h1i : (a : Int) < (s.length : Int) := by omega
  have e1 : ∀ h, ((⟨s.toArray⟩ : ByteArray)[a]'h) = s[a] := fun h => rfl
  have e2 : ∀ h, ((⟨s.toArray⟩ : ByteArray)[b]'h) = s[b] := fun h => rfl
  by_cases h3 : s[a] = s[b]
  ·have b3 : ((s[a].toNat : Int) == (s[b].toNat : Int)) = true := by rw [h3]; simp
   have fin : yfy s a b = true := by unfold yfy; rw [sbyteD h1, sbyteD hb, h3]; simp [h1]
   rw [fin]
   clear fin h3
   go_enter func160, ntmps160
   go_wp2
   go_quiet (fail)
   go_wp2
   go_ret
   exact ⟨rfl, _, rfl⟩
  ·have b3 : ((s[a].toNat : Int) == (s[b].toNat : Int)) = false := by
    rw [qbx]
    intro e
    exact h3 (UInt8.toNat_inj.1 (by omega))
   have fin : yfy s a b = false := by unfold yfy; rw [sbyteD h1, sbyteD hb]; simp [h3]
   rw [fin]
   clear fin h3
   go_enter func160, ntmps160
   go_wp2
   go_quiet (fail)
   go_wp2
   go_ret
   exact ⟨rfl, _, rfl⟩
 ·have b1 : decide ((a : Int) < (s.length : Int)) = false := by rw [decide_eq_false_iff_not]; omega
  have fin : yfy s a b = false := by unfold yfy; simp [h1]
  rw [fin]
  clear fin
  go_enter func160, ntmps160
  go_wp2
  go_quiet (fail)
  go_wp2
  go_ret
  exact ⟨rfl, _, rfl⟩
def kL (kd : Nat → Nat) (n : Nat) : List Int := rng n fun p => (kd p : Int)
theorem kL_len (kd : Nat → Nat) (n : Nat) : (kL kd n).length = n := ybJ _ _
theorem kL_get (kd : Nat → Nat) (n p : Nat) (h : p < (kL kd n).length) : (kL kd n)[p] = (kd p : Int) := ycB _ _ _ h
theorem yda {w : World} {g n : Nat} {t : TypeId} {kd : Nat → Nat} (h : Blk w g t (ints (kL kd n)).toArray) (p : Nat) (hp : p < n) : w.cell? ⟨g, p, none⟩ = some (.int .i64 (kd p : Int)) := by
 have hl : p < (kL kd n).length := by rw [kL_len]; exact hp
 have := yaJ h p hl
 rwa [kL_get] at this
theorem s_same2_any (kd : Nat → Nat) (n h a b pb g c : Nat) (A : Option Addr) (w : World) (hn : n ≤ 1000001) (hh : h ≤ 1000001) (ha : a < n) (hb : b < n) (hr : kd a = kd b → a + h < n ∧ b + h < n)
  (hP : Blk w pb 155 #[.slice A n c, .slice (some ⟨g, 0, none⟩) n n, .int .i64 (h : Int)]) (hG : Blk w g 3 (ints (kL kd n)).toArray) :
  Calls prog 163 #[.int .i64 (a : Int), .int .i64 (b : Int), .pointer (some ⟨pb, 0, none⟩)] w fun e w' => e = .returned (.bool (ygx kd h a b)) ∧ ∃ m, w' = w.drewN m := by
 have hi : (0 : Int) ≤ (a : Int) ∧ (a : Int) < (n : Int) ∧ (0 : Int) ≤ (b : Int) ∧ (b : Int) < (n : Int) ∧ (n : Int) ≤ 1000001 ∧ (0 : Int) ≤ (h : Int) ∧ (h : Int) ≤ 1000001 := by omega
 have p1 : w.cell? ⟨pb, 1, none⟩ = some (.slice (some ⟨g, 0, none⟩) n n) := hP.cell 1
 have p2 : w.cell? ⟨pb, 2, none⟩ = some (.int .i64 (h : Int)) := hP.cell 2
 have c1 := yda hG a ha
 have c2 := yda hG b hb
 by_cases h1 : kd a = kd b
 ·obtain ⟨h2, h3⟩ := hr h1
  have c3 := yda hG (a + h) h2
  have c4 := yda hG (b + h) h3
  have hw1 : IntKind.i64.wrap ((a : Int) + (h : Int)) = (a : Int) + (h : Int) := by rw [qai]; omega
  have hw2 : IntKind.i64.wrap ((b : Int) + (h : Int)) = (b : Int) + (h : Int) := by rw [qai]; omega
  have hi2 : (a : Int) + (h : Int) < (n : Int) ∧ (b : Int) + (h : Int) < (n : Int) := by omega
  have b1 : ((kd a : Int) == (kd b : Int)) = true := by rw [h1]; simp
  by_cases h4 : kd (a + h) = kd (b + h)
  ·have b2 : ((kd (a + h) : Int) == (kd (b + h) : Int)) = true := by rw [h4]; simp
   have fin : ygx kd h a b = true := by unfold ygx; rw [h1, h4]; simp
   rw [fin]
   clear fin hP hG hr h1 h4
   generalize kd a = ka at *
   generalize kd b = kb at *
   generalize kd (a + h) = kc at *
   generalize kd (b + h) = ke at *
   go_enter func163, ntmps163
   go_wp2
   go_quiet (fail)
   go_wp2
   go_ret
   exact ⟨rfl, _, rfl⟩
  ·have b2 : ((kd (a + h) : Int) == (kd (b + h) : Int)) = false := by rw [qbx]; omega
   have fin : ygx kd h a b = false := by unfold ygx; simp [h4]
   rw [fin]
   clear fin hP hG hr h1 h4
   generalize kd a = ka at *
   generalize kd b = kb at *
   generalize kd (a + h) = kc at *
   generalize kd (b + h) = ke at *
   go_enter func163, ntmps163
   go_wp2
   go_quiet (fail)
   go_wp2
   go_ret
   exact ⟨rfl, _, rfl⟩
 ·have b1 : ((kd a : Int) == (kd b : Int)) = false := by rw [qbx]; omega
  have fin : ygx kd h a b = false := by unfold ygx; simp [h1]
  rw [fin]
  clear fin hP hG hr h1
  generalize kd a = ka at *
  generalize kd b = kb at *
  go_enter func163, ntmps163
  go_wp2
  go_quiet (fail)
  go_wp2
  go_ret
  exact ⟨rfl, _, rfl⟩
theorem yfR {P : Program} {f : FuncId} {args : Array Value} {w : World} {a n : Nat} {v : Value}
  (h : Calls P f args (w.drewN (a + n)) fun e w' => e = .returned v ∧ ∃ m, w' = (w.drewN (a + n)).drewN m) :
  Calls P f args (w.drewN (a + n)) fun e w'' => e = .returned v ∧ ∃ m, w'' = w.drewN (a + m) :=
 h.mono fun e w' ⟨he, m, hm⟩ => ⟨he, n + m, by rw [hm, World.drewN_drewN, qcn]⟩
theorem knum_next (row : List Nat) (sm : Nat → Nat → Bool) (n k : Nat) (hk : k + 1 < row.length) (v : Int) (hv : v = (knum row sm k row[k] : Nat) + (if sm row[k] row[k + 1] = true then 0 else 1)) :
  (kL (knum row sm k) n).set row[k + 1] v = kL (knum row sm (k + 1)) n := by
 subst hv
 refine ygQ _ _ fun p _ => ?_
 show ((if k + 1 < row.length ∧ p = row.getD (k + 1) 0 then knum row sm k (row.getD k 0) + (if sm (row.getD k 0) (row.getD (k + 1) 0) = true then 0 else 1) else knum row sm k p : Nat) : Int) = _
 rw [yey _ hk, yey _ (show k < row.length by omega)]
 by_cases e : p = row[k + 1]
 ·rw [qah ⟨hk, e⟩, qah e]
  split <;> omega
 ·rw [qag fun h => e h.2, qag e]
theorem knum_zero (row : List Nat) (sm : Nat → Nat → Bool) (n : Nat) : List.replicate n (0 : Int) = kL (knum row sm 0) n := rng_zero n
theorem knum_le {row : List Nat} (hn : row.Nodup) (sm : Nat → Nat → Bool) (k : Nat) (hk : k < row.length) : knum row sm k row[k] ≤ k := by
 rw [knum_at hn sm k k hk (qaf _)]
 exact kN_le _ _ _
theorem yd3 (row : List Nat) (sm : Nat → Nat → Bool) (A : Option Addr) (n c pb : Nat) (G : FuncId) (w : World)
  (hS : ∀ W, Below w.heap.size w W → ∀ k (hk : k + 1 < row.length), Calls prog G #[.int .i64 ((row[k] : Nat) : Int), .int .i64 ((row[k + 1] : Nat) : Int), .pointer (some ⟨pb, 0, none⟩)] W fun e W' => e = .returned (.bool (sm row[k] row[k + 1])) ∧ ∃ m, W' = W.drewN m)
  (hn : row.length = n) (hm : n ≤ 1000001) (hnd : row.Nodup) (hb : ∀ p ∈ row, p < n) (hr : Reads w w.heap.size 1 A n (ints (splc row)))
  (eg : ∀ args w, (callFunc G args).run prog w = .ok (.enter G args) w)
  :
  Calls prog 161 #[.slice A n c, .func (.func G) #[] #[.pointer (some ⟨pb, 0, none⟩)]] w fun e w' => ∃ g, e = .returned (.slice (some ⟨g, 0, none⟩) n n) ∧ w.heap.size ≤ g ∧ Blk w' g 3 (ints (kL (knum row sm (n - 1)) n)).toArray ∧ Below w.heap.size w w' := by
 have hni : (n : Int) ≤ 1000001 := by omega
 have Hrow := qaa (ydn hn hr)
 have Hn := qaa hn
 have HS := qaa hS
 have Hbd : Hid (∀ k (hk : k < row.length), row[k] < n) := qaa fun k hk => hb _ (qaq hk)
 have Hle := qaa (knum_le hnd sm)
 have Hnext := qaa (knum_next row sm n)
 have hmk := fun w => yc0 (n : Int) n rfl (by omega) w
 rw [knum_zero row sm n] at hmk
 have HB0 := qaa (Blk.new w 3 (ints (kL (knum row sm 0) n)).toArray)
 have HO0 := qaa ((qam w.heap.size w).alloc (qaf _) (.cells (ints (kL (knum row sm 0) n)).toArray 3))
 clear hr hS hb hnd hn
 generalize hg : w.heap.size = g at *
 go_enter func161, ntmps161
 go_wp2
 clear hmk
 by_cases hn0 : n = 0
 ·subst hn0
  go_loopw [6] (fun i wr => i = .int .i64 1 ∧ Hid (Blk wr g 3 (ints (kL (knum row sm 0) 0)).toArray) ∧ Hid (Below g w wr)) (fun _ _ => 0)
  case atStart => exact ⟨rfl, HB0, HO0⟩
  case round =>
   obtain ⟨rfl, HB, HO⟩ := hrel
   go_wp2
   go_ret
   exact ⟨g, rfl, qaf _, HB.out, HO.out⟩
 ·have hn1 : 1 ≤ n := by omega
  go_loopw [6] (fun i wr => ∃ k m : Nat, k + 1 = m ∧ m ≤ n ∧ i = .int .i64 m ∧ Hid (Blk wr g 3 (ints (kL (knum row sm k) n)).toArray) ∧ Hid (Below g w wr)) (fun i _ => n - (intOf i).toNat)
  case atStart => exact ⟨0, 1, rfl, hn1, rfl, HB0, HO0⟩
  case round =>
   obtain ⟨k, m, hkm, hk, rfl, HB, HO⟩ := hrel
   clear HB0 HO0
   by_cases hlt : m < n
   ·have hki : ((0 : Int) ≤ (k : Int) ∧ (k : Int) < (n : Int)) ∧ (0 : Int) ≤ (m : Int) ∧ (m : Int) < (n : Int) := by omega
    have hkk := hki.1
    have hkl : k + 1 < row.length := by rw [Hn.out]; omega
    obtain ⟨b0, off, rfl, hbl, x1⟩ := Hrow.out wr HO.out (k + 1) hkl
    obtain ⟨_, _, e9, _, x2⟩ := Hrow.out wr HO.out k (by omega)
    injection e9 with e9
    injection e9 with e9 e10
    subst e9
    subst e10
    have ha := Hbd.out k (by omega)
    have hb := Hbd.out (k + 1) hkl
    have hna := Hle.out k (by omega)
    have x3 := yda HB.out _ ha
    have x5 := yda HB.out _ hb
    have x4 := HB.out.frozen row[k + 1]
    have Hs := qaa (Hnext.out k hkl)
    have HC := qaa fun W hW => HS.out W hW k hkl
    generalize hra : row[k] = a at *
    generalize hrb : row[k + 1] = b at *
    rw [hkm] at x1
    have hgl := HB.out.lt
    have hai : (0 : Int) ≤ (a : Int) ∧ (a : Int) < (n : Int) ∧ (0 : Int) ≤ (b : Int) ∧ (b : Int) < (n : Int) := by omega
    have hnai : (0 : Int) ≤ (knum row sm k a : Int) ∧ (knum row sm k a : Int) ≤ 1000001 := by omega
    have HW1 : Hid (∀ q v, Below g w ((wr.setCell ⟨g, b, none⟩ v).drewN q)) := qaa fun q v => yay (HO.out.setCell (p := ⟨g, b, none⟩) (qaf _) v) q
    generalize knum row sm k a = na at *
    generalize knum row sm k b = nb at *
    have hsub : (m : Int) - 1 = (k : Int) := by omega
    have hw1 : IntKind.i64.wrap ((m : Int) - 1) = (k : Int) := by rw [qai]; omega
    have hw2 : IntKind.i64.wrap (k : Int) = (k : Int) := by rw [qai]; omega
    clear hra hrb hna Hle
    cases hsm : sm a b with
    | true =>
     rw [hsm] at HC Hs
     have Hs2 := qaa (Hs.out na (by simp))
     clear Hs hsm
     go_wp2
     refine qb1 14 (by kernel_rfl) (by kernel_rfl) ?_
     simp only [qaJ, qbb, qbn, qb9]
     change wpStill _ _ (World.drew _) (fun a' => wpList _ _ _ _ a' (World.drew _)) _ _
     repeat still_step
     refine qcv ?_
     go_wp2
     go_quiet (exact yfR (HC.out _ (HW1.out _ _)))
     go_wp2
     go_roundw
     case rel => exact ⟨k + 1, m + 1, by omega, by omega, iv (by omega), qaa (by rw [← Hs2.out, ← yaC]; exact (HB.out.set_ b _).drewN _), qaa (HW1.out _ _)⟩
     case measure => simp only [intOf]; omega
    | false =>
     rw [hsm] at HC Hs
     have Hs2 := qaa (Hs.out ((na : Int) + 1) (by simp))
     clear Hs hsm
     go_wp2
     refine qb1 14 (by kernel_rfl) (by kernel_rfl) ?_
     simp only [qaJ, qbb, qbn, qb9]
     change wpStill _ _ (World.drew _) (fun a' => wpList _ _ _ _ a' (World.drew _)) _ _
     repeat still_step
     refine qcv ?_
     go_wp2
     go_quiet (exact yfR (HC.out _ (HW1.out _ _)))
     go_wp2
     go_roundw
     case rel => exact ⟨k + 1, m + 1, by omega, by omega, iv (by omega), qaa (by rw [← Hs2.out, ← List.set_set (a := (na : Int)), ← yaC, ← yaC]; exact ((HB.out.set_ b _).drewN _).set_ b _), qaa ((HW1.out _ _).setCell (p := ⟨g, b, none⟩) (qaf _) _)⟩
     case measure => simp only [intOf]; omega
   ·obtain rfl : m = n := by omega
    have hii : ¬ (m : Int) < (m : Int) := by omega
    have HF : Hid (Blk wr g 3 (ints (kL (knum row sm (m - 1)) m)).toArray) := qaa (by rw [show m - 1 = k from by omega]; exact HB.out)
    go_wp2
    go_ret
    exact ⟨g, rfl, qaf _, HF.out, HO.out⟩
structure BRow (w : World) (g : Nat) (l : List UInt8) : Prop where
 lt : g < w.heap.size
 cell : ∀ j b, l[j]? = some b → w.cell? ⟨g, j, none⟩ = some (.int .u8 (b.toNat : Int))
 free : ∀ j, j < l.length → w.frozen? ⟨g, j, none⟩ = false
section
variable {w w' : World} {g : Nat} {l : List UInt8}
theorem BRow.below {B : Nat} (h : BRow w g l) (hb : Below B w w') (hg : g < B) : BRow w' g l :=
 ⟨qaZ h.lt hb.size, fun j b hj => (hb.cell (p := ⟨g, j, none⟩) hg).trans (h.cell j b hj), fun j hj => (hb.frozen (p := ⟨g, j, none⟩) hg).trans (h.free j hj)⟩
theorem BRow.drew (h : BRow w g l) : BRow w.drew g l := ⟨h.lt, h.cell, h.free⟩
theorem BRow.drewN (h : BRow w g l) (n : Nat) : BRow (w.drewN n) g l := ⟨h.lt, h.cell, h.free⟩
theorem BRow.set (h : BRow w g l) (i : Nat) (b : UInt8) (hi : i < l.length) : BRow (w.setCell ⟨g, i, none⟩ (.int .u8 (b.toNat : Int))) g (l.set i b) := by
 obtain ⟨c0, hc0⟩ : ∃ c, l[i]? = some c := ⟨l[i], qaj hi⟩
 have hold := h.cell i c0 hc0
 refine ⟨by simpa [World.setCell] using h.lt, fun j c hj => ?_, fun j hj => ?_⟩
 ·rw [List.getElem?_set] at hj
  by_cases e : i = j
  ·subst e
   rw [qah rfl, qah hi] at hj
   injection hj with hj
   subst hj
   exact World.cell?_setCell_same _ _ _ hold
  ·rw [qag e] at hj
   rw [qcu _ _ _ _ (by intro e2; injection e2 with _ e3; exact e e3)]
   exact h.cell j c hj
 ·rw [World.frozen?_setCell]
  exact h.free j (by simpa using hj)
theorem run_bytes_row {P : Program} (w : World) (src dst e : TypeId) (l : List UInt8) (hs : P.underlying src = some .string) (hd : P.underlying dst = some (.slice e)) (he : P.underlying e = some (.int .u8)) :
  ∃ cap W', (convert src dst (.string ⟨l.toArray⟩)).run P w = .ok (.slice (some ⟨w.heap.size, 0, none⟩) l.length cap) W' ∧ BRow W' w.heap.size l ∧ Below w.heap.size w W' ∧ l.length ≤ cap := by
 have h := run_bytes_of_string (P := P) w src dst e ⟨l.toArray⟩ hs hd he
 have hsz : (ByteArray.mk l.toArray).size = l.length := by rw [qbc]; simp
 rw [hsz] at h
 refine ⟨_, _, h, ?_, ?_, ?_⟩
 ·generalize grownCap w l.length 0 e = cp
  have hlen : (bytesRow ⟨l.toArray⟩ cp).size = l.length + (cp - l.length) := by simp [bytesRow, hsz]
  have hh : (w.drew.alloc (.cells (bytesRow ⟨l.toArray⟩ cp) e ((bytesRow ⟨l.toArray⟩ cp).size, (bytesRow ⟨l.toArray⟩ cp).size + 1))).heap[w.heap.size]? = some (.cells (bytesRow ⟨l.toArray⟩ cp) e ((bytesRow ⟨l.toArray⟩ cp).size, (bytesRow ⟨l.toArray⟩ cp).size + 1)) := heap_alloc_new w.drew _
  refine ⟨by show w.heap.size < (w.heap.push _).size; simp, fun j b hj => ?_, fun j hj => ?_⟩
  ·rw [cell_of_row _ _ j _ e _ hh]
   have hjl : j < l.length := (qcj.1 hj).1
   have hjb : l[j] = b := (qcj.1 hj).2
   subst hjb
   simp [bytesRow, Array.getElem?_append, hjl]
  ·simp only [World.frozen?, hh]
   rw [hlen]
   simp
   omega
 ·exact (qam _ _).drew.alloc (qaf _) _
 ·exact grownCap_ge w _ _ _
end
end Go.Proofs.YtanjhbkbpalnaaaGreat
