/-
 What the law of the last of these texts stands on, part 8.
-/
import Derived.Test.YtanjhbkbpalnaaaGreatMb07
import Derived.Lib.BitFns
import Derived.OrdersHeld
set_option maxRecDepth 100000
set_option maxHeartbeats 8000000
open Go.Proofs.Tryz
namespace Go.Proofs.YtanjhbkbpalnaaaGreat
set_option linter.unusedSimpArgs false
set_option linter.unusedVariables false
open Go.ChangeShapes Go.WideShapes Go.ChangeAt Go.RowKit Go.Joins Go.Deep
def bl (n : Nat) : Nat := Lib.bitLen n
theorem yg3 : ∀ (f n : Nat), n ≠ 0 → n < 2 ^ f → f ≤ 64 → 1 ≤ bl n ∧ 2 ^ (bl n - 1) ≤ n ∧ n < 2 ^ bl n
 | 0, n, h0, h, _ => by simp at h; omega
 | f + 1, n, h0, h, hf => by
  have h64 : n < 2 ^ 64 := qaM h (qaF (by omega) hf)
  have e : bl n = 1 + bl (n / 2) := Lib.bitLen_half n h0 h64
  by_cases h1 : n / 2 = 0
  ·have hb : bl (n / 2) = 0 := by rw [h1]; rfl
   rw [e, hb]
   simp
   omega
  ·obtain ⟨a, b, c⟩ := yg3 f (n / 2) h1 (by rw [qaO] at h; omega) (by omega)
   rw [e]
   refine ⟨by omega, ?_, ?_⟩
   ·rw [show 1 + bl (n / 2) - 1 = bl (n / 2) - 1 + 1 from by omega, qaO]
    omega
   ·rw [qcz, qaO]
    omega
theorem bl_of {n k : Nat} (h1 : 2 ^ k ≤ n) (h2 : n < 2 ^ (k + 1)) (h : n < 4294967296) : bl n = k + 1 := by
 have hp : 0 < 2 ^ k := qbu (by omega)
 obtain ⟨a, b, c⟩ := yg3 32 n (by omega) (by rw [show (2 : Nat) ^ 32 = 4294967296 from by decide]; exact h) (by omega)
 rcases qcv (bl n) (k + 1) with hlt | he | hgt
 ·have := qaF (n := 2) (by omega) (show bl n ≤ k by omega)
  omega
 ·exact he
 ·have := qaF (n := 2) (by omega) (show k + 1 ≤ bl n - 1 by omega)
  omega
theorem bl_le {n : Nat} (h0 : n ≠ 0) (h : n < 4294967296) : 1 ≤ bl n ∧ bl n ≤ 32 := by
 obtain ⟨a, b, c⟩ := yg3 32 n h0 (by rw [show (2 : Nat) ^ 32 = 4294967296 from by decide]; exact h) (by omega)
 refine ⟨a, Nat.le_of_not_lt fun hgt => ?_⟩
 have := qaF (n := 2) (by omega) (show 32 ≤ bl n - 1 by omega)
 rw [show (2 : Nat) ^ 32 = 4294967296 from by decide] at this
 omega
def hasG (n : Int) : Prop := 1 ≤ n ∧ n ≤ 4294967295
instance (n : Int) : Decidable (hasG n) := by unfold hasG; infer_instance
def gam (n : Nat) : List Nat := List.replicate (bl n - 1) 0 ++ dig (bl n) n
theorem gam_is {n k : Nat} (h1 : 2 ^ k ≤ n) (h2 : n < 2 ^ (k + 1)) (h : n < 4294967296) : gam n = List.replicate k 0 ++ dig (k + 1) n := by
 unfold gam
 rw [bl_of h1 h2 h, qbH]
theorem gam_bin (n : Nat) : Bin (gam n) := Bin.app (fun d hd => by rw [List.eq_of_mem_replicate hd]; omega) (yc4 _ _)
def lz : List Nat → Nat
 | [] => 0
 | d :: t => if d = 0 then lz t + 1 else 0
theorem lz_le : ∀ l, lz l ≤ l.length
 | [] => qaf _
 | d :: t => by
  have := lz_le t
  unfold lz
  split <;> simp <;> omega
theorem lz_zeros (k : Nat) (l : List Nat) : lz (List.replicate k 0 ++ l) = k + lz l := by
 induction k with
 | zero => simp
 | succ k ih => rw [qb9, qbC, lz, qah rfl, ih]; omega
theorem lz_one (l : List Nat) : lz (1 :: l) = 0 := rfl
def ycf (l : List Nat) : Int × Nat × Int :=
 if lz l = l.length then (0, 0, 4) else if 32 ≤ lz l then (0, 0, 40) else if l.length < 2 * lz l + 1 then (0, 0, 4) else ((num ((l.drop (lz l)).take (lz l + 1)) : Int), 2 * lz l + 1, 0)
theorem bin_dig_top {k n : Nat} (h1 : 2 ^ k ≤ n) (h2 : n < 2 ^ (k + 1)) : dig (k + 1) n = 1 :: dig k n := by
 have h : n / 2 ^ k = 1 := Nat.div_eq_of_lt_le (by omega) (by rw [qaO] at h2; omega)
 rw [qcz, ygD 1 k, h]
 rfl
theorem ungam_gam (n : Nat) (l : List Nat) (h0 : n ≠ 0) (h : n < 4294967296) : ycf (gam n ++ l) = ((n : Int), 2 * (bl n - 1) + 1, 0) ∧ (gam n).length = 2 * (bl n - 1) + 1 := by
 obtain ⟨a, b, c⟩ := yg3 32 n h0 (by rw [show (2 : Nat) ^ 32 = 4294967296 from by decide]; exact h) (by omega)
 have hle := bl_le h0 h
 obtain ⟨k, hk⟩ : ∃ k, bl n = k + 1 := ⟨bl n - 1, by omega⟩
 rw [hk] at b c hle ⊢
 rw [qbH] at b ⊢
 have hg := gam_is b c h
 have htop := bin_dig_top b c
 have hlz : lz (gam n ++ l) = k := by rw [hg, htop, qak, lz_zeros, qbC, lz_one]; rfl
 have hlen : (gam n).length = 2 * k + 1 := by rw [hg, qae, qaY, yai]; omega
 refine ⟨?_, hlen⟩
 unfold ycf
 rw [hlz, qae, hlen, qag (by omega), qag (by omega), qag (by omega), hg, qak, qbZ (by simp), qcg (by rw [yai]), yd5, Nat.mod_eq_of_lt c]
theorem tbyte_info : (prog.info? 5).map (fun i => (i.zero, i.size, i.bytes)) = some (some (.int .u8 0), 1, 1) := by kernel_rfl
def ydp (l : List Nat) (i : Nat) : List Nat := (l.drop i).take 8 ++ List.replicate (8 - ((l.drop i).take 8).length) 0
theorem ybT (l : List Nat) (i : Nat) : (ydp l i).length = 8 := by
 unfold ydp
 rw [qae, qaY]
 have : ((l.drop i).take 8).length ≤ 8 := by simp; omega
 omega
theorem eight_in (l : List Nat) (i k : Nat) (hk : k < 8) (h : i + k < l.length) : (ydp l i)[k]'(by rw [ybT]; exact hk) = l[i + k] := by
 unfold ydp
 rw [List.getElem_append_left (by simp; omega), List.getElem_take, qbE]
theorem eight_out (l : List Nat) (i k : Nat) (hk : k < 8) (h : l.length ≤ i + k) : (ydp l i)[k]'(by rw [ybT]; exact hk) = 0 := by
 unfold ydp
 rw [List.getElem_append_right (by simp; omega)]
 simp
theorem eight_bin {l : List Nat} (h : Bin l) (i : Nat) : Bin (ydp l i) := Bin.app (fun d hd => h d (qbG (qaV hd))) (fun d hd => by rw [List.eq_of_mem_replicate hd]; omega)
theorem num_zeros (l : List Nat) (k : Nat) : num (l ++ List.replicate k 0) = num l * 2 ^ k := by
 rw [ydo, qaY]
 have : num (List.replicate k 0) = 0 := by rw [← yf0, yd5]; exact Nat.zero_mod _
 omega
theorem text_next (l : List Nat) (q : Nat) (h : 8 * q < l.length) : text (l.take (8 * (q + 1))) = text (l.take (8 * q)) ++ [UInt8.ofNat (num (ydp l (8 * q)))] := by
 have e : l.take (8 * (q + 1)) = l.take (8 * q) ++ (l.drop (8 * q)).take 8 := by rw [show 8 * (q + 1) = 8 * q + 8 from by omega, List.take_add]
 rw [e, yca q _ _ (by simp; omega), ydd ((l.drop (8 * q)).take 8) (by simp; omega) (by simp; omega)]
 unfold ydp
 rw [num_zeros]
theorem num_next (D : List Nat) (k : Nat) (h : k < D.length) : num (D.take (k + 1)) = 2 * num (D.take k) + D[k] := by
 rw [qao h, yfu]
theorem num_small {D : List Nat} (h : Bin D) (k : Nat) (hk : k ≤ 8) : num (D.take k) < 256 := by
 have h5 := num_lt (l := D.take k) (fun d hd => h d (qaV hd))
 have h6 : 2 ^ (D.take k).length ≤ 2 ^ 8 := qaF (by omega) (by simp; omega)
 rw [show (2 : Nat) ^ 8 = 256 from by decide] at h6
 omega
theorem refText_any (l : List Nat) (A : Option Addr) (n c : Nat) (w : World) (hn : l.length = n) (hl : n ≤ 1099511627776) (hr : Reads w w.heap.size 1 A n (bcs l)) (hbin : Bin l) :
  Calls prog 67 #[.slice A n c] w fun e w' => e = .returned (.string ⟨(text l).toArray⟩) ∧ Below w.heap.size w w' := by
 obtain ⟨i0, hi, hz0, hz1, hz2⟩ := qbn tbyte_info
 have hni : (n : Int) ≤ 1099511627776 := by omega
 have Hcell : Hid (0 < n → ∃ b off, A = some ⟨b, off, none⟩ ∧ b < w.heap.size ∧ ∀ k, (hk : k < l.length) → w.cell? ⟨b, off + k, none⟩ = some (.int .i64 (l[k] : Int))) := qaa fun h => reads_at hr h
 have Hn := qaa hn
 have Hbin := qaa hbin
 have Hsmall : Hid (∀ i k, k ≤ 8 → num ((ydp l i).take k) < 256) := qaa fun i k hk => num_small (eight_bin hbin i) k hk
 have Hlen : Hid (∀ k, (text (l.take k)).length ≤ 1099511627780) := qaa fun k => by rw [ybF, qar]; omega
 clear hn hbin hr hl
 go_enter func67, ntmps67
 go_wp2
 go_loopw [3, 4] (fun v i wr => ∃ q : Nat, 8 * q ≤ n + 7 ∧ i = .int .i64 ((8 * q : Nat) : Int) ∧ Hid (wr.ownsRow w.heap.size 5 1 v (text (l.take (8 * q))).length (bc (text (l.take (8 * q)))).toList) ∧ Hid (Below w.heap.size w wr)) (fun _ i _ => n + 8 - (intOf i).toNat)
 case atStart => exact ⟨0, by omega, rfl, qaa (by simpa [ybQ, bc] using qbg w w.heap.size 5 1), qaa (qaj _ _)⟩
 case round =>
  obtain ⟨q, hq, rfl, Hown, Hb⟩ := hrel
  by_cases hlt : 8 * q < n
  ·have hqi : ((8 * q : Nat) : Int) < n := by omega
   have hqb : ((8 * q : Nat) : Int) ≤ 1099511627776 := by omega
   have hnext := text_next l q (by rw [Hn.out]; exact hlt)
   have Hnext := qaa hnext
   have Hq := qaa hq
   clear hnext hq
   generalize hi8 : 8 * q = i at *
   have Hi8 := qaa hi8
   clear hi8
   obtain ⟨b, off, rfl, hb, hc⟩ := Hcell.out (by omega)
   have Hc := qaa hc
   clear hc
   go_wp2
   go_loop [5, 6] (fun x j => ∃ k X : Nat, k ≤ 8 ∧ j = .int .i64 k ∧ x = .int .i64 X ∧ Hid (X = num ((ydp l i).take k))) (fun _ j => 8 - (intOf j).toNat)
   case atStart => exact ⟨0, 0, by omega, rfl, rfl, rfl⟩
   case round =>
    obtain ⟨k, X, hk, rfl, rfl, HX⟩ := hrel
    by_cases hk8 : k < 8
    ·have hki : (k : Int) < 8 := by omega
     have hX : (X : Int) ≤ 255 := by have h7 := Hsmall.out i k hk; have h8 := HX.out; omega
     have Hnum := qaa (num_next (ydp l i) k (by rw [ybT]; exact hk8))
     by_cases hin : i + k < n
     ·have hkl : i + k < l.length := by rw [Hn.out]; exact hin
      have x1 := (Hb.out.cell (p := ⟨b, off + (i + k), none⟩) hb).trans (Hc.out (i + k) hkl)
      have hkn : 0 ≤ (i : Int) + k ∧ (i : Int) + k < n := by omega
      have He := qaa (eight_in l i k hk8 hkl)
      have hd1 : (l[i + k] : Int) ≤ 1 := by have := Hbin.out _ (qam hkl); omega
      generalize l[i + k] = d at *
      clear hkl hin
      go_wp2
      go_round
      case rel =>
       have h7 := Hnum.out
       rw [← HX.out, He.out] at h7
       exact ⟨k + 1, 2 * X + d, by omega, iv (by omega), iv (by omega), qaa h7.symm⟩
      case measure => simp only [intOf]; omega
     ·have hkn : ¬ (i : Int) + k < n := by omega
      have He := qaa (eight_out l i k hk8 (by rw [Hn.out]; omega))
      clear hin
      go_wp2
      go_round
      case rel =>
       have h7 := Hnum.out
       rw [← HX.out, He.out] at h7
       exact ⟨k + 1, 2 * X, by omega, iv (by omega), iv (by omega), qaa h7.symm⟩
      case measure => simp only [intOf]; omega
    ·obtain rfl : k = 8 := by omega
     have hX : (X : Int) ≤ 255 := by have h7 := Hsmall.out i 8 hk; have h8 := HX.out; omega
     have hXe : X = num (ydp l i) := by have := HX.out; rwa [qax (by rw [ybT]; omega)] at this
     have HXe := qaa hXe
     clear hXe
     have hszr := Hb.out.size
     go_wp2_with (at_builtin; refine yaf _ rfl _ _ 36 rfl w.heap.size 5 i0 (.int .u8 0) 1 1 underlying36 hi hz0 hz1 hz2 rfl (by decide) _ _ _ rfl (Hown.out.alloc _) _ 1 1 _ _ rfl (yar wr 5 _ 1 1 rfl) ?c1 ?c2 ?c3 ?c4 ?_)
     case c1 => exact rfl
     case c2 => have := Hlen.out i; unfold maxLen; omega
     case c3 => have := Hlen.out i; omega
     case c4 => first | omega | (simp; omega)
     intro v2 w2 hown2 hgrow hsep
     have hb2 : Below w.heap.size w w2 := (Hb.out.trans ((qaj _ _).alloc hszr _)).grown hgrow (by simp; omega) (fun g hg => (Hown.out.lt g hg).1)
     have hx8 : ((UInt8.ofNat (num (ydp l i))).toNat : Int) = X := by rw [yaw _ (by have := hX; have := HXe.out; omega), HXe.out]
     have hown3 : w2.ownsRow w.heap.size 5 1 v2 (text (l.take (8 * (q + 1)))).length (bc (text (l.take (8 * (q + 1))))).toList := by
      rw [Hnext.out, qae, show bc (text (l.take i) ++ [UInt8.ofNat (num (ydp l i))]) = (((bc (text (l.take i))).toList ++ [Value.int .u8 ((UInt8.ofNat (num (ydp l i))).toNat : Int)]).toArray) from by simp [bc], hx8]
      exact hown2
     have Hown3 := qaa hown3
     have Hb2 := qaa hb2
     clear hown3 hb2 hown2 hgrow hsep hx8
     go_wp2
     go_roundw
     case rel => exact ⟨q + 1, by have := Hi8.out; omega, iv (by have := Hi8.out; omega), Hown3.out, Hb2.out⟩
     case measure => simp only [intOf]; omega
  ·have hfin : l.take (8 * q) = l := qax (by have := Hn.out; omega)
   have hown := Hown.out
   rw [hfin] at hown
   obtain ⟨A', c', rfl, hc', hr'⟩ := yad hown
   have hcv : (convert 36 9 (.slice A' (text l).length c')).run prog wr = .ok (.string ⟨(text l).toArray⟩) wr := ybd underlying36 underlying5 underlying9 wr A' c' _ hr'
   have hlti : ¬ ((8 * q : Nat) : Int) < n := by omega
   clear Hown hown hr' hfin
   generalize (text l).length = m at *
   generalize 8 * q = i at *
   generalize hta : (text l).toArray = ta at *
   have Hta := qaa hta
   clear hta
   go_wp2
   go_ret
   exact ⟨by rw [Hta.out]; rfl, Hb.out⟩
theorem str_from (l : List UInt8) (p : Nat) (hp : p ≤ l.length) (w : World) :
  (Instr.slice 9 (.string ⟨l.toArray⟩) (some (.int .i64 (p : Int))) none none).run prog w = .ok (.string ⟨(l.drop p).toArray⟩) w := by
 rw [run_slice_string_l w 9 ⟨l.toArray⟩ underlying9 .i64 (p : Int) (by omega) (by rw [qaA, qa0]; omega), qbQ, qaA, qa0, qap, qax (by rw [qaz]; omega)]
theorem run_slice_top {P : Program} {t e : TypeId} {i : TypeInfo} {size : Nat} (ht : P.underlying t = some (.slice e)) (hi : P.info? e = some i) (hs : i.size = size) (A : Option Addr) (n c k : Nat) (hk : k ≤ c) (w : World) :
  (Instr.slice t (.slice A n c) none (some (.int .i64 (k : Int))) none).run P w = .ok (.slice A k c) w := by
 have he : P.elem t = e := by simp [Program.elem, ht]
 rw [run_slice_h w t A n c (by rw [he]; exact ht) .i64 k (by omega) (by omega), he]
 simp [sizeOf, typeInfo, hi, hs, sliced]
 intro _
 cases A with
 | none => rfl
 | some a => simp [Addr.add]
theorem s_empty {N : Nat} (W : World) (h : N ≤ W.heap.size) : (W.alloc (.cells #[] 3)).ownsRow N 3 1 (.slice (some ⟨W.heap.size, 0, none⟩) 0 0) 0 (ints []) :=
 ⟨rfl, qaT ⟨W.heap.size, 0, #[], rfl, h, Blk.new W _ _, qaf _, by unfold maxLen; omega, rfl, rfl⟩⟩
def SOne (N : Nat) (W : World) (g : Nat) (x : Int) : Prop := Blk W g 3 #[.int .i64 x] ∧ N ≤ g
theorem SOne.alloc {N g : Nat} {W : World} {x : Int} (h : SOne N W g x) (o : Obj) : SOne N (W.alloc o) g x := ⟨h.1.alloc o, h.2⟩
theorem s_new {N : Nat} (W : World) (x : Int) (h : N ≤ W.heap.size) : SOne N (W.alloc (.cells #[.int .i64 x] 3)) W.heap.size x := ⟨Blk.new W _ _, h⟩
theorem s_reads {N g : Nat} {W : World} {x : Int} (h : SOne N W g x) : Reads W W.heap.size 1 (some ⟨g, 0, none⟩) 1 (ints [x]) := yap (l := [x]) h.1 rfl
theorem s_sepA {N g : Nat} {W : World} {x : Int} (h : SOne N W g x) (o : Obj) : (Value.slice (some ⟨W.heap.size, 0, none⟩) 0 0).ownBlock ≠ some g := fun e => by
 have := h.1.lt
 injection e with e
 simp only at e
 omega
theorem s_sepB {N n : Nat} {W : World} {v : Value} {xs : List Value} (h : W.ownsRow N 3 1 v n xs) : v.ownBlock ≠ some W.heap.size := fun e => by
 have := (h.lt _ e).2
 omega
theorem s_sepC {N g : Nat} {W : World} {x : Int} {v v' : Value} (h : SOne N W g x) (hv : v.ownBlock ≠ some g) (hs : Sep W v v') : v'.ownBlock ≠ some g := fun e => by
 have := h.1.lt
 rcases hs g e with e2 | e2
 ·exact hv e2
 ·omega
theorem s_keep {N g : Nat} {W W' : World} {x : Int} {v : Value} (h : SOne N W g x) (hv : v.ownBlock ≠ some g) (hg : W.grownBy W' v.ownBlock) : SOne N W' g x := ⟨h.1.grow' hg hv, h.2⟩
theorem yaQ {w1 W W' : World} {n : Nat} {v : Value} {xs : List Value} (hb : Below w1.heap.size w1 W) (h : W.ownsRow w1.heap.size 3 1 v n xs) (hg : W.grownBy W' v.ownBlock) : Below w1.heap.size w1 W' := hb.grown hg hb.size fun b hb => (h.lt b hb).1
theorem s_base {N M n : Nat} {W : World} {v : Value} {xs : List Value} (h : W.ownsRow N 3 1 v n xs) (hm : M ≤ N) : W.ownsRow M 3 1 v n xs := by
 refine ⟨h.1, ?_⟩
 rcases h.2 with h0 | ⟨g, cap, cur, a1, a2, rest⟩
 ·exact qat h0
 ·exact qaT ⟨g, cap, cur, a1, qa7 hm a2, rest⟩
theorem s_three (a b : List Nat) (k : Nat) : splc (a ++ k :: b) = (([] ++ splc a) ++ [(k : Int)]) ++ splc b := by simp [splc]
theorem Reads.headOf {w : World} {B n m : Nat} {A : Option Addr} {xs : List Value} (h : Reads w B 1 A n xs) (hm : m ≤ n) : Reads w B 1 A m (xs.take m) := by
 refine ⟨by rw [qar, h.1]; omega, fun hp => ?_⟩
 obtain ⟨b, off, e, hb, hc⟩ := h.2 (by omega)
 refine ⟨b, off, e, hb, fun j u hu => hc j u ?_⟩
 rw [List.getElem?_take] at hu
 split at hu
 ·exact hu
 ·cases hu
theorem saF_no {s : List UInt8} (h : 20000 < s.length) : saF s = ([], 3) := qah h
theorem saF_yes {s : List UInt8} (h : ¬ 20000 < s.length) : saF s = (splc (sarr s), 0) := qag h
theorem sref_array_any (s : List UInt8) (w : World) (hs : s.length ≤ 1099511627776) :
  Calls prog 77 #[.string ⟨s.toArray⟩] w fun e w' => LPost w w' e (saF s) := by
 obtain ⟨i0, hi, hz0, hz1, hz9⟩ := qbn ycy
 have hsi : (s.length : Int) ≤ 1099511627776 := by omega
 by_cases hbig : 20000 < s.length
 ·rw [saF_no hbig]
  have hb1 : (20000 : Int) < (s.length : Int) := by omega
  go_enter func77, ntmps77
  go_wp2
  go_ret2
  exact lpost_none (qaj _ _)
 have hb1 : ¬ (20000 : Int) < (s.length : Int) := by omega
 have hst : ∀ p, p ≤ s.length → ∀ w, (Instr.slice 9 (.string ⟨s.toArray⟩) (some (.int .i64 (p : Int))) none none).run prog w = .ok (.string ⟨(s.drop p).toArray⟩) w := fun p hp w => str_from s p hp w
 rw [saF_yes hbig]
 have htl : ∀ l : List UInt8, (ByteArray.mk l.toArray).toList = l := fun l => by rw [Lib.toList_data]
 have Hst := qaa hst
 have Hbig := qaa hbig
 clear hst hbig
 go_enter func77, ntmps77
 go_wp2
 go_loopw [4, 5, 6, 7, 8] (fun v i lx hx mx wr => ∃ (k : Nat) (Av : Option Addr) (cv : Nat), k ≤ s.length + 1 ∧ v = .slice Av k cv ∧ i = .int .i64 k ∧ Hid (wr.ownsRow w.heap.size 3 1 (.slice Av k cv) k (ints (splc (slay (slt s) k)))) ∧ Hid (Below w.heap.size w wr)) (fun _ i _ _ _ _ => s.length + 1 - (intOf i).toNat)
 case atStart => exact ⟨0, none, 0, by omega, rfl, rfl, qaa (qbg _ _ _ _), qaa (qaj _ _)⟩
 case round =>
  obtain ⟨k, Av, cv, hk, rfl, rfl, HO, HB⟩ := hrel
  obtain ⟨w1, rfl⟩ : ∃ w1, w1 = wr := ⟨_, rfl⟩
  by_cases hlt : k ≤ s.length
  ·have hki : (k : Int) ≤ (s.length : Int) := by omega
   have hsk := Hst.out k hlt
   obtain ⟨A2, c2, e2, hkc, hrd⟩ := yad HO.out
   injection e2 with e3 _ e4
   subst e3 e4
   have hlen := yfn (slt s) k
   have hmem := ydZ (slt s) k
   have hsort := ydQ (yce s) k (by omega)
   have Hsort := qaa hsort
   have Hlen := qaa hlen
   have Hmem := qaa hmem
   have Hrd := qaa hrd
   clear hsort hmem hrd
   obtain ⟨L, hL⟩ : ∃ L, slay (slt s) k = L := ⟨_, rfl⟩
   have HL := qaa hL
   rw [hL] at HO Hsort Hlen Hmem Hrd hlen
   clear hL hlen
   go_wp2
   go_loopw [6, 7, 8] (fun lx hx mx W => ∃ lo hi : Nat, lo ≤ hi ∧ hi ≤ k ∧ lx = .int .i64 lo ∧ hx = .int .i64 hi ∧ Hid (∀ i (h : i < L.length), i < lo → slt s L[i] k = true) ∧ Hid (∀ i (h : i < L.length), hi ≤ i → slt s L[i] k = false) ∧ Hid (Below w1.heap.size w1 W)) (fun lx hx _ _ => (intOf hx).toNat - (intOf lx).toNat)
   case atStart => exact ⟨0, k, by omega, by omega, rfl, rfl, qaa fun i _ h => by omega, qaa fun i h h2 => by rw [Hlen.out] at h; omega, qaa (qaj _ _)⟩
   case round =>
    obtain ⟨lo, hi2, hlh, hhk, rfl, rfl, H1, H2, HW⟩ := hrel
    by_cases hll : lo < hi2
    ·have hli : (lo : Int) < (hi2 : Int) := by omega
     obtain ⟨m, hm⟩ : ∃ m, (lo + hi2) / 2 = m := ⟨_, rfl⟩
     have hmi : ((lo : Int) + (hi2 : Int)) / 2 = (m : Int) := by omega
     have hmb : lo ≤ m ∧ m < hi2 := by omega
     have hmz : (0 : Int) ≤ (m : Int) ∧ (m : Int) < (k : Int) ∧ (hi2 : Int) ≤ 20001 := by omega
     have hml : m < L.length := by rw [Hlen.out]; omega
     obtain ⟨b, off, rfl, hbl, hc⟩ := Hrd.out.2 (by omega)
     have x1 := (HW.out.cell (p := ⟨b, off + m, none⟩) hbl).trans (hc m _ (yak _ m (by rw [yao]; exact hml)))
     rw [yfo] at x1
     have hq := (Hmem.out L[m]).1 (qam hml)
     have hsq := Hst.out L[m] (by omega)
     have hb0 : Op.bytesLess (s.drop L[m]) (s.drop k) = slt s L[m] k := rfl
     cases hd : slt s L[m] k with
     | true =>
      rw [hd] at hb0
      have H1' : Hid (∀ i (h : i < L.length), i < m + 1 → slt s L[i] k = true) := qaa fun i hi him => by
       rcases Nat.lt_or_eq_of_le (Nat.lt_succ_iff.1 him) with h | h
       ·exact (yce s).tr _ _ _ (ybK Hsort.out i m hi hml h) hd
       ·subst h; exact hd
      clear hd hc
      generalize L[m] = p at *
      go_wp2
      go_quiet (fail)
      go_wp2
      go_roundw
      case rel => exact ⟨m + 1, hi2, by omega, by omega, iv (by omega), rfl, H1', H2, qaa (yaj HW.out _)⟩
      case measure => simp only [intOf]; omega
     | false =>
      rw [hd] at hb0
      have H2' : Hid (∀ i (h : i < L.length), m ≤ i → slt s L[i] k = false) := qaa fun i hi him => by
       rcases Nat.lt_or_eq_of_le him with h | h
       ·cases h2 : slt s L[i] k with
        | false => rfl
        | true =>
         have := (yce s).tr _ _ _ (ybK Hsort.out m i hml hi h) h2
         rw [hd] at this
         cases this
       ·subst h; exact hd
      clear hd hc
      generalize L[m] = p at *
      go_wp2
      go_quiet (fail)
      go_wp2
      go_roundw
      case rel => exact ⟨lo, m, by omega, by omega, rfl, iv hmi, H1, H2', qaa (yaj HW.out _)⟩
      case measure => simp only [intOf]; omega
    ·obtain rfl : lo = hi2 := by omega
     have hii : ¬ (lo : Int) < (lo : Int) := by omega
     have hcut := scut_is (slt s) k L lo (by rw [Hlen.out]; exact hhk) H1.out (fun i hi he => H2.out i hi (by omega))
     have hins : slay (slt s) (k + 1) = L.take lo ++ k :: L.drop lo := by
      show sins (slt s) k (slay (slt s) k) = _
      rw [HL.out]
      unfold sins
      rw [hcut]
     have Hins := qaa hins
     have htop := fun W => run_slice_top (P := prog) underlying28 hi hz1 Av k cv lo (by omega) W
     have hfrom := fun W => ybw (P := prog) underlying28 hi hz1 Av k cv lo (by omega) W
     have hcutr := Hrd.out.cut (k := lo) (cap := cv) (by omega) hkc
     rw [qc1, gints_drop, splc_drop] at hcutr
     rw [qc1] at hfrom
     obtain ⟨A5, hA5⟩ : ∃ A5, (if cv = lo then Av else Av.map (·.add lo)) = A5 := ⟨_, rfl⟩
     rw [hA5] at hcutr hfrom
     obtain ⟨c5, hc5⟩ : ∃ c5, cv - lo = c5 := ⟨_, rfl⟩
     rw [hc5] at hfrom
     have hfr := Hrd.out.headOf (m := lo) (by omega)
     rw [gints_take, splc_take] at hfr
     have HR1 := qaa fun (W : World) (h : Below w1.heap.size w1 W) => hfr.below h
     have HR2 := qaa fun (W : World) (h : Below w1.heap.size w1 W) => hcutr.below h
     have HBw := qaa HW.out.drew
     have hlk : lo ≤ k ∧ k ≤ 20001 := by have := Hbig.out; omega
     clear hcut hins hA5 hc5 hfr hcutr hsk
     go_wp2
     -- INS
     refine qb4 (S := (fun _ => True)) (by kernel_rfl) (trivial) (fun hHeld => ?_)
     refine qal (i := 1) (oi := _) (v := ?_) rfl (by kernel_rfl) (by kernel_rfl) (by kernel_rfl) (fun _ _ _ h => h) (qat ⟨by rfl, ?_⟩) hHeld ?_
     rotate_left
     ·(intro wz hSw; go_simp; try (with_reducible rfl))
     try simp only [Act.put, qab, qad, qac]
     refine qal (i := 2) (oi := _) (v := ?_) rfl (by kernel_rfl) (by kernel_rfl) (by kernel_rfl) (fun _ _ _ h => h) (qat ⟨by rfl, ?_⟩) hHeld ?_
     rotate_left
     ·(intro wz hSw; go_simp; try (with_reducible rfl))
     try simp only [Act.put, qab, qad, qac]
     refine qal (i := 3) (oi := _) (v := ?_) rfl (by kernel_rfl) (by kernel_rfl) (by kernel_rfl) (fun _ _ _ h => h) (qat ⟨by rfl, ?_⟩) hHeld ?_
     rotate_left
     ·(intro wz hSw; go_simp; try (with_reducible rfl))
     try simp only [Act.put, qab, qad, qac]
     refine qal (i := 5) (oi := _) (v := ?_) rfl (by kernel_rfl) (by kernel_rfl) (by kernel_rfl) (fun _ _ _ h => h) (qat ⟨by rfl, ?_⟩) hHeld ?_
     rotate_left
     ·(intro wz hSw; go_simp; try (with_reducible rfl))
     try simp only [Act.put, qab, qad, qac]
     refine qal (i := 8) (oi := _) (v := ?_) rfl (by kernel_rfl) (by kernel_rfl) (by kernel_rfl) (fun _ _ _ h => h) (qat ⟨by rfl, ?_⟩) hHeld ?_
     rotate_left
     ·(intro wz hSw; go_simp; try (with_reducible rfl))
     try simp only [Act.put, qab, qad, qac]
     refine qal (i := 9) (oi := _) (v := ?_) rfl (by kernel_rfl) (by kernel_rfl) (by kernel_rfl) (fun _ _ _ h => h) (qat ⟨by rfl, ?_⟩) hHeld ?_
     rotate_left
     ·(intro wz hSw; go_simp; try (with_reducible rfl))
     try simp only [Act.put, qab, qad, qac]
     refine qal (i := 10) (oi := _) (v := ?_) rfl (by kernel_rfl) (by kernel_rfl) (by kernel_rfl) (fun _ _ _ h => h) (qat ⟨by rfl, ?_⟩) hHeld ?_
     rotate_left
     ·(intro wz hSw; go_simp; try (with_reducible rfl))
     try simp only [Act.put, qab, qad, qac]
     refine qaB (rs := [0, 6]) (by kernel_rfl) (by simp) ?_
     refine qav (o := _) rfl (fun K hK => ?_) ?_
     ·skip
      go_simp
      refine hK.out _ _ (trivial) (fun _ => ?_)
      clear hK K
      have HA := qaa (s_empty _ HBw.out.size)
      try (have HS := qaa (s_sepA HX.out (.cells #[] 3)))
      try (replace HX := qaa (HX.out.alloc (.cells #[] 3)))
      replace HBw := qaa (HBw.out.alloc HBw.out.size (.cells #[] 3))
      try rw [qas] at HA
      try rw [qas] at HS
      try simp only [Act.put, qab, qad, qac]
      refine qaB (rs := [4, 6]) (by kernel_rfl) (by simp) ?_
      refine qav (o := _) rfl (fun K hK => ?_) ?_
      ·skip
       refine yab (by rfl) (.tmp 40) (.tmp 43) 28 (by rfl) w1.heap.size 3 i0 _ 1 8 underlying28 hi hz0 hz1 hz9 rfl (by decide) _ 0 (ints ([])) (by rfl) HA.out Av lo cv _ (ints (splc (L.take lo))) (by rfl) (HR1.out _ HBw.out) (yaz _) (by unfold maxLen; omega) (by omega) HBw.out.size (lo) (qaE lo) ?_
       intro A_HA1 c_HA1 w_HA1 ho_ hg_ hs_
       refine hK.out _ _ (trivial) (fun _ => ?_)
       clear hK K
       try (have HS2 := qaa (s_sepC HX.out HS.out hs_))
       try (replace HX := qaa (s_keep HX.out HS.out hg_))
       try (replace HS := HS2)
       have HA1 : Hid (w_HA1.ownsRow w1.heap.size 3 1 (.slice A_HA1 (lo) c_HA1) (lo) (ints (([]) ++ (splc (L.take lo))))) := qaa (by rw [yan]; exact ho_)
       replace HBw := qaa (yaQ HBw.out HA.out hg_)
       clear ho_ hg_ hs_
       try simp only [Act.put, qab, qad, qac]
       refine qaB (rs := [6]) (by kernel_rfl) (by simp) ?_
       refine qav (o := _) rfl (fun K hK => ?_) qa4
       go_simp
       refine hK.out _ _ (trivial) (fun _ => ?_)
       clear hK K
       have HX := qaa (s_new _ (k : Int) HBw.out.size)
       try (have HS := qaa (s_sepB HA.out))
       try (have HS := qaa (s_sepB HA1.out))
       try (replace HA := qaa (HA.out.alloc (.cells #[.int .i64 (k : Int)] 3)))
       try (replace HA1 := qaa (HA1.out.alloc (.cells #[.int .i64 (k : Int)] 3)))
       replace HBw := qaa (HBw.out.alloc HBw.out.size (.cells #[.int .i64 (k : Int)] 3))
       try rw [qas] at HX
       try rw [qas] at HS
       try simp only [Act.put, qab, qad, qac]
       refine qaB (rs := [7]) (by kernel_rfl) (by simp) ?_
       refine qav (o := _) rfl (fun K hK => ?_) qa4
       refine yab (by rfl) (.tmp 44) (.tmp 46) 28 (by rfl) w1.heap.size 3 i0 _ 1 8 underlying28 hi hz0 hz1 hz9 rfl (by decide) _ lo (ints ([] ++ splc (L.take lo))) (by rfl) HA1.out _ 1 1 _ (ints ([(k : Int)])) (by rfl) (s_reads HX.out) (yaz _) (by unfold maxLen; omega) (by omega) HBw.out.size (lo + 1) rfl ?_
       intro A_HA2 c_HA2 w_HA2 ho_ hg_ hs_
       refine hK.out _ _ (trivial) (fun _ => ?_)
       clear hK K
       have HA2 : Hid (w_HA2.ownsRow w1.heap.size 3 1 (.slice A_HA2 (lo + 1) c_HA2) (lo + 1) (ints (([] ++ splc (L.take lo)) ++ ([(k : Int)])))) := qaa (by rw [yan]; exact ho_)
       replace HBw := qaa (yaQ HBw.out HA1.out hg_)
       clear ho_ hg_ hs_
       try simp only [Act.put, qab, qad, qac]
       refine qaB (rs := [11]) (by kernel_rfl) (by simp) ?_
       refine qav (o := _) rfl (fun K hK => ?_) qa4
       refine yab (by rfl) (.tmp 47) (.tmp 50) 28 (by rfl) w1.heap.size 3 i0 _ 1 8 underlying28 hi hz0 hz1 hz9 rfl (by decide) _ (lo + 1) (ints (([] ++ splc (L.take lo)) ++ [(k : Int)])) (by rfl) HA2.out A5 (k - lo) c5 _ (ints (splc (L.drop lo))) (by rfl) (HR2.out _ HBw.out) (yaz _) (by unfold maxLen; omega) (by omega) HBw.out.size (k + 1) (by omega) ?_
       intro A_HA3 c_HA3 w_HA3 ho_ hg_ hs_
       refine hK.out _ _ (trivial) (fun _ => ?_)
       clear hK K
       have HA3 : Hid (w_HA3.ownsRow w1.heap.size 3 1 (.slice A_HA3 (k + 1) c_HA3) (k + 1) (ints ((([] ++ splc (L.take lo)) ++ [(k : Int)]) ++ (splc (L.drop lo))))) := qaa (by rw [yan]; exact ho_)
       replace HBw := qaa (yaQ HBw.out HA2.out hg_)
       clear ho_ hg_ hs_
       try simp only [Act.put, qab, qad, qac]
       refine qal (i := 12) (oi := _) (v := ?_) rfl (by kernel_rfl) (by kernel_rfl) (by kernel_rfl) (fun _ _ _ h => h) (qat ⟨by rfl, ?_⟩) hHeld ?_
       rotate_left
       ·(intro wz hSw; go_simp; try (with_reducible rfl))
       try simp only [Act.put, qab, qad, qac]
       refine qb3 (by kernel_rfl) ?_ _
       have HF : Hid (w_HA3.ownsRow w.heap.size 3 1 (.slice A_HA3 (k + 1) c_HA3) (k + 1) (ints (splc (slay (slt s) (k + 1))))) := qaa (by rw [Hins.out, s_three]; exact s_base HA3.out HB.out.size)
       have HG := qaa (HB.out.trans (HBw.out.mono HB.out.size))
       go_wp2
       go_roundw
       case rel => exact ⟨k + 1, A_HA3, c_HA3, by omega, rfl, iv (by omega), HF, HG⟩
       case measure => simp only [intOf]; omega
      refine qav (o := _) rfl (fun K hK => ?_) qa4
      go_simp
      refine hK.out _ _ (trivial) (fun _ => ?_)
      clear hK K
      have HX := qaa (s_new _ (k : Int) HBw.out.size)
      try (have HS := qaa (s_sepB HA.out))
      try (have HS := qaa (s_sepB HA1.out))
      try (replace HA := qaa (HA.out.alloc (.cells #[.int .i64 (k : Int)] 3)))
      try (replace HA1 := qaa (HA1.out.alloc (.cells #[.int .i64 (k : Int)] 3)))
      replace HBw := qaa (HBw.out.alloc HBw.out.size (.cells #[.int .i64 (k : Int)] 3))
      try rw [qas] at HX
      try rw [qas] at HS
      try simp only [Act.put, qab, qad, qac]
      refine qaB (rs := [4]) (by kernel_rfl) (by simp) ?_
      refine qav (o := _) rfl (fun K hK => ?_) qa4
      refine yab (by rfl) (.tmp 40) (.tmp 43) 28 (by rfl) w1.heap.size 3 i0 _ 1 8 underlying28 hi hz0 hz1 hz9 rfl (by decide) _ 0 (ints ([])) (by rfl) HA.out Av lo cv _ (ints (splc (L.take lo))) (by rfl) (HR1.out _ HBw.out) (yaz _) (by unfold maxLen; omega) (by omega) HBw.out.size (lo) (qaE lo) ?_
      intro A_HA1 c_HA1 w_HA1 ho_ hg_ hs_
      refine hK.out _ _ (trivial) (fun _ => ?_)
      clear hK K
      try (have HS2 := qaa (s_sepC HX.out HS.out hs_))
      try (replace HX := qaa (s_keep HX.out HS.out hg_))
      try (replace HS := HS2)
      have HA1 : Hid (w_HA1.ownsRow w1.heap.size 3 1 (.slice A_HA1 (lo) c_HA1) (lo) (ints (([]) ++ (splc (L.take lo))))) := qaa (by rw [yan]; exact ho_)
      replace HBw := qaa (yaQ HBw.out HA.out hg_)
      clear ho_ hg_ hs_
      try simp only [Act.put, qab, qad, qac]
      refine qaB (rs := [7]) (by kernel_rfl) (by simp) ?_
      refine qav (o := _) rfl (fun K hK => ?_) qa4
      refine yab (by rfl) (.tmp 44) (.tmp 46) 28 (by rfl) w1.heap.size 3 i0 _ 1 8 underlying28 hi hz0 hz1 hz9 rfl (by decide) _ lo (ints ([] ++ splc (L.take lo))) (by rfl) HA1.out _ 1 1 _ (ints ([(k : Int)])) (by rfl) (s_reads HX.out) (yaz _) (by unfold maxLen; omega) (by omega) HBw.out.size (lo + 1) rfl ?_
      intro A_HA2 c_HA2 w_HA2 ho_ hg_ hs_
      refine hK.out _ _ (trivial) (fun _ => ?_)
      clear hK K
      have HA2 : Hid (w_HA2.ownsRow w1.heap.size 3 1 (.slice A_HA2 (lo + 1) c_HA2) (lo + 1) (ints (([] ++ splc (L.take lo)) ++ ([(k : Int)])))) := qaa (by rw [yan]; exact ho_)
      replace HBw := qaa (yaQ HBw.out HA1.out hg_)
      clear ho_ hg_ hs_
      try simp only [Act.put, qab, qad, qac]
      refine qaB (rs := [11]) (by kernel_rfl) (by simp) ?_
      refine qav (o := _) rfl (fun K hK => ?_) qa4
      refine yab (by rfl) (.tmp 47) (.tmp 50) 28 (by rfl) w1.heap.size 3 i0 _ 1 8 underlying28 hi hz0 hz1 hz9 rfl (by decide) _ (lo + 1) (ints (([] ++ splc (L.take lo)) ++ [(k : Int)])) (by rfl) HA2.out A5 (k - lo) c5 _ (ints (splc (L.drop lo))) (by rfl) (HR2.out _ HBw.out) (yaz _) (by unfold maxLen; omega) (by omega) HBw.out.size (k + 1) (by omega) ?_
      intro A_HA3 c_HA3 w_HA3 ho_ hg_ hs_
      refine hK.out _ _ (trivial) (fun _ => ?_)
      clear hK K
      have HA3 : Hid (w_HA3.ownsRow w1.heap.size 3 1 (.slice A_HA3 (k + 1) c_HA3) (k + 1) (ints ((([] ++ splc (L.take lo)) ++ [(k : Int)]) ++ (splc (L.drop lo))))) := qaa (by rw [yan]; exact ho_)
      replace HBw := qaa (yaQ HBw.out HA2.out hg_)
      clear ho_ hg_ hs_
      try simp only [Act.put, qab, qad, qac]
      refine qal (i := 12) (oi := _) (v := ?_) rfl (by kernel_rfl) (by kernel_rfl) (by kernel_rfl) (fun _ _ _ h => h) (qat ⟨by rfl, ?_⟩) hHeld ?_
      rotate_left
      ·(intro wz hSw; go_simp; try (with_reducible rfl))
      try simp only [Act.put, qab, qad, qac]
      refine qb3 (by kernel_rfl) ?_ _
      have HF : Hid (w_HA3.ownsRow w.heap.size 3 1 (.slice A_HA3 (k + 1) c_HA3) (k + 1) (ints (splc (slay (slt s) (k + 1))))) := qaa (by rw [Hins.out, s_three]; exact s_base HA3.out HB.out.size)
      have HG := qaa (HB.out.trans (HBw.out.mono HB.out.size))
      go_wp2
      go_roundw
      case rel => exact ⟨k + 1, A_HA3, c_HA3, by omega, rfl, iv (by omega), HF, HG⟩
      case measure => simp only [intOf]; omega
     refine qav (o := _) rfl (fun K hK => ?_) qa4
     go_simp
     refine hK.out _ _ (trivial) (fun _ => ?_)
     clear hK K
     have HX := qaa (s_new _ (k : Int) HBw.out.size)
     try (have HS := qaa (s_sepB HA.out))
     try (have HS := qaa (s_sepB HA1.out))
     try (replace HA := qaa (HA.out.alloc (.cells #[.int .i64 (k : Int)] 3)))
     try (replace HA1 := qaa (HA1.out.alloc (.cells #[.int .i64 (k : Int)] 3)))
     replace HBw := qaa (HBw.out.alloc HBw.out.size (.cells #[.int .i64 (k : Int)] 3))
     try rw [qas] at HX
     try rw [qas] at HS
     try simp only [Act.put, qab, qad, qac]
     refine qaB (rs := [0]) (by kernel_rfl) (by simp) ?_
     refine qav (o := _) rfl (fun K hK => ?_) qa4
     go_simp
     refine hK.out _ _ (trivial) (fun _ => ?_)
     clear hK K
     have HA := qaa (s_empty _ HBw.out.size)
     try (have HS := qaa (s_sepA HX.out (.cells #[] 3)))
     try (replace HX := qaa (HX.out.alloc (.cells #[] 3)))
     replace HBw := qaa (HBw.out.alloc HBw.out.size (.cells #[] 3))
     try rw [qas] at HA
     try rw [qas] at HS
     try simp only [Act.put, qab, qad, qac]
     refine qaB (rs := [4]) (by kernel_rfl) (by simp) ?_
     refine qav (o := _) rfl (fun K hK => ?_) qa4
     refine yab (by rfl) (.tmp 40) (.tmp 43) 28 (by rfl) w1.heap.size 3 i0 _ 1 8 underlying28 hi hz0 hz1 hz9 rfl (by decide) _ 0 (ints ([])) (by rfl) HA.out Av lo cv _ (ints (splc (L.take lo))) (by rfl) (HR1.out _ HBw.out) (yaz _) (by unfold maxLen; omega) (by omega) HBw.out.size (lo) (qaE lo) ?_
     intro A_HA1 c_HA1 w_HA1 ho_ hg_ hs_
     refine hK.out _ _ (trivial) (fun _ => ?_)
     clear hK K
     try (have HS2 := qaa (s_sepC HX.out HS.out hs_))
     try (replace HX := qaa (s_keep HX.out HS.out hg_))
     try (replace HS := HS2)
     have HA1 : Hid (w_HA1.ownsRow w1.heap.size 3 1 (.slice A_HA1 (lo) c_HA1) (lo) (ints (([]) ++ (splc (L.take lo))))) := qaa (by rw [yan]; exact ho_)
     replace HBw := qaa (yaQ HBw.out HA.out hg_)
     clear ho_ hg_ hs_
     try simp only [Act.put, qab, qad, qac]
     refine qaB (rs := [7]) (by kernel_rfl) (by simp) ?_
     refine qav (o := _) rfl (fun K hK => ?_) qa4
     refine yab (by rfl) (.tmp 44) (.tmp 46) 28 (by rfl) w1.heap.size 3 i0 _ 1 8 underlying28 hi hz0 hz1 hz9 rfl (by decide) _ lo (ints ([] ++ splc (L.take lo))) (by rfl) HA1.out _ 1 1 _ (ints ([(k : Int)])) (by rfl) (s_reads HX.out) (yaz _) (by unfold maxLen; omega) (by omega) HBw.out.size (lo + 1) rfl ?_
     intro A_HA2 c_HA2 w_HA2 ho_ hg_ hs_
     refine hK.out _ _ (trivial) (fun _ => ?_)
     clear hK K
     have HA2 : Hid (w_HA2.ownsRow w1.heap.size 3 1 (.slice A_HA2 (lo + 1) c_HA2) (lo + 1) (ints (([] ++ splc (L.take lo)) ++ ([(k : Int)])))) := qaa (by rw [yan]; exact ho_)
     replace HBw := qaa (yaQ HBw.out HA1.out hg_)
     clear ho_ hg_ hs_
     try simp only [Act.put, qab, qad, qac]
     refine qaB (rs := [11]) (by kernel_rfl) (by simp) ?_
     refine qav (o := _) rfl (fun K hK => ?_) qa4
     refine yab (by rfl) (.tmp 47) (.tmp 50) 28 (by rfl) w1.heap.size 3 i0 _ 1 8 underlying28 hi hz0 hz1 hz9 rfl (by decide) _ (lo + 1) (ints (([] ++ splc (L.take lo)) ++ [(k : Int)])) (by rfl) HA2.out A5 (k - lo) c5 _ (ints (splc (L.drop lo))) (by rfl) (HR2.out _ HBw.out) (yaz _) (by unfold maxLen; omega) (by omega) HBw.out.size (k + 1) (by omega) ?_
     intro A_HA3 c_HA3 w_HA3 ho_ hg_ hs_
     refine hK.out _ _ (trivial) (fun _ => ?_)
     clear hK K
     have HA3 : Hid (w_HA3.ownsRow w1.heap.size 3 1 (.slice A_HA3 (k + 1) c_HA3) (k + 1) (ints ((([] ++ splc (L.take lo)) ++ [(k : Int)]) ++ (splc (L.drop lo))))) := qaa (by rw [yan]; exact ho_)
     replace HBw := qaa (yaQ HBw.out HA2.out hg_)
     clear ho_ hg_ hs_
     try simp only [Act.put, qab, qad, qac]
     refine qal (i := 12) (oi := _) (v := ?_) rfl (by kernel_rfl) (by kernel_rfl) (by kernel_rfl) (fun _ _ _ h => h) (qat ⟨by rfl, ?_⟩) hHeld ?_
     rotate_left
     ·(intro wz hSw; go_simp; try (with_reducible rfl))
     try simp only [Act.put, qab, qad, qac]
     refine qb3 (by kernel_rfl) ?_ _
     have HF : Hid (w_HA3.ownsRow w.heap.size 3 1 (.slice A_HA3 (k + 1) c_HA3) (k + 1) (ints (splc (slay (slt s) (k + 1))))) := qaa (by rw [Hins.out, s_three]; exact s_base HA3.out HB.out.size)
     have HG := qaa (HB.out.trans (HBw.out.mono HB.out.size))
     go_wp2
     go_roundw
     case rel => exact ⟨k + 1, A_HA3, c_HA3, by omega, rfl, iv (by omega), HF, HG⟩
     case measure => simp only [intOf]; omega
     -- END INS
  ·obtain rfl : k = s.length + 1 := by omega
   have hii : ¬ ((s.length + 1 : Nat) : Int) ≤ (s.length : Int) := by omega
   obtain ⟨A2, c2, e2, hkc, hrd⟩ := yad HO.out
   injection e2 with e3 _ e4
   subst e3 e4
   have Hrd := qaa hrd
   have Hkc := qaa hkc
   have Hln : Hid ((splc (sarr s)).length = s.length + 1) := qaa (by rw [yao]; exact yfn _ _)
   clear hrd hkc
   go_wp2
   go_ret2
   exact lpost_row Hln.out Hkc.out Hrd.out HB.out
theorem sbyteD {s : List UInt8} {p : Nat} (h : p < s.length) : s.getD p 0 = s[p] := by rw [qaw, qan h]; rfl
theorem s_same1_any (s : List UInt8) (a b pb : Nat) (w : World) (ha : a ≤ s.length) (hb : b < s.length) (hs : s.length ≤ 1000000) (hP : w.cell? ⟨pb, 0, none⟩ = some (.string ⟨s.toArray⟩)) :
  Calls prog 160 #[.int .i64 (a : Int), .int .i64 (b : Int), .pointer (some ⟨pb, 0, none⟩)] w fun e w' => e = .returned (.bool (yfc s a b)) ∧ ∃ m, w' = w.drewN m := by
 have hi : (0 : Int) ≤ (a : Int) ∧ (a : Int) ≤ (s.length : Int) ∧ (0 : Int) ≤ (b : Int) ∧ (b : Int) < (s.length : Int) ∧ (s.length : Int) ≤ 1000000 := by omega
 by_cases h1 : a < s.length
 ·have b1 : decide ((a : Int) < (s.length : Int)) = true := by rw [qbU]; omega
  have h1i : (a : Int) < (s.length : Int) := by omega
  have e1 : ∀ h, ((⟨s.toArray⟩ : ByteArray)[a]'h) = s[a] := fun h => rfl
  have e2 : ∀ h, ((⟨s.toArray⟩ : ByteArray)[b]'h) = s[b] := fun h => rfl
  by_cases h3 : s[a] = s[b]
  ·have b3 : ((s[a].toNat : Int) == (s[b].toNat : Int)) = true := by rw [h3]; simp
   have fin : yfc s a b = true := by unfold yfc; rw [sbyteD h1, sbyteD hb, h3]; simp [h1]
   rw [fin]
   clear fin h3
   go_enter func160, ntmps160
   go_wp2
   go_quiet (fail)
   go_wp2
   go_ret
   exact ⟨rfl, _, rfl⟩
  ·have b3 : ((s[a].toNat : Int) == (s[b].toNat : Int)) = false := by
    rw [qbw]
    intro e
    exact h3 (UInt8.toNat_inj.1 (by omega))
   have fin : yfc s a b = false := by unfold yfc; rw [sbyteD h1, sbyteD hb]; simp [h3]
   rw [fin]
   clear fin h3
   go_enter func160, ntmps160
   go_wp2
   go_quiet (fail)
   go_wp2
   go_ret
   exact ⟨rfl, _, rfl⟩
 ·have b1 : decide ((a : Int) < (s.length : Int)) = false := by rw [decide_eq_false_iff_not]; omega
  have fin : yfc s a b = false := by unfold yfc; simp [h1]
  rw [fin]
  clear fin
  go_enter func160, ntmps160
  go_wp2
  go_quiet (fail)
  go_wp2
  go_ret
  exact ⟨rfl, _, rfl⟩
def kL (kd : Nat → Nat) (n : Nat) : List Int := rng n fun p => (kd p : Int)
theorem kL_len (kd : Nat → Nat) (n : Nat) : (kL kd n).length = n := ybE _ _
theorem kL_get (kd : Nat → Nat) (n p : Nat) (h : p < (kL kd n).length) : (kL kd n)[p] = (kd p : Int) := ycp _ _ _ h
theorem yc0 {w : World} {g n : Nat} {t : TypeId} {kd : Nat → Nat} (h : Blk w g t (ints (kL kd n)).toArray) (p : Nat) (hp : p < n) : w.cell? ⟨g, p, none⟩ = some (.int .i64 (kd p : Int)) := by
 have hl : p < (kL kd n).length := by rw [kL_len]; exact hp
 have := yaI h p hl
 rwa [kL_get] at this
theorem s_same2_any (kd : Nat → Nat) (n h a b pb g c : Nat) (A : Option Addr) (w : World) (hn : n ≤ 1000001) (hh : h ≤ 1000001) (ha : a < n) (hb : b < n) (hr : kd a = kd b → a + h < n ∧ b + h < n)
  (hP : Blk w pb 155 #[.slice A n c, .slice (some ⟨g, 0, none⟩) n n, .int .i64 (h : Int)]) (hG : Blk w g 3 (ints (kL kd n)).toArray) :
  Calls prog 163 #[.int .i64 (a : Int), .int .i64 (b : Int), .pointer (some ⟨pb, 0, none⟩)] w fun e w' => e = .returned (.bool (yfX kd h a b)) ∧ ∃ m, w' = w.drewN m := by
 have hi : (0 : Int) ≤ (a : Int) ∧ (a : Int) < (n : Int) ∧ (0 : Int) ≤ (b : Int) ∧ (b : Int) < (n : Int) ∧ (n : Int) ≤ 1000001 ∧ (0 : Int) ≤ (h : Int) ∧ (h : Int) ≤ 1000001 := by omega
 have p1 : w.cell? ⟨pb, 1, none⟩ = some (.slice (some ⟨g, 0, none⟩) n n) := hP.cell 1
 have p2 : w.cell? ⟨pb, 2, none⟩ = some (.int .i64 (h : Int)) := hP.cell 2
 have c1 := yc0 hG a ha
 have c2 := yc0 hG b hb
 by_cases h1 : kd a = kd b
 ·obtain ⟨h2, h3⟩ := hr h1
  have c3 := yc0 hG (a + h) h2
  have c4 := yc0 hG (b + h) h3
  have hw1 : IntKind.i64.wrap ((a : Int) + (h : Int)) = (a : Int) + (h : Int) := by rw [qai]; omega
  have hw2 : IntKind.i64.wrap ((b : Int) + (h : Int)) = (b : Int) + (h : Int) := by rw [qai]; omega
  have hi2 : (a : Int) + (h : Int) < (n : Int) ∧ (b : Int) + (h : Int) < (n : Int) := by omega
  have b1 : ((kd a : Int) == (kd b : Int)) = true := by rw [h1]; simp
  by_cases h4 : kd (a + h) = kd (b + h)
  ·have b2 : ((kd (a + h) : Int) == (kd (b + h) : Int)) = true := by rw [h4]; simp
   have fin : yfX kd h a b = true := by unfold yfX; rw [h1, h4]; simp
   rw [fin]
   clear fin hP hG hr h1 h4
   generalize kd a = ka at *
   generalize kd b = kb at *
   generalize kd (a + h) = kc at *
   generalize kd (b + h) = ke at *
   go_enter func163, ntmps163
   go_wp2
   go_quiet (fail)
   go_wp2
   go_ret
   exact ⟨rfl, _, rfl⟩
  ·have b2 : ((kd (a + h) : Int) == (kd (b + h) : Int)) = false := by rw [qbw]; omega
   have fin : yfX kd h a b = false := by unfold yfX; simp [h4]
   rw [fin]
   clear fin hP hG hr h1 h4
   generalize kd a = ka at *
   generalize kd b = kb at *
   generalize kd (a + h) = kc at *
   generalize kd (b + h) = ke at *
   go_enter func163, ntmps163
   go_wp2
   go_quiet (fail)
   go_wp2
   go_ret
   exact ⟨rfl, _, rfl⟩
 ·have b1 : ((kd a : Int) == (kd b : Int)) = false := by rw [qbw]; omega
  have fin : yfX kd h a b = false := by unfold yfX; simp [h1]
  rw [fin]
  clear fin hP hG hr h1
  generalize kd a = ka at *
  generalize kd b = kb at *
  go_enter func163, ntmps163
  go_wp2
  go_quiet (fail)
  go_wp2
  go_ret
  exact ⟨rfl, _, rfl⟩
theorem ygg {P : Program} {f : FuncId} {args : Array Value} {w : World} {a n : Nat} {v : Value}
  (h : Calls P f args (w.drewN (a + n)) fun e w' => e = .returned v ∧ ∃ m, w' = (w.drewN (a + n)).drewN m) :
  Calls P f args (w.drewN (a + n)) fun e w'' => e = .returned v ∧ ∃ m, w'' = w.drewN (a + m) :=
 h.mono fun e w' ⟨he, m, hm⟩ => ⟨he, n + m, by rw [hm, World.drewN_drewN, qbD]⟩
theorem knum_next (row : List Nat) (sm : Nat → Nat → Bool) (n k : Nat) (hk : k + 1 < row.length) (v : Int) (hv : v = (knum row sm k row[k] : Nat) + (if sm row[k] row[k + 1] = true then 0 else 1)) :
  (kL (knum row sm k) n).set row[k + 1] v = kL (knum row sm (k + 1)) n := by
 subst hv
 refine ygh _ _ fun p _ => ?_
 show ((if k + 1 < row.length ∧ p = row.getD (k + 1) 0 then knum row sm k (row.getD k 0) + (if sm (row.getD k 0) (row.getD (k + 1) 0) = true then 0 else 1) else knum row sm k p : Nat) : Int) = _
 rw [yel _ hk, yel _ (show k < row.length by omega)]
 by_cases e : p = row[k + 1]
 ·rw [qah ⟨hk, e⟩, qah e]
  split <;> omega
 ·rw [qag fun h => e h.2, qag e]
theorem knum_zero (row : List Nat) (sm : Nat → Nat → Bool) (n : Nat) : List.replicate n (0 : Int) = kL (knum row sm 0) n := rng_zero n
theorem knum_le {row : List Nat} (hn : row.Nodup) (sm : Nat → Nat → Bool) (k : Nat) (hk : k < row.length) : knum row sm k row[k] ≤ k := by
 rw [knum_at hn sm k k hk (qaf _)]
 exact kN_le _ _ _
theorem ydu (row : List Nat) (sm : Nat → Nat → Bool) (A : Option Addr) (n c pb : Nat) (G : FuncId) (w : World)
  (hS : ∀ W, Below w.heap.size w W → ∀ k (hk : k + 1 < row.length), Calls prog G #[.int .i64 ((row[k] : Nat) : Int), .int .i64 ((row[k + 1] : Nat) : Int), .pointer (some ⟨pb, 0, none⟩)] W fun e W' => e = .returned (.bool (sm row[k] row[k + 1])) ∧ ∃ m, W' = W.drewN m)
  (hn : row.length = n) (hm : n ≤ 1000001) (hnd : row.Nodup) (hb : ∀ p ∈ row, p < n) (hr : Reads w w.heap.size 1 A n (ints (splc row)))
  (eg : ∀ args w, (callFunc G args).run prog w = .ok (.enter G args) w)
  :
  Calls prog 161 #[.slice A n c, .func (.func G) #[] #[.pointer (some ⟨pb, 0, none⟩)]] w fun e w' => ∃ g, e = .returned (.slice (some ⟨g, 0, none⟩) n n) ∧ w.heap.size ≤ g ∧ Blk w' g 3 (ints (kL (knum row sm (n - 1)) n)).toArray ∧ Below w.heap.size w w' := by
 have hni : (n : Int) ≤ 1000001 := by omega
 have Hrow := qaa (ycO hn hr)
 have Hn := qaa hn
 have HS := qaa hS
 have Hbd : Hid (∀ k (hk : k < row.length), row[k] < n) := qaa fun k hk => hb _ (qam hk)
 have Hle := qaa (knum_le hnd sm)
 have Hnext := qaa (knum_next row sm n)
 have hmk := fun w => ydm (n : Int) n rfl (by omega) w
 rw [knum_zero row sm n] at hmk
 have HB0 := qaa (Blk.new w 3 (ints (kL (knum row sm 0) n)).toArray)
 have HO0 := qaa ((qaj w.heap.size w).alloc (qaf _) (.cells (ints (kL (knum row sm 0) n)).toArray 3))
 clear hr hS hb hnd hn
 generalize hg : w.heap.size = g at *
 go_enter func161, ntmps161
 go_wp2
 clear hmk
 by_cases hn0 : n = 0
 ·subst hn0
  go_loopw [6] (fun i wr => i = .int .i64 1 ∧ Hid (Blk wr g 3 (ints (kL (knum row sm 0) 0)).toArray) ∧ Hid (Below g w wr)) (fun _ _ => 0)
  case atStart => exact ⟨rfl, HB0, HO0⟩
  case round =>
   obtain ⟨rfl, HB, HO⟩ := hrel
   go_wp2
   go_ret
   exact ⟨g, rfl, qaf _, HB.out, HO.out⟩
 ·have hn1 : 1 ≤ n := by omega
  go_loopw [6] (fun i wr => ∃ k m : Nat, k + 1 = m ∧ m ≤ n ∧ i = .int .i64 m ∧ Hid (Blk wr g 3 (ints (kL (knum row sm k) n)).toArray) ∧ Hid (Below g w wr)) (fun i _ => n - (intOf i).toNat)
  case atStart => exact ⟨0, 1, rfl, hn1, rfl, HB0, HO0⟩
  case round =>
   obtain ⟨k, m, hkm, hk, rfl, HB, HO⟩ := hrel
   clear HB0 HO0
   by_cases hlt : m < n
   ·have hki : ((0 : Int) ≤ (k : Int) ∧ (k : Int) < (n : Int)) ∧ (0 : Int) ≤ (m : Int) ∧ (m : Int) < (n : Int) := by omega
    have hkk := hki.1
    have hkl : k + 1 < row.length := by rw [Hn.out]; omega
    obtain ⟨b0, off, rfl, hbl, x1⟩ := Hrow.out wr HO.out (k + 1) hkl
    obtain ⟨_, _, e9, _, x2⟩ := Hrow.out wr HO.out k (by omega)
    injection e9 with e9
    injection e9 with e9 e10
    subst e9
    subst e10
    have ha := Hbd.out k (by omega)
    have hb := Hbd.out (k + 1) hkl
    have hna := Hle.out k (by omega)
    have x3 := yc0 HB.out _ ha
    have x5 := yc0 HB.out _ hb
    have x4 := HB.out.frozen row[k + 1]
    have Hs := qaa (Hnext.out k hkl)
    have HC := qaa fun W hW => HS.out W hW k hkl
    generalize hra : row[k] = a at *
    generalize hrb : row[k + 1] = b at *
    rw [hkm] at x1
    have hgl := HB.out.lt
    have hai : (0 : Int) ≤ (a : Int) ∧ (a : Int) < (n : Int) ∧ (0 : Int) ≤ (b : Int) ∧ (b : Int) < (n : Int) := by omega
    have hnai : (0 : Int) ≤ (knum row sm k a : Int) ∧ (knum row sm k a : Int) ≤ 1000001 := by omega
    have HW1 : Hid (∀ q v, Below g w ((wr.setCell ⟨g, b, none⟩ v).drewN q)) := qaa fun q v => yaj (HO.out.setCell (p := ⟨g, b, none⟩) (qaf _) v) q
    generalize knum row sm k a = na at *
    generalize knum row sm k b = nb at *
    have hsub : (m : Int) - 1 = (k : Int) := by omega
    have hw1 : IntKind.i64.wrap ((m : Int) - 1) = (k : Int) := by rw [qai]; omega
    have hw2 : IntKind.i64.wrap (k : Int) = (k : Int) := by rw [qai]; omega
    clear hra hrb hna Hle
    cases hsm : sm a b with
    | true =>
     rw [hsm] at HC Hs
     have Hs2 := qaa (Hs.out na (by simp))
     clear Hs hsm
     go_wp2
     refine qbs 14 (by kernel_rfl) (by kernel_rfl) ?_
     simp only [qaR, qaX, qbl, qbt]
     change wpStill _ _ (World.drew _) (fun a' => wpList _ _ _ _ a' (World.drew _)) _ _
     repeat still_step
     refine qcp ?_
     go_wp2
     go_quiet (exact ygg (HC.out _ (HW1.out _ _)))
     go_wp2
     go_roundw
     case rel => exact ⟨k + 1, m + 1, by omega, by omega, iv (by omega), qaa (by rw [← Hs2.out, ← yaH]; exact (HB.out.set_ b _).drewN _), qaa (HW1.out _ _)⟩
     case measure => simp only [intOf]; omega
    | false =>
     rw [hsm] at HC Hs
     have Hs2 := qaa (Hs.out ((na : Int) + 1) (by simp))
     clear Hs hsm
     go_wp2
     refine qbs 14 (by kernel_rfl) (by kernel_rfl) ?_
     simp only [qaR, qaX, qbl, qbt]
     change wpStill _ _ (World.drew _) (fun a' => wpList _ _ _ _ a' (World.drew _)) _ _
     repeat still_step
     refine qcp ?_
     go_wp2
     go_quiet (exact ygg (HC.out _ (HW1.out _ _)))
     go_wp2
     go_roundw
     case rel => exact ⟨k + 1, m + 1, by omega, by omega, iv (by omega), qaa (by rw [← Hs2.out, ← List.set_set (a := (na : Int)), ← yaH, ← yaH]; exact ((HB.out.set_ b _).drewN _).set_ b _), qaa ((HW1.out _ _).setCell (p := ⟨g, b, none⟩) (qaf _) _)⟩
     case measure => simp only [intOf]; omega
   ·obtain rfl : m = n := by omega
    have hii : ¬ (m : Int) < (m : Int) := by omega
    have HF : Hid (Blk wr g 3 (ints (kL (knum row sm (m - 1)) m)).toArray) := qaa (by rw [show m - 1 = k from by omega]; exact HB.out)
    go_wp2
    go_ret
    exact ⟨g, rfl, qaf _, HF.out, HO.out⟩
theorem bfits_yes (n width : Int) (w : World) (h : fits n width) : Calls prog 149 #[.int .i64 n, .int .i64 width] w fun e w' => e = .returned (.bool true) ∧ w = w' := by
 obtain ⟨h1, h2, h3, h4⟩ := h
 obtain ⟨W, rfl⟩ := qaK h1
 obtain ⟨N, rfl⟩ := qaK h3
 go_enter func149, ntmps149
 go_wp2
 go_ret
 refine ⟨?_, rfl⟩
 have hd : (N : Int) / 2 ^ W = 0 := Int.ediv_eq_zero_of_lt h3 (by simpa using h4)
 show Ending.returned (.bool ((N : Int) / 2 ^ W == 0)) = _
 rw [hd]
 rfl
def WHold (w : World) (B g : Nat) (v : Value) (R : List Nat) : Prop :=
 Blk w g 102 #[v, .int .i64 (fr R)] ∧ w.ownsRow B 5 1 v (text R).length (bc (text R)).toList ∧ Bin R
section
variable {w w' : World} {B g : Nat} {v : Value} {R : List Nat} {S : Nat → Prop}
theorem WHold.touch (h : WHold w B g v R) (ht : Touch w w' S) (hg : ¬ S g) (hv : ∀ k, v.ownBlock = some k → ¬ S k) : WHold w' B g v R := ⟨h.1.touch ht hg, ya5 h.2.1 ht hv, h.2.2⟩
theorem WHold.below (h : WHold w B g v R) {C : Nat} (hb : Below C w w') (hC : w.heap.size ≤ C) : WHold w' B g v R := h.touch (yaP (S := fun _ => False) hb hC) (fun h => h) (fun _ _ h => h)
end
theorem wtext_any (B g : Nat) (v : Value) (R : List Nat) (w : World) (hH : WHold w B g v R) :
  Calls prog 65 #[.pointer (some ⟨g, 0, none⟩)] w fun e w' => e = .returned (.string ⟨(text R).toArray⟩) ∧ w = w' := by
 obtain ⟨A, c, rfl, hc, hr⟩ := yad hH.2.1
 obtain ⟨c1, c2, _, _⟩ := hH.1.two
 have hcv : (convert 36 9 (.slice A (text R).length c)).run prog w = .ok (.string ⟨(text R).toArray⟩) w := ybd underlying36 underlying5 underlying9 w A c _ hr
 have hg := hH.1.lt
 clear hH hr hc
 generalize (text R).length = n at *
 generalize (text R).toArray = a at *
 go_enter func65, ntmps65
 go_wp2
 go_ret
 exact ⟨rfl, rfl⟩
theorem bbyte_info : (prog.info? 5).map (fun i => (i.zero, i.size, i.bytes)) = some (some (.int .u8 0), 1, 1) := by kernel_rfl
theorem owns_some {w : World} {base size n : Nat} {e : TypeId} {v : Value} {xs : List Value} (h : w.ownsRow base e size v n xs) (hn : 0 < n) : ∃ g cap, v = .slice (some ⟨g, 0, none⟩) n cap ∧ base ≤ g ∧ n ≤ cap ∧ g < w.heap.size := by
 rcases h.2 with ⟨rfl, h0⟩ | ⟨g, cap, cur, rfl, hb, hheap, hcap, _⟩
 ·omega
 ·refine ⟨g, cap, rfl, hb, hcap, ?_⟩
  rcases qaZ g w.heap.size with hlt | hge
  ·exact hlt
  ·rw [Array.getElem?_eq_none hge] at hheap; cases hheap
theorem or_u8 (x y f : Nat) (hx : x % 2 ^ f = 0) (hy : y < 2 ^ f) (hxl : x < 256) (hf : f ≤ 8) : bits .or .u8 (x : Int) (y : Int) = ((x + y : Nat) : Int) := by
 have h8 : (2 : Nat) ^ 8 = 256 := by decide
 have hp : 0 < 2 ^ f := qbu (by omega)
 have hs : x + y < 256 := by
  have h1 : x = x / 2 ^ f * 2 ^ f := by have := Nat.div_add_mod x (2 ^ f); rw [hx, qbx] at this; omega
  have h2 : 256 = 2 ^ (8 - f) * 2 ^ f := by rw [← qcd, show 8 - f + f = 8 from by omega]
  have h3 : x / 2 ^ f < 2 ^ (8 - f) := by
   rw [qb1 hp, ← h2]
   exact hxl
  have h4 : (x / 2 ^ f + 1) * 2 ^ f ≤ 2 ^ (8 - f) * 2 ^ f := qct _ h3
  rw [qcf, ← h2, Nat.one_mul] at h4
  omega
 have h := bits_join .u8 8 (by decide) wraps_u8 f (x : Int) (y : Int) (by omega) (by exact_mod_cast hx) (by omega) (by omega) (by exact_mod_cast hy) (by omega)
 rw [h]
 omega
def WS (g : Nat) (v : Value) : Nat → Prop := fun k => k = g ∨ v.ownBlock = some k
structure PInv (w wr : World) (B g : Nat) (v : Value) (R : List Nat) (W N L : Nat) (v' : Value) : Prop where
 hold : WHold wr B g v' (R ++ dig (W - L) (N / 2 ^ L))
 touch : Touch w wr (WS g v)
 sep : Sep w v v'
 at_ : L = W ∨ L = 0 ∨ fr (R ++ dig (W - L) (N / 2 ^ L)) = 0
theorem fr_app (Q P : List Nat) (h : P.length ≤ fr Q) : fr (Q ++ P) = fr Q - P.length := by
 unfold fr at *
 rw [qae]
 omega
theorem fr_new (Q P : List Nat) (h : fr Q = 0) (h8 : P.length ≤ 8) (h0 : 0 < P.length) : fr (Q ++ P) = 8 - P.length := by
 unfold fr at *
 rw [qae]
 omega
theorem dig_on (R : List Nat) (W N L p : Nat) (hL : L ≤ W) (hp : p ≤ L) : R ++ dig (W - (L - p)) (N / 2 ^ (L - p)) = (R ++ dig (W - L) (N / 2 ^ L)) ++ dig p (N / 2 ^ (L - p)) := by
 rw [qak, show W - (L - p) = (W - L) + p from by omega, ygD, qbI, ← qcd, show L - p + p = L from by omega]
theorem bc_last (T : List UInt8) (b c : UInt8) : (bc (T ++ [b])).toList.set T.length (.int .u8 (c.toNat : Int)) = (bc (T ++ [c])).toList := by
 simp [bc, List.set_append]
theorem yval (N s p F : Nat) (hN : N < 4294967296) (hF : F ≤ 8) (hp : p ≤ F) (h : F = 8 ∨ N / 2 ^ s < 2 ^ p) : wrap64 ((N : Int) / 2 ^ s * 2 ^ (F - p)) % 256 = ((num (dig p (N / 2 ^ s)) * 2 ^ (F - p) : Nat) : Int) := by
 have e : (N : Int) / 2 ^ s * 2 ^ (F - p) = ((N / 2 ^ s * 2 ^ (F - p) : Nat) : Int) := by norm_cast
 have hle : N / 2 ^ s ≤ N := Nat.div_le_self _ _
 rw [e, yd5]
 generalize N / 2 ^ s = M at *
 have h8 : 2 ^ (F - p) ≤ 2 ^ 8 := qaF (by omega) (by omega)
 have hb : M * 2 ^ (F - p) ≤ 4294967295 * 2 ^ 8 := Nat.mul_le_mul (by omega) h8
 rw [show (2 : Nat) ^ 8 = 256 from by decide] at hb
 have hw : wrap64 ((M * 2 ^ (F - p) : Nat) : Int) = ((M * 2 ^ (F - p) : Nat) : Int) := by unfold wrap64; omega
 rw [hw]
 have hkey : M * 2 ^ (F - p) % 256 = M % 2 ^ p * 2 ^ (F - p) := by
  rcases h with rfl | h
  ·rw [show 256 = 2 ^ p * 2 ^ (8 - p) from by rw [← qcd, show p + (8 - p) = 8 from by omega], Nat.mul_mod_mul_right]
  ·rw [Nat.mod_eq_of_lt h, Nat.mod_eq_of_lt]
   have h1 : M * 2 ^ (F - p) < 2 ^ p * 2 ^ (F - p) := qci h (qbu (by omega))
   rw [← qcd, show p + (F - p) = F from by omega] at h1
   have h2 : 2 ^ F ≤ 2 ^ 8 := qaF (by omega) hF
   rw [show (2 : Nat) ^ 8 = 256 from by decide] at h2
   omega
 rw [← hkey]
 generalize M * 2 ^ (F - p) = K
 omega
theorem pstep {w X : World} {B g h cap W N L p F : Nat} {v : Value} {R Q : List Nat} {T : List UInt8} {b : UInt8}
  (hX : Blk X g 102 #[.slice (some ⟨h, 0, none⟩) (T.length + 1) cap, .int .i64 F]) (hown : X.ownsRow B 5 1 (.slice (some ⟨h, 0, none⟩) (T.length + 1) cap) (T.length + 1) (bc (T ++ [b])).toList)
  (ht : Touch w X (WS g v)) (hsep : Sep w v (.slice (some ⟨h, 0, none⟩) (T.length + 1) cap)) (hQ : R ++ dig (W - L) (N / 2 ^ L) = Q) (hbin : Bin Q) (hL : L ≤ W) (hp : p ≤ L) (hpF : p ≤ F) (hF8 : F ≤ 8)
  (htext : text (Q ++ dig p (N / 2 ^ (L - p))) = T ++ [UInt8.ofNat (b.toNat + num (dig p (N / 2 ^ (L - p))) * 2 ^ (F - p))]) (hfr : fr (Q ++ dig p (N / 2 ^ (L - p))) = F - p) (hb : b.toNat % 2 ^ F = 0)
  (hat : L - p = 0 ∨ F - p = 0) (f y : Int) (hf : f = ((F - p : Nat) : Int)) (hy : y = ((num (dig p (N / 2 ^ (L - p))) * 2 ^ (F - p) : Nat) : Int)) :
  PInv w ((X.setCell ⟨g, 1, none⟩ (.int .i64 f)).setCell ⟨h, T.length, none⟩ (.int .u8 (bits .or .u8 (b.toNat : Int) y))).drew B g v R W N (L - p) (.slice (some ⟨h, 0, none⟩) (T.length + 1) cap) := by
 have hne : h ≠ g := fun e => yau hown hX (by decide) (by rw [e]; rfl)
 have hd := dig_on R W N L p hL hp
 rw [hQ] at hd
 have hPl : num (dig p (N / 2 ^ (L - p))) < 2 ^ p := by
  have := num_lt (yc4 p (N / 2 ^ (L - p)))
  rwa [yai] at this
 have hlt : num (dig p (N / 2 ^ (L - p))) * 2 ^ (F - p) < 2 ^ F := by
  have h1 : num (dig p (N / 2 ^ (L - p))) * 2 ^ (F - p) < 2 ^ p * 2 ^ (F - p) := qci hPl (qbu (by omega))
  rwa [← qcd, show p + (F - p) = F from by omega] at h1
 subst hf
 subst hy
 rw [or_u8 b.toNat _ F hb hlt (u8_lt b) hF8]
 have hs : b.toNat + num (dig p (N / 2 ^ (L - p))) * 2 ^ (F - p) < 256 := by
  have hp' : 0 < 2 ^ F := qbu (by omega)
  have h1 : b.toNat = b.toNat / 2 ^ F * 2 ^ F := by have := Nat.div_add_mod b.toNat (2 ^ F); rw [hb, qbx] at this; omega
  have h2 : 256 = 2 ^ (8 - F) * 2 ^ F := by rw [← qcd, show 8 - F + F = 8 from by omega]
  have h3 : b.toNat / 2 ^ F < 2 ^ (8 - F) := by
   rw [qb1 hp', ← h2]
   exact u8_lt b
  have h4 : (b.toNat / 2 ^ F + 1) * 2 ^ F ≤ 2 ^ (8 - F) * 2 ^ F := qct _ h3
  rw [qcf, ← h2, Nat.one_mul] at h4
  omega
 have hbn : ((b.toNat + num (dig p (N / 2 ^ (L - p))) * 2 ^ (F - p) : Nat) : Int) = ((UInt8.ofNat (b.toNat + num (dig p (N / 2 ^ (L - p))) * 2 ^ (F - p))).toNat : Int) := by rw [yaw _ hs]
 rw [hbn]
 have hB1 : Blk (X.setCell ⟨g, 1, none⟩ (.int .i64 ((F - p : Nat) : Int))) g 102 #[.slice (some ⟨h, 0, none⟩) (T.length + 1) cap, .int .i64 ((F - p : Nat) : Int)] := hX.set_ 1 _
 have hO1 : (X.setCell ⟨g, 1, none⟩ (.int .i64 ((F - p : Nat) : Int))).ownsRow B 5 1 (.slice (some ⟨h, 0, none⟩) (T.length + 1) cap) (T.length + 1) (bc (T ++ [b])).toList :=
  ya5 hown ((Touch.refl X (fun k => k = g)).set (qat rfl) _) (fun k hk e => by injection hk with hk; simp only at hk; omega)
 have hO2 := (hO1.stored T.length (.int .u8 ((UInt8.ofNat (b.toNat + num (dig p (N / 2 ^ (L - p))) * 2 ^ (F - p))).toNat : Int))).1
 rw [bc_last] at hO2
 refine ⟨⟨?_, ?_, ?_⟩, ?_, hsep, ?_⟩
 ·rw [hd, hfr]
  exact (hB1.far (p := ⟨h, T.length, none⟩) (fun e => hne e.symm) _).drew
 ·rw [hd, htext, qae]
  exact hO2
 ·rw [hd]
  exact hbin.app (yc4 _ _)
 ·have h1 := (ht.set (p := ⟨g, 1, none⟩) (qat (qat rfl)) (.int .i64 ((F - p : Nat) : Int)))
  have h2 := h1.set (p := ⟨h, T.length, none⟩) (by
   rcases hsep h rfl with e | e
   ·exact qat (qaT e)
   ·exact qaT e) (.int .u8 ((UInt8.ofNat (b.toNat + num (dig p (N / 2 ^ (L - p))) * 2 ^ (F - p))).toNat : Int))
  exact h2.drewN 1
 ·rw [hd, hfr]
  rcases hat with e | e
  ·exact qaT (qat e)
  ·exact qaT (qaT e)
theorem put_yes (B g W N : Nat) (v : Value) (R : List Nat) (w : World) (hW : W ≤ 32) (hN : N < 2 ^ W) (hH : WHold w B g v R) (hB : B ≤ w.heap.size) (hR : R.length ≤ 1099511627776) :
  Calls prog 107 #[.pointer (some ⟨g, 0, none⟩), .int .i64 N, .int .i64 W] w fun e w' => e = .returned (.int .i64 0) ∧ ∃ v', WHold w' B g v' (R ++ dig W N) ∧ Touch w w' (WS g v) ∧ Sep w v v' := by
 obtain ⟨i0, hi, hz0, hz1, hz2⟩ := qbn bbyte_info
 have hfit : fits N W := ⟨by omega, by omega, by omega, by exact_mod_cast hN⟩
 have HI0 : Hid (PInv w w B g v R W N W v) := qaa ⟨by rw [Nat.sub_self]; simpa [dig] using hH, Touch.refl _ _, fun k hk => qat hk, qat rfl⟩
 have HN := qaa hN
 have HR := qaa hR
 have HB := qaa hB
 have Hfit := qaa hfit
 clear hN hH hR hB hfit
 go_enter func107, ntmps107
 go_wp2_with (go_at_call 149; refine (bfits_yes N W _ Hfit.out).mono ?_; rintro e w1 ⟨rfl, rfl⟩)
 go_loopw [7] (fun i wr => ∃ (L : Nat) (v' : Value), L ≤ W ∧ i = .int .i64 L ∧ Hid (PInv w wr B g v R W N L v')) (fun i _ => (intOf i).toNat)
 case atStart => exact ⟨W, v, qaf _, rfl, HI0.out⟩
 case round =>
  obtain ⟨L, v', hL, rfl, HI⟩ := hrel
  by_cases hlt : 0 < L
  ·have hLi : (0 : Int) < L := by omega
   have hL32 : (L : Int) ≤ 32 := by omega
   obtain ⟨c1, c2, z1, z2⟩ := HI.out.hold.1.two
   have hgl := HI.out.hold.1.lt
   generalize hQ : R ++ dig (W - L) (N / 2 ^ L) = Q at *
   have hown := HI.out.hold.2.1
   have hbin := HI.out.hold.2.2
   rw [hQ] at hown hbin
   have Hown := qaa hown
   have Hbin := qaa hbin
   have Hlen : Hid ((text Q).length ≤ 1099511627780) := qaa (by
    have := HR.out
    rw [ybF, ← hQ, qae, yai]
    omega)
   have HQ := qaa hQ
   clear hown hbin hQ
   have HN32 : Hid (N < 4294967296) := qaa (by
    have h1 := HN.out
    have h2 : 2 ^ W ≤ 2 ^ 32 := qaF (by omega) hW
    rw [show (2 : Nat) ^ 32 = 4294967296 from by decide] at h2
    omega)
   by_cases hf : fr Q = 0
   ·have c2' : wr.cell? ⟨g, 1, none⟩ = some (.int .i64 0) := by rw [c2, hf]; rfl
    have Hf := qaa hf
    clear hf c2
    go_wp2_with (at_builtin; refine yaf _ rfl _ _ 36 rfl B 5 i0 (.int .u8 0) 1 1 underlying36 hi hz0 hz1 hz2 rfl (by decide) _ _ _ rfl (Hown.out.alloc _) _ 1 1 _ _ rfl (yar wr 5 #[.int .u8 0] 1 1 rfl) ?c1 ?c2 ?c3 ?c4 ?_)
    case c1 =>
     exact rfl
    case c2 => have := Hlen.out; unfold maxLen; omega
    case c3 => have := Hlen.out; omega
    case c4 =>
     have h3 := HB.out
     have h4 := HI.out.touch.size
     simp only [qas]
     omega
    intro v2 w2 hown2 hgrow hsep
    obtain ⟨h, cap, rfl, hBh, hcap, hhl⟩ := owns_some hown2 (by omega)
    have hbw := (HI.out.hold.1.alloc (.cells #[.int .u8 0] 5)).grow' hgrow (fun e => yau Hown.out HI.out.hold.1 (by decide) e)
    have d1 : ¬ h = g := fun e => yau hown2 hbw (by decide) (by rw [e]; rfl)
    have d2 : ¬ g = h := fun e => d1 e.symm
    have hX : Blk ((w2.setCell ⟨g, 0, none⟩ (.slice (some ⟨h, 0, none⟩) ((text Q).length + 1) cap)).setCell ⟨g, 1, none⟩ (.int .i64 8)) g 102 #[.slice (some ⟨h, 0, none⟩) ((text Q).length + 1) cap, .int .i64 ((8 : Nat) : Int)] := (hbw.set_ 0 _).set_ 1 _
    have hownX : ((w2.setCell ⟨g, 0, none⟩ (.slice (some ⟨h, 0, none⟩) ((text Q).length + 1) cap)).setCell ⟨g, 1, none⟩ (.int .i64 8)).ownsRow B 5 1 (.slice (some ⟨h, 0, none⟩) ((text Q).length + 1) cap) ((text Q).length + 1) (bc (text Q ++ [0])).toList := by
     have h1 := ya5 hown2 (((Touch.refl w2 (fun k => k = g)).set (p := ⟨g, 0, none⟩) (qat rfl) (.slice (some ⟨h, 0, none⟩) ((text Q).length + 1) cap)).set (p := ⟨g, 1, none⟩) (qat rfl) (.int .i64 8)) (fun k hk e => by injection hk with hk; simp only at hk; omega)
     simpa [bc] using h1
    have htX : Touch w ((w2.setCell ⟨g, 0, none⟩ (.slice (some ⟨h, 0, none⟩) ((text Q).length + 1) cap)).setCell ⟨g, 1, none⟩ (.int .i64 8)) (WS g v) := by
     have h1 := (HI.out.touch.alloc (.cells #[.int .u8 0] 5)).next (yaN hgrow) (fun k hk e => by
      rcases HI.out.sep k e.symm with e | e
      ·exact qaT e
      ·omega)
     exact (h1.set (p := ⟨g, 0, none⟩) (qat (qat rfl)) _).set (p := ⟨g, 1, none⟩) (qat (qat rfl)) _
    have hsX : Sep w v (.slice (some ⟨h, 0, none⟩) ((text Q).length + 1) cap) := fun k hk => by
     rcases hsep k hk with e | e
     ·exact HI.out.sep k e
     ·have h1 := HI.out.touch.size
      simp only [qas] at e
      exact qaT (by omega)
    have c3 : w2.cell? ⟨h, (text Q).length, none⟩ = some (.int .u8 0) := by
     rw [hown2.cellAt _ (by omega), qb2 (by simp [bc])]
     simp [bc]
    have z3 : w2.frozen? ⟨h, (text Q).length, none⟩ = false := hown2.frozenAt _
    have z4 : w2.frozen? ⟨g, 0, none⟩ = false := hbw.frozen _
    have z5 : w2.frozen? ⟨g, 1, none⟩ = false := hbw.frozen _
    have hgl2 := hbw.lt
    have HX := qaa hX
    have hXt := hX.two
    have HXt := qaa hXt
    have HXc := qaa (show _ ∧ _ from ⟨hownX.cellAt (text Q).length (by omega), hownX.frozenAt (text Q).length⟩)
    clear hXt
    have HownX := qaa hownX
    have Hnew := qaa (fun (p : Nat) (h0 : 0 < p) (h8 : p ≤ 8) (hpL : p ≤ L) (hat : L - p = 0 ∨ 8 - p = 0) (f y : Int) (hf : f = ((8 - p : Nat) : Int)) (hy : y = ((num (dig p (N / 2 ^ (L - p))) * 2 ^ (8 - p) : Nat) : Int)) =>
     pstep (w := w) (v := v) (b := 0) hX hownX htX hsX HQ.out Hbin.out hL hpL h8 (by omega)
      (by
       have := text_new Q (dig p (N / 2 ^ (L - p))) Hf.out (by rw [yai]; omega) (by rw [yai]; omega)
       rw [yai] at this
       rw [this, show (0 : UInt8).toNat = 0 from rfl, qaE])
      (by rw [fr_new Q _ Hf.out (by rw [yai]; omega) (by rw [yai]; omega), yai]) (by decide) hat f y hf hy)
    have htm : ((text Q).length : Int) ≤ 1099511627780 := by have := Hlen.out; omega
    have hbq := hbw.two
    obtain ⟨q1, q2, _, _⟩ := hbq
    clear hX hownX htX hsX hsep hgrow hown2 hbw c1 c2' z1 z2 hgl
    generalize hTT : text Q = T at *
    have HTT := qaa hTT
    clear hTT
    by_cases hFL : 8 < L
    ·have hL8 : (8 : Int) < L := by omega
     go_wp2
     generalize (w2.setCell ⟨g, 0, none⟩ (.slice (some ⟨h, 0, none⟩) (T.length + 1) cap)).setCell ⟨g, 1, none⟩ (.int .i64 8) = X at *
     obtain ⟨y1, y2, y3, y4⟩ := HXt.out
     obtain ⟨y5, y6⟩ := HXc.out
     replace y2 : X.cell? ⟨g, 1, none⟩ = some (.int .i64 8) := y2
     rw [show ((bc (T ++ [0])).toList[T.length]?) = some (.int .u8 0) from by simp [bc]] at y5
     have hwt : IntKind.i64.wrap (T.length : Int) = T.length := by rw [qai]; omega
     have ht0 : 0 ≤ (T.length : Int) ∧ (T.length : Int) < T.length + 1 := by omega
     refine qbs 23 (by kernel_rfl) (by kernel_rfl) ?_
     simp only [qaR, qaX, qbl, qbt]
     change wpStill _ _ (World.drew _) (fun a' => wpList _ _ _ _ a' (World.drew _)) _ _
     repeat still_step
     refine qcp ?_
     go_wp2
     go_roundw
     case rel => exact ⟨L - 8, _, by omega, iv (by omega), Hnew.out 8 (by omega) (by omega) (by omega) (qaT rfl) _ _ rfl (by
      have := yval N (L - 8) 8 8 HN32.out (by omega) (by omega) (qat rfl)
      simpa using this)⟩
     case measure => (simp [intOf]; omega)
    ·have hL8 : ¬ (8 : Int) < L := by omega
     go_wp2
     generalize (w2.setCell ⟨g, 0, none⟩ (.slice (some ⟨h, 0, none⟩) (T.length + 1) cap)).setCell ⟨g, 1, none⟩ (.int .i64 8) = X at *
     obtain ⟨y1, y2, y3, y4⟩ := HXt.out
     obtain ⟨y5, y6⟩ := HXc.out
     replace y2 : X.cell? ⟨g, 1, none⟩ = some (.int .i64 8) := y2
     rw [show ((bc (T ++ [0])).toList[T.length]?) = some (.int .u8 0) from by simp [bc]] at y5
     have hwt : IntKind.i64.wrap (T.length : Int) = T.length := by rw [qai]; omega
     have ht0 : 0 ≤ (T.length : Int) ∧ (T.length : Int) < T.length + 1 := by omega
     refine qbs 23 (by kernel_rfl) (by kernel_rfl) ?_
     simp only [qaR, qaX, qbl, qbt]
     change wpStill _ _ (World.drew _) (fun a' => wpList _ _ _ _ a' (World.drew _)) _ _
     repeat still_step
     refine qcp ?_
     go_wp2
     go_roundw
     case rel => exact ⟨L - L, _, by omega, iv (by omega), Hnew.out L (by omega) (by omega) (by omega) (qat (Nat.sub_self L)) _ _ (by omega) (by
      have := yval N (L - L) L 8 HN32.out (by omega) (by omega) (qat rfl)
      simpa using this)⟩
     case measure => (simp [intOf]; omega)
   ·have hF1 : ¬ (fr Q : Int) = 0 := by omega
    have hF8 : (fr Q : Int) < 8 := by have := fr_lt Q; omega
    obtain ⟨h, cap, hv', hBh, hcap, hhl⟩ := owns_some Hown.out (by
     obtain ⟨T, b, e, _⟩ := text_more Q [] (fr Q) rfl (by omega) Hbin.out (by simp)
     rw [e]
     simp)
    subst hv'
    have hLW : L = W := by
     rcases HI.out.at_ with e | e | e
     ·exact e
     ·omega
     ·rw [HQ.out] at e
      exact absurd e hf
    have Hf := qaa hf
    clear hf
    have d1 : ¬ h = g := fun e => yau Hown.out HI.out.hold.1 (by decide) (by rw [e]; rfl)
    have d2 : ¬ g = h := fun e => d1 e.symm
    obtain ⟨p, hp⟩ : ∃ p, p = min L (fr Q) := ⟨_, rfl⟩
    obtain ⟨T, b, hT, htx, hbm⟩ := text_more Q (dig p (N / 2 ^ (L - p))) (fr Q) rfl (by have := Hf.out; omega) Hbin.out (by rw [yai]; omega)
    have hfrQ := fr_app Q (dig p (N / 2 ^ (L - p))) (by rw [yai]; omega)
    rw [yai] at htx hfrQ
    have hTl : (text Q).length = T.length + 1 := by rw [hT]; simp
    have c3 : wr.cell? ⟨h, T.length, none⟩ = some (.int .u8 (b.toNat : Int)) := by
     rw [Hown.out.cellAt _ (by omega), hT]
     simp [bc]
    have z3 : wr.frozen? ⟨h, T.length, none⟩ = false := Hown.out.frozenAt _
    have hown3 := Hown.out
    rw [hTl, hT] at hown3
    have hX := HI.out.hold.1
    rw [HQ.out, hTl] at hX
    rw [hTl] at c1
    have hsX := HI.out.sep
    rw [hTl] at hsX
    have hTm : (T.length : Int) ≤ 1099511627780 := by have := Hlen.out; omega
    have hsmall : N / 2 ^ (L - p) < 2 ^ p := by
     rw [qb1 (qbu (by omega)), ← qcd, show p + (L - p) = L from by omega, hLW]
     exact HN.out
    have Hy := qaa (yval N (L - p) p (fr Q) HN32.out (by have := fr_lt Q; omega) (by omega) (qaT hsmall))
    have Hstep := qaa (fun (f y : Int) (hf : f = ((fr Q - p : Nat) : Int)) (hy : y = ((num (dig p (N / 2 ^ (L - p))) * 2 ^ (fr Q - p) : Nat) : Int)) =>
     pstep (w := w) (v := v) hX hown3 HI.out.touch hsX HQ.out Hbin.out hL (by omega) (by omega) (by have := fr_lt Q; omega) htx hfrQ hbm (by omega) f y hf hy)
    clear hT hTl hown3 hX hsX hsmall htx hfrQ hbm
    generalize hFF : fr Q = F at *
    have HFF := qaa hFF
    generalize (b.toNat : Int) = bv at *
    clear hFF
    have Hp := qaa hp
    clear hp
    have HLW := qaa hLW
    clear hLW
    by_cases hFL : F < L
    ·obtain rfl : p = F := by have := Hp.out; omega
     go_wp2
     have hwt : IntKind.i64.wrap (T.length : Int) = T.length := by rw [qai]; omega
     have ht0 : 0 ≤ (T.length : Int) ∧ (T.length : Int) < T.length + 1 := by omega
     refine qbs 23 (by kernel_rfl) (by kernel_rfl) ?_
     simp only [qaR, qaX, qbl, qbt]
     change wpStill _ _ (World.drew _) (fun a' => wpList _ _ _ _ a' (World.drew _)) _ _
     repeat still_step
     refine qcp ?_
     go_wp2
     go_roundw
     case rel => exact ⟨L - p, _, by omega, iv (by omega), Hstep.out _ _ (by omega) (by
      have := Hy.out
      simpa using this)⟩
     case measure => (simp [intOf]; have := Hf.out; omega)
    ·obtain rfl : p = L := by have := Hp.out; omega
     go_wp2
     have hwt : IntKind.i64.wrap (T.length : Int) = T.length := by rw [qai]; omega
     have ht0 : 0 ≤ (T.length : Int) ∧ (T.length : Int) < T.length + 1 := by omega
     refine qbs 23 (by kernel_rfl) (by kernel_rfl) ?_
     simp only [qaR, qaX, qbl, qbt]
     change wpStill _ _ (World.drew _) (fun a' => wpList _ _ _ _ a' (World.drew _)) _ _
     repeat still_step
     refine qcp ?_
     go_wp2
     go_roundw
     case rel => exact ⟨p - p, _, by omega, iv (by omega), Hstep.out _ _ (by omega) (by
      have := Hy.out
      simpa using this)⟩
     case measure => (simp [intOf]; omega)
  ·obtain rfl : L = 0 := by omega
   have hend := HI.out
   go_wp2
   go_ret
   refine ⟨rfl, v', ?_, hend.touch, hend.sep⟩
   have h1 := hend.hold
   simpa using h1
end Go.Proofs.YtanjhbkbpalnaaaGreat
