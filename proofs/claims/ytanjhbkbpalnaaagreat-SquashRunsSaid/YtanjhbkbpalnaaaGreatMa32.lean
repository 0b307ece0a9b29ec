/-
 What the law of the last of these texts stands on, part 32.
-/
import Derived.Test.YtanjhbkbpalnaaaGreatMa31
import Derived.Lib.AppendStr
set_option maxRecDepth 100000
set_option maxHeartbeats 8000000
open Go.Proofs.Tryz
namespace Go.Proofs.YtanjhbkbpalnaaaGreat
set_option linter.unusedSimpArgs false
set_option linter.unusedVariables false
open Go.ChangeShapes Go.WideShapes Go.ChangeAt Go.RowKit Go.Joins Go.Deep
def qsy (s : List UInt8) : List Int := zpk 0 (rks row0 (yaV s))
theorem qrk_good (s : List UInt8) : ya2 255 (rks row0 s) = true := (ygF s row0 row0_whole).2
theorem qrk_len (s : List UInt8) : (rks row0 (yaV s)).length = s.length := by rw [ygN, yaT]
theorem qsy_pack (s : List UInt8) : ybm (rks row0 (yaV s)) = (qsy s, 0) := qag (qrk_good _)
theorem ybi (s : List UInt8) : (qsy s).length ≤ s.length := by
 have := yeZ (rks row0 (yaV s)) 0
 rw [qrk_len, qaz] at this
 exact this
theorem qsy_in (s : List UInt8) : hin (qsy s) = true := ygg _ 0 (qrk_good _)
def qsF (s : List UInt8) : List Int × Int × Int := if 20000 < s.length then ([], 0, 3) else (qsy s, (bpr s : Int), 0)
def qhd (a b c : Int) : List UInt8 := putB a ++ (putB b ++ putB c)
def qB (s : List UInt8) : List UInt8 := qhd s.length (bpr s) (qsy s).length ++ text (hB (qsy s))
def qpF (s : List UInt8) : List UInt8 × Int := if 20000 < s.length then ([], 3) else (qB s, 0)
def qtF (l : List Int) (r n : Int) : List UInt8 × Int :=
 if n < 0 ∨ 20000 < n then ([], 2) else if (zunF l n).2 ≠ 0 then ([], (zunF l n).2) else if ((zunF l n).1.length : Int) ≠ n then ([], 5) else biF (bys row0 (zunF l n).1) r
def ybb (b : List UInt8) : (Int × Int × Int) × Int × Int :=
 if (getF b 0).2.2 ≠ 0 then ((0, 0, 0), 0, (getF b 0).2.2)
 else if (getF b (getF b 0).2.1).2.2 ≠ 0 then ((0, 0, 0), 0, (getF b (getF b 0).2.1).2.2)
 else if (getF b (getF b (getF b 0).2.1).2.1).2.2 ≠ 0 then ((0, 0, 0), 0, (getF b (getF b (getF b 0).2.1).2.1).2.2)
 else (((getF b 0).1, (getF b (getF b 0).2.1).1, (getF b (getF b (getF b 0).2.1).2.1).1), (getF b (getF b (getF b 0).2.1).2.1).2.1, 0)
def qu2 (n p k : Int) (rest : List UInt8) : List UInt8 × Int :=
 if 20000 < n ∨ n < k then ([], 3) else if (ybQ rest k).2 ≠ 0 then ([], (ybQ rest k).2) else qtF (ybQ rest k).1 p n
def quF (b : List UInt8) : List UInt8 × Int :=
 if (ybb b).2.2 ≠ 0 then ([], (ybb b).2.2) else qu2 (ybb b).1.1 (ybb b).1.2.1 (ybb b).1.2.2 (b.drop (ybb b).2.1.toNat)
theorem qt_back (s : List UInt8) (h : s.length ≤ 20000) : qtF (qsy s) (bpr s) s.length = (s, 0) := by
 obtain ⟨h1, _, _⟩ := zback (rks row0 (yaV s)) (by rw [qrk_len]; omega) (qrk_good _)
 rw [qrk_len] at h1
 unfold qtF qsy
 rw [qae (by omega), h1, qae (by simp), qae (by simp only [qrk_len]; simp), (ygF (yaV s) row0 row0_whole).1]
 exact bback s h
theorem qput_pos (n : Nat) : 0 < (putB (n : Int)).length := by
 rw [yeg (by omega)]
 exact dg_pos 8 _
theorem qget (pre rest : List UInt8) (n : Nat) (h : n < 9223372036854775808) (p : Int) (hp : p = (pre.length : Int)) : getF (pre ++ (putB n ++ rest)) p = ((n : Int), (pre.length : Int) + (putB (n : Int)).length, 0) := by
 subst hp
 rw [yeg (by omega), qan]
 exact getF_put pre rest n h
theorem qcut_put (a b c : Nat) (T : List UInt8) (ha : a < 1000000) (hb : b < 1000000) (hc : c < 1000000) : ybb (qhd a b c ++ T) = (((a : Int), (b : Int), (c : Int)), ((qhd a b c).length : Int), 0) := by
 have g1 := qget [] (putB b ++ (putB c ++ T)) a (by omega) 0 rfl
 have g2 := qget (putB a) (putB c ++ T) b (by omega) _ rfl
 have g3 := qget (putB a ++ putB b) T c (by omega) ((putB a).length + (putB b).length) (by rw [qab]; omega)
 have e1 : qhd a b c ++ T = putB a ++ (putB b ++ (putB c ++ T)) := by unfold qhd; simp only [qam]
 rw [qam] at g3
 rw [qbc, ← e1] at g1
 rw [← e1] at g2 g3
 have z : (([] : List UInt8).length : Int) = 0 := rfl
 rw [z, Int.zero_add] at g1
 unfold ybb
 rw [g1]
 dsimp only
 rw [g2]
 dsimp only
 rw [g3]
 dsimp only
 rw [qae (by simp), qae (by simp), qae (by simp)]
 congr 2
 unfold qhd
 rw [qab, qab, qab]
 omega
theorem qu_put (s T : List UInt8) (h : s.length ≤ 20000) : quF (qhd s.length (bpr s) (qsy s).length ++ T) = qu2 s.length (bpr s) (qsy s).length T := by
 have h1 := yf4 s
 have h2 := ybi s
 unfold quF
 rw [qcut_put _ _ _ T (by omega) (by omega) (by omega), qae (by simp)]
 dsimp only
 rw [qan, qbK rfl]
theorem qback (s : List UInt8) (h : s.length ≤ 20000) : quF (qB s) = (s, 0) := by
 have h2 := ybi s
 unfold qB
 rw [qu_put s _ h]
 unfold qu2
 rw [qae (by omega), hback (by omega) (qsy_in s), qae (by simp)]
 exact qt_back s h
theorem hpad_any {l : List Int} (h : l.length ≤ 100000) (hi : hin l = true) (B : List UInt8) (hB0 : 0 < B.length) : (ybQ (text (hB l) ++ B) (l.length : Int)).2 = 6 := by
 have hr := hrow h B
 obtain ⟨h1, h2⟩ := ygp h hi _ _ hr (yc8 _)
 unfold ybQ hdec1
 rw [qae (by omega), h1, qae (by simp), qan]
 show (hdec2 _ (cunp (hws l) _ _ _ _)).2 = _
 rw [h2]
 unfold hdec2
 rw [qae (by simp), qae]
 unfold yfH
 rw [hr, qab, qab, yax, qav]
 simp
 intro h3
 omega
theorem qu2_no {n p k : Int} {rest : List UInt8} (h : (ybQ rest k).2 ≠ 0) : (qu2 n p k rest).2 ≠ 0 := by
 unfold qu2
 by_cases hx : 20000 < n ∨ n < k
 ·rw [qag hx]
  simp
 ·rw [qae hx, qag h]
  exact h
theorem qpad (s B : List UInt8) (h : s.length ≤ 20000) (hb : 0 < B.length) : (quF (qB s ++ B)).2 ≠ 0 := by
 have h2 := ybi s
 unfold qB
 rw [qam, qu_put s _ h]
 exact qu2_no (by rw [hpad_any (by omega) (qsy_in s) B hb]; simp)
theorem qtext_pos (l : List Int) : 0 < (text (hB l)).length := by
 have h1 := hB_pos l
 have h2 := yaW (hB l)
 omega
theorem qB_pos (s : List UInt8) : 4 ≤ (qB s).length := by
 have h1 := qtext_pos (qsy s)
 have h2 := qput_pos s.length
 have h3 := qput_pos (bpr s)
 have h4 := qput_pos (qsy s).length
 unfold qB qhd
 rw [qab, qab, qab]
 omega
theorem qcut (s : List UInt8) (k : Nat) (h : s.length ≤ 20000) (hk : k + 1 = (qB s).length) : (quF ((qB s).take k)).2 ≠ 0 := by
 have h1 := qtext_pos (qsy s)
 have h2 := ybi s
 have e : (qB s).take k = qhd s.length (bpr s) (qsy s).length ++ (text (hB (qsy s))).take ((text (hB (qsy s))).length - 1) := by
  unfold qB at hk ⊢
  rw [qab] at hk
  rw [List.take_append, qar (by omega)]
  congr 2
  omega
 rw [e, qu_put s _ h]
 exact qu2_no (hcut (by omega) (qsy_in s) _ (by omega))
theorem qt_ok {l : List Int} {r n : Int} (h : (qtF l r n).2 = 0) : (qtF l r n).1.length ≤ 20000 := by
 unfold qtF at h ⊢
 by_cases h1 : n < 0 ∨ 20000 < n
 ·rw [qag h1] at h; cases h
 rw [qae h1] at h ⊢
 by_cases h2 : (zunF l n).2 ≠ 0
 ·rw [qag h2] at h; exact absurd h h2
 rw [qae h2] at h ⊢
 by_cases h3 : ((zunF l n).1.length : Int) ≠ n
 ·rw [qag h3] at h; cases h
 rw [qae h3] at h ⊢
 have := (bi_only _ _ h).2
 rw [this, ygu]
 omega
theorem qt_none {l : List Int} {r n : Int} (h : (qtF l r n).2 ≠ 0) : (qtF l r n).1 = [] := by
 unfold qtF at h ⊢
 by_cases h1 : n < 0 ∨ 20000 < n
 ·rw [qag h1]
 rw [qae h1] at h ⊢
 by_cases h2 : (zunF l n).2 ≠ 0
 ·rw [qag h2]
 rw [qae h2] at h ⊢
 by_cases h3 : ((zunF l n).1.length : Int) ≠ n
 ·rw [qag h3]
 rw [qae h3] at h ⊢
 exact bi_none _ _ h
theorem qu_ok {b : List UInt8} (h : (quF b).2 = 0) : (quF b).1.length ≤ 20000 := by
 unfold quF qu2 at h ⊢
 by_cases h1 : (ybb b).2.2 ≠ 0
 ·rw [qag h1] at h; exact absurd h h1
 rw [qae h1] at h ⊢
 split at h
 ·cases h
 rename_i h2
 rw [qae h2]
 split at h
 ·rename_i h3; exact absurd h h3
 rename_i h3
 rw [qae h3]
 exact qt_ok h
theorem qu_none {b : List UInt8} (h : (quF b).2 ≠ 0) : (quF b).1 = [] := by
 unfold quF qu2 at h ⊢
 by_cases h1 : (ybb b).2.2 ≠ 0
 ·rw [qag h1]
 rw [qae h1] at h ⊢
 split at h
 ·rename_i h2; rw [qag h2]
 rename_i h2
 rw [qae h2]
 split at h
 ·rename_i h3; rw [qag h3]
 rename_i h3
 rw [qae h3]
 exact qt_none h
def ppB (l : List Int) : List UInt8 := l.flatMap putB
theorem ppB_take (l : List Int) (k : Nat) (h : k < l.length) : ppB (l.take (k + 1)) = ppB (l.take k) ++ putB l[k] := by
 unfold ppB
 rw [qat h, List.flatMap_append]
 simp
theorem pput_len (n : Int) : (putB n).length ≤ 9 := by
 unfold putB
 split
 ·exact qcb _
 ·exact dg_le 9 _
theorem ppB_len (l : List Int) : ∀ k, k ≤ l.length → (ppB (l.take k)).length ≤ 9 * k
 | 0, _ => qad _
 | k + 1, h => by
  have := ppB_len l k (by omega)
  have := pput_len l[k]
  rw [ppB_take l k (by omega), qab]
  omega
structure PLay (w wr : World) (v : Value) (L : List UInt8) : Prop where
 own : wr.ownsRow w.heap.size 5 1 v L.length (bc L).toList
 below : Below w.heap.size w wr
theorem PLay.on {w w1 w2 : World} {v : Value} {L : List UInt8} (h : PLay w w1 v L) (hb : Below w1.heap.size w1 w2) : PLay w w2 v L :=
 ⟨yah h.own hb (qad _), h.below.trans (hb.mono h.below.size)⟩
theorem PLay.add {w w1 w2 : World} {v v' : Value} {L X : List UInt8} (h : PLay w w1 v L) {n : Nat} (hn : n = (L ++ X).length) (ho : w2.ownsRow w.heap.size 5 1 v' n ((bc L).toList ++ Lib.strCells ⟨X.toArray⟩)) (hg : w1.grownBy w2 v.ownBlock) : PLay w w2 v' (L ++ X) := by
 refine ⟨?_, h.below.grown hg h.below.size fun b hb => (h.own.lt b hb).1⟩
 rw [show Lib.strCells ⟨X.toArray⟩ = (bc X).toList by simp [Lib.strCells, bc], show (bc L).toList ++ (bc X).toList = (bc (L ++ X)).toList by simp [bc], hn] at ho
 exact ho
theorem p_pput_any (l : List Int) (A : Option Addr) (n c : Nat) (w : World) (hl : l.length = n) (hn : n ≤ 1000) (hr : Reads w w.heap.size 1 A n (ints l)) (hbd : ∀ x ∈ l, x < 9223372036854775808) :
  Calls prog 49 #[.slice A n c] w fun e w' => e = .returned (.string ⟨(ppB l).toArray⟩) ∧ Below w.heap.size w w' := by
 obtain ⟨i0, hi, hz0, hz1, hz9⟩ := qb1 ygM
 have hcell : 0 < n → ∃ b off, A = some ⟨b, off, none⟩ ∧ b < w.heap.size ∧ ∀ k, (hk : k < l.length) → w.cell? ⟨b, off + k, none⟩ = some (.int .i64 l[k]) := by
  intro h
  obtain ⟨b, off, e, hb, hc⟩ := hr.2 h
  exact ⟨b, off, e, hb, fun k hk => hc k _ (yai l k hk)⟩
 have HL := qaa hl
 have HC := qaa hcell
 have HBd := qaa hbd
 have H0 : Hid (PLay w w (.slice none 0 0) []) := qaa ⟨qbn _ _ _ _, qak _ _⟩
 have H00 : Hid (ppB (l.take 0) = []) := qaa rfl
 have Hln : Hid (∀ k, k ≤ n → (ppB (l.take k)).length ≤ 9 * k) := qaa fun k hk => ppB_len l k (by omega)
 clear hr hcell hbd hl
 go_enter func49, ntmps49
 go_wp2
 go_loopw [3, 10] (fun o i wr => ∃ k : Nat, k ≤ n ∧ i = .int .i64 (k : Int) ∧ Hid (PLay w wr o (ppB (l.take k)))) (fun _ i _ => n - (intOf i).toNat)
 case atStart => exact ⟨0, by omega, rfl, qaa (by rw [H00.out]; exact H0.out)⟩
 case round =>
  obtain ⟨k, hk, rfl, HI⟩ := hrel
  by_cases hlt : k < n
  ·have hkl : k < l.length := by have := HL.out; omega
   obtain ⟨b, off, rfl, hb, hcell⟩ := HC.out (by omega)
   have c0 := (HI.out.below.cell (p := ⟨b, off + k, none⟩) hb).trans (hcell k hkl)
   have hki : (0 : Int) ≤ (k : Int) ∧ (k : Int) < (n : Int) := by omega
   have hp := qaa fun W => put_any l[k] W (HBd.out _ (qaq hkl))
   unfold ygS at hp
   have hnx : Hid (ppB (l.take (k + 1)) = ppB (l.take k) ++ putB l[k]) := qaa (ppB_take l k hkl)
   have l1 := pput_len l[k]
   have l2 := Hln.out k hk
   have l3 : (ppB (l.take k)).length ≤ 9000 := by omega
   clear l2 hcell HBd
   generalize l[k] = z at *
   generalize putB z = Z at *
   generalize putE z = E at *
   go_wp2_with (first
    | (go_at_call 94; (with_reducible refine (hp.out _).mono ?_); rintro e w3 ⟨rfl, hb3⟩; have HI3 := qaa (HI.out.on hb3); clear hb3 hp)
    | (refine Lib.wpList_append_own_string _ rfl _ _ 36 9 rfl w.heap.size 5 i0 underlying36 underlying9 hi hz0 hz1 hz9 _ _ _ rfl HI3.out.own _ rfl ?c1 ?c2 HI3.out.below.size ?_))
   case c1 => rw [qaL, qa3]; unfold maxLen; omega
   case c2 => rw [qaL, qa3]; omega
   ·intro v' w4 ho4 hg4 _
    have HI4 := qaa (HI3.out.add (X := Z) (by simp only [qab]) ho4 hg4)
    clear ho4 hg4
    go_wp2
    go_roundw
    case rel => exact ⟨k + 1, by omega, iv (by omega), qaa (by rw [hnx.out]; exact HI4.out)⟩
    case measure => simp only [intOf]; omega
  ·obtain rfl : k = n := by omega
   have e : ppB l = ppB (l.take k) := by rw [qar (by have := HL.out; omega)]
   obtain ⟨A2, cc2, hv2, hc2, hr2⟩ := yae HI.out.own
   have hst := ybZ underlying36 underlying5 underlying9 _ A2 cc2 _ hr2
   have HE := qaa e
   subst hv2
   clear hr2 hc2 e
   go_wp2
   go_ret
   refine ⟨?_, HI.out.below⟩
   rw [HE.out]
   rfl
theorem tget_out (L : List Nat) (p : Nat) (N : Int) (h : N < 0 ∨ 257 < N) : ybB L p N = ([], p, 2) := by
 unfold ybB
 rw [qag h]
theorem tget_in (L : List Nat) (p M : Nat) (hM : M ≤ 257) (Z : List Int × Nat × Int) (hZ : ycn L M (M + 1) p (-1) [] = Z) : ybB L p (M : Int) = if trdE Z ≠ 0 then ([], p, trdE Z) else (trdL Z, Z.2.1, 0) := by
 unfold ybB trdE trdL
 rw [qae (by omega), qan, hZ]
 by_cases h : Z.2.2 ≠ 0
 ·rw [qag h, qag h, qag h]
 ·rw [qae h, qae h, qae h]
theorem trd_zero {Z : List Int × Nat × Int} (h : trdE Z = 0) : Z.2.2 = 0 := by
 unfold trdE at h
 by_cases h2 : Z.2.2 ≠ 0
 ·rw [qag h2] at h
  exact h
 ·omega
theorem treads_set {w : World} {size n : Nat} {A : Option Addr} {xs : List Value} (h : Reads w w.heap.size size A n xs) {p : Addr} (hp : ∀ a : Addr, A = some a → a.block ≠ p.block) (u : Value) : Reads (w.setCell p u) (w.setCell p u).heap.size size A n xs := by
 refine ⟨h.1, fun hn => ?_⟩
 obtain ⟨b, off, e, hb, hc⟩ := h.2 hn
 refine ⟨b, off, e, by simpa [World.setCell] using hb, fun j u2 hu => ?_⟩
 rw [qc4 w p _ u (fun e2 => hp _ e (by rw [e2]))]
 exact hc j u2 hu
def TGot (w w' : World) (s : List UInt8) (g : Nat) (e : Ending) (F : List Int × Nat × Int) : Prop :=
 ∃ A' c', e = .returned (.tuple #[.slice A' F.1.length c', .int .i64 F.2.2]) ∧ F.1.length ≤ c' ∧ Reads w' w'.heap.size 1 A' F.1.length (ints F.1) ∧ RHold w' g s F.2.1 ∧ Touch w w' (fun k => k = g)
theorem tgot_bad {w w' : World} {s : List UInt8} {g p : Nat} {E : Int} (hR : RHold w' g s p) (ht : Touch w w' (fun k => k = g)) : TGot w w' s g (.returned (.tuple #[.slice none 0 0, .int .i64 E])) ([], p, E) :=
 ⟨none, 0, rfl, qad _, Reads.none_, hR, ht⟩
theorem tgot_any (s : List UInt8) (p g : Nat) (N : Int) (w : World) (hs : s.length ≤ 100000000000) (hp : p ≤ 8 * s.length) (hR : RHold w g s p) :
  Calls prog 87 #[.pointer (some ⟨g, 0, none⟩), .int .i64 N] w fun e w' => TGot w w' s g e (ybB (yag s) p N) := by
 by_cases h1 : N < 0
 ·rw [tget_out _ _ _ (qay h1)]
  go_enter func87, ntmps87
  go_wp2
  go_ret2
  exact tgot_bad hR (Touch.refl _ _)
 by_cases h2 : 257 < N
 ·rw [tget_out _ _ _ (qaI h2)]
  go_enter func87, ntmps87
  go_wp2
  go_ret2
  exact tgot_bad hR (Touch.refl _ _)
 obtain ⟨M, rfl⟩ := qaF (by omega : 0 ≤ N)
 obtain ⟨Z, hZ⟩ : ∃ Z, ycn (yag s) M (M + 1) p (-1) [] = Z := ⟨_, rfl⟩
 rw [tget_in _ _ _ (by omega) Z hZ]
 obtain ⟨c1, c2, z1, z2⟩ := Blk.two hR
 have hgl := Blk.lt hR
 have hMi : (0 : Int) ≤ (M : Int) ∧ (M : Int) ≤ 257 := by omega
 have Hread := qaa (p_tread_any s p w.heap.size M (w.alloc (.cells #[.string ⟨s.toArray⟩, .int .i64 (p : Int)] 174)) (by omega) hs hp (Blk.new w _ _) Z hZ)
 have HR := qaa hR
 have Hback : Hid (∀ w2, Touch (w.alloc (.cells #[.string ⟨s.toArray⟩, .int .i64 (p : Int)] 174)) w2 (fun k => k = w.heap.size) → RHold w2 g s p ∧ Touch w w2 (fun k => k = g)) := qaa fun w2 h =>
  ⟨(Blk.alloc hR _).touch h (by omega), ((Touch.refl w _).alloc _).next h (fun k hk e => by omega)⟩
 clear hZ hR hs hp
 by_cases hE : trdE Z = 0
 ·rw [qae (by simpa using hE)]
  have hz := trd_zero hE
  have HE := qaa hE
  have Hz := qaa hz
  clear hE hz
  go_enter func87, ntmps87
  go_wp2_with (go_at_call 126; refine Hread.out.mono ?_; unfold yef; rintro e w2 ⟨A2, cv2, q, rfl, h3, h4, h5, h6, h7, h8⟩; rw [HE.out]; have hq := h7 Hz.out; subst hq; obtain ⟨g1, g2⟩ := Hback.out _ h6; have H3 := qaa h3; have H4 := qaa h4; have G1 := qaa g1; have G2 := qaa g2; have H8 := qaa h8; obtain ⟨d1, d2, _, _⟩ := Blk.two h5; obtain ⟨e1, e2, e3, e4⟩ := Blk.two g1; clear h3 h4 h5 h6 h7 h8 g1 g2)
  go_ret2
  refine ⟨A2, cv2, rfl, H3.out, ?_, ?_, ?_⟩
  ·exact treads_set (treads_set H4.out (fun a h => by have := H8.out a h; rw [qaw] at this; show a.block ≠ g; omega) _) (fun a h => by have := H8.out a h; rw [qaw] at this; show a.block ≠ g; omega) _
  ·exact ((Blk.set_ G1.out 0 _).set_ 1 _)
  ·exact (G2.out.set (p := ⟨g, 0, none⟩) (qay rfl) _).set (p := ⟨g, 1, none⟩) (qay rfl) _
 ·rw [qag (by simpa using hE)]
  have hb1 : (trdE Z == 0) = false := by simpa using hE
  have hb2 : (trdE Z != 0) = true := by simpa using hE
  go_enter func87, ntmps87
  go_wp2_with (go_at_call 126; refine Hread.out.mono ?_; unfold yef; rintro e w2 ⟨A2, cv2, q, rfl, h3, h4, h5, h6, h7, h8⟩; obtain ⟨g1, g2⟩ := Hback.out _ h6; have G1 := qaa g1; have G2 := qaa g2; clear h3 h4 h5 h6 h7 h8 g1 g2)
  go_ret2
  exact tgot_bad G1.out G2.out
theorem CFar.lt {W : World} {g : Nat} {ls : List Nat} {ok : Nat → Prop} (h : CFar W g ls ok) : CFar W g ls (fun k => k < W.heap.size ∧ ok k) := by
 obtain ⟨B, k, st, rows, h, hB, o1, o2, o3⟩ := h
 refine ⟨B, k, st, rows, h, hB, ⟨qaZ h.gB hB, o1⟩, ⟨qaZ h.hB hB, o2⟩, fun j hj A n c e hn a ha => ⟨?_, o3 j hj A n c e hn a ha⟩⟩
 obtain ⟨A2, c2, e2, hr⟩ := h.row j hj
 rw [e] at e2
 injection e2 with e3 e4 _
 subst e3 e4
 obtain ⟨b, off, e5, hb, _⟩ := hr.2 hn
 rw [ha] at e5
 injection e5 with e5
 rw [e5]
 exact qaZ hb hB
theorem hget_fail (ws : List (Int × Int)) (L : List Nat) (p : Nat) (hf : ∀ f ∈ ws, fits f.1 f.2) (h : (ybl ws L p).2.2 ≠ 0) : (ybl ws L p).1 = 0 ∧ (ybl ws L p).2.1 = 0 := by
 unfold ybl at h ⊢
 rcases yfT (L.drop p) ws 0 (if p = L.length then 4 else 40) (by split <;> omega) hf with ⟨h1, _⟩ | ⟨_, h2, h3⟩
 ·exact absurd h1 h
 ·exact ⟨h2, h3⟩
structure HDec (w3 wr : World) (s : List UInt8) (gr g : Nat) (ls : List Nat) (q k : Nat) (acc : List Int) (Av : Option Addr) (cv : Nat) : Prop where
 rd : RHold wr gr s q
 far : CFar wr g ls (fun k => k < w3.heap.size ∧ k ≠ gr)
 row : wr.ownsRow w3.heap.size 3 1 (.slice Av k cv) k (ints acc)
 tch : Touch w3 wr (fun k => k = gr)
 glt : gr < w3.heap.size
section
variable {w3 wr w5 w6 : World} {s : List UInt8} {gr g q k : Nat} {ls : List Nat} {acc : List Int} {Av : Option Addr} {cv : Nat}
theorem HDec.get (T : HDec w3 wr s gr g ls q k acc Av cv) {q2 : Nat} (h : RHold w5 gr s q2) (ht : Touch wr w5 (fun k => k = gr)) : HDec w3 w5 s gr g ls q2 k acc Av cv :=
 ⟨h, T.far.touch ht (fun k hk e => hk.2 e), yay T.row ht (fun b hb e => by have := (T.row.lt b hb).1; have := T.glt; omega), T.tch.trans ht, T.glt⟩
theorem HDec.app (T : HDec w3 wr s gr g ls q k acc Av cv) {o : Obj} {A2 : Option Addr} {c2 : Nat} {x : Int} (ho : w6.ownsRow w3.heap.size 3 1 (.slice A2 (k + 1) c2) (k + 1) (ints acc ++ [.int .i64 x])) (hg : (wr.alloc o).grownBy w6 (Value.slice Av k cv).ownBlock) : HDec w3 w6 s gr g ls q (k + 1) (acc ++ [x]) A2 c2 := by
 have hown : ∀ b, (Value.slice Av k cv).ownBlock = some b → w3.heap.size ≤ b := fun b hb => (T.row.lt b hb).1
 have ht : Touch wr w6 (fun b => (Value.slice Av k cv).ownBlock = some b) := ((Touch.refl wr _).alloc o).trans ((yaF hg).mono fun b _ e => e.symm)
 refine ⟨T.rd.touch ht (fun e => by have := hown _ e; have := T.glt; omega), T.far.touch ht (fun b hb e => by have := hown _ e; omega), ?_, T.tch.next ht (fun b hb e => by have := hown _ e; omega), T.glt⟩
 have e : ints (acc ++ [x]) = ints acc ++ [.int .i64 x] := by simp [ints]
 rw [e]
 exact ho
end
theorem hcpost_acc {w w' : World} {acc : List Int} {k c : Nat} {A : Option Addr} (hl : acc.length = k) (hc : k ≤ c) (hr : Reads w' w'.heap.size 1 A k (ints acc)) (hb : Below w.heap.size w w') : yf9 w w' (.returned (.tuple #[.slice A k c, .int .i64 0])) (acc, 0) := by
 subst hl
 exact ⟨A, c, rfl, hc, hr, hb⟩
theorem yhs (w3 : World) (s : List UInt8) (gr g q : Nat) (ls : List Nat) (h1 : RHold w3 gr s q) (h2 : CFar w3 g ls (fun k => k ≠ gr)) : HDec w3 w3 s gr g ls q 0 [] none 0 :=
 ⟨h1, h2.lt, qbn _ _ _ _, Touch.refl _ _, Blk.lt h1⟩
def HRow (w w' : World) (e : Ending) (s : List UInt8) (gr : Nat) (U : List Int × Nat × Int) : Prop :=
 Touch w w' (fun k => k = gr) ∧ ((U.2.2 ≠ 0 ∧ e = .returned (.tuple #[.slice none 0 0, .int .i64 U.2.2])) ∨ (U.2.2 = 0 ∧ ∃ A c, e = .returned (.tuple #[.slice A U.1.length c, .int .i64 0]) ∧ U.1.length ≤ c ∧ Reads w' w'.heap.size 1 A U.1.length (ints U.1) ∧ RHold w' gr s U.2.1 ∧ U.2.1 ≤ 8 * s.length))
theorem hrow_bad {w w' : World} {s : List UInt8} {gr : Nat} {U : List Int × Nat × Int} {E : Int} (hE : E ≠ 0) (h : U.2.2 = E) (ht : Touch w w' (fun k => k = gr)) : HRow w w' (.returned (.tuple #[.slice none 0 0, .int .i64 E])) s gr U := by
 subst h
 exact ⟨ht, qay ⟨hE, rfl⟩⟩
theorem hrow_good {w w' : World} {s : List UInt8} {gr g q k : Nat} {ls : List Nat} {acc : List Int} {Av : Option Addr} {cv : Nat} {U : List Int × Nat × Int} (h : (acc, q, (0 : Int)) = U) (ha : acc.length = k) (hq : q ≤ 8 * s.length) (T : HDec w w' s gr g ls q k acc Av cv) : HRow w w' (.returned (.tuple #[.slice Av k cv, .int .i64 0])) s gr U := by
 subst h ha
 obtain ⟨A2, c2, e2, h8, h9⟩ := yae T.row
 injection e2 with e3 _ e4
 subst e3 e4
 exact ⟨T.tch, qaI ⟨rfl, _, _, rfl, h8, h9, T.rd, hq⟩⟩
section
variable {s : List UInt8} {ls : List Nat} {M : Nat}
theorem p_hrow_any (w3 : World) (g gr q0 : Nat) (hs : s.length ≤ 100000000000) (hM : M ≤ 100000) (hat : q0 ≤ 8 * s.length) (h15 : ∀ x ∈ ls, x ≤ 15) (hca : call ls ≤ 32768) (hD : yaA ls ls.length = 1 ∨ call ls = 32768) (hll : ls.length ≤ 257) (hfit : ∀ f ∈ wat ls 16 0, fits f.1 f.2) (hwl : (wat ls 16 0).length ≤ 257) (h0 : HDec w3 w3 s gr g ls q0 0 [] none 0) :
  Calls prog 88 #[.int .i64 (M : Int), .pointer (some ⟨gr, 0, none⟩), .func (.func 89) #[.pointer (some ⟨g, 0, none⟩)] #[]] w3 fun e w' => HRow w3 w' e s gr (cunp (wat ls 16 0) (yag s) M q0 []) := by
 obtain ⟨i0, hi, hz0, hz1, hz9⟩ := qb1 yet
 obtain ⟨U, hU⟩ : ∃ U, cunp (wat ls 16 0) (yag s) M q0 [] = U := ⟨_, rfl⟩
 have HG := qaa fun (W : World) ok (q : Nat) (hfar : CFar W g ls ok) (hgr : ¬ ok gr) (hR : RHold W gr s q) (hq : q ≤ 8 * s.length) => c_get_far ls ok g gr s q W hfar h15 hca hD hll hgr hR (by omega) hq
 have Hok := qaa fun q (hq : q ≤ 8 * s.length) => cgetF_ok (wat ls 16 0) (yag s) q (8 * s.length) (yax s) hq hwl hfit
 have Hfl := qaa fun q => hget_fail (wat ls 16 0) (yag s) q hfit
 have HU := qaa hU
 have H0 := qaa h0
 have hMi : (0 : Int) ≤ (M : Int) ∧ (M : Int) ≤ 100000 := by omega
 rw [hU]
 clear h0 hU h15 hca hD hll hfit hwl hs
 go_enter func88, ntmps88
 go_wp2
 go_loopw [8, 9, 10, 12] (fun v xv ev i wr => ∃ (k q : Nat) (acc : List Int) (Av : Option Addr) (cv : Nat), k ≤ M ∧ q ≤ 8 * s.length ∧ v = .slice Av k cv ∧ i = .int .i64 k ∧ Hid (acc.length = k) ∧ Hid (cunp (wat ls 16 0) (yag s) (M - k) q acc = U) ∧ Hid (HDec w3 wr s gr g ls q k acc Av cv)) (fun _ _ _ i _ => M - (intOf i).toNat)
 case atStart => exact ⟨0, q0, [], none, 0, by omega, hat, rfl, rfl, qaa rfl, qaa HU.out, H0⟩
 case round =>
  obtain ⟨k, q, acc, Av, cv, hk, hq, rfl, rfl, Hacc, HR, HT⟩ := hrel
  clear H0 HU hat
  by_cases hlt : k < M
  ·have hki : (k : Int) < (M : Int) := by omega
   have hget := HG.out wr (fun k => k < w3.heap.size ∧ k ≠ gr) q HT.out.far (fun h => h.2 rfl) HT.out.rd hq
   have hok := Hok.out q hq
   have hfl := Hfl.out q
   have hst := HR.out
   rw [show M - k = M - (k + 1) + 1 from by omega, ydi] at hst
   generalize ybl (wat ls 16 0) (yag s) q = G at *
   obtain ⟨g1, g2, g3⟩ := G
   unfold CGet2 at hget
   dsimp only at hst hok hget hfl
   have Hget := qaa hget
   clear hget
   rcases hok with ⟨rfl, x, kk, rfl, hx, rfl, hkk⟩ | hne
   ·rw [qag rfl, qan] at hst
    have Hst := qaa hst
    rw [qan] at Hget
    clear hst hfl
    go_wp2_with (first
     | (go_at_call 89; refine Hget.out.mono ?_; rintro e w5 ⟨rfl, hr5, ht5⟩; have HT5 := qaa (HT.out.get hr5 ht5); clear hr5 ht5)
     | (at_builtin; refine yaf _ rfl _ _ 28 rfl w3.heap.size 3 i0 (.int .i64 0) 1 8 underlying28 hi hz0 hz1 hz9 rfl (by decide) _ _ _ rfl (yah HT5.out.row ((qak w5.heap.size w5).alloc (qad _) _) (qad _)) _ 1 1 _ _ rfl (ya0 w5 3 #[.int .i64 (x : Int)] 1 1 rfl) ?c1 ?c2 ?c3 ?c4 ?_))
    case c1 => first | rfl | (intro u hu; rw [qcq.1 hu]; rfl)
    case c2 => unfold maxLen; omega
    case c3 => omega
    case c4 =>
     have := HT5.out.tch.size
     simp
     omega
    intro v7 w7 ho7 hg7 _
    obtain ⟨A8, c8, rfl, _, _⟩ := yae ho7
    have HT7 : Hid (HDec w3 w7 s gr g ls (q + kk) (k + 1) (acc ++ [(x : Int)]) A8 c8) := qaa (HT5.out.app ho7 hg7)
    clear ho7 hg7
    go_wp2
    go_roundw
    case rel => exact ⟨k + 1, q + kk, acc ++ [(x : Int)], A8, c8, by omega, hkk, rfl, iv (by omega), qaa (by rw [qab, Hacc.out]; rfl), qaa Hst.out, HT7⟩
    case measure => simp only [intOf]; omega
   ·have hg3 : g3 ≠ 0 := by omega
    obtain ⟨rfl, rfl⟩ := hfl hg3
    rw [qae hg3] at hst
    have Hu := qaa (show U.2.2 = g3 by rw [← hst])
    have Hg3 := qaa hg3
    have hb1 : (g3 == 0) = false := by simpa using hg3
    have hb2 : (g3 != 0) = true := by simpa using hg3
    clear hst hfl hne hg3
    go_wp2_with (go_at_call 89; refine Hget.out.mono ?_; rintro e w5 ⟨rfl, hr5, ht5⟩; have HT5 := qaa (HT.out.get hr5 ht5); clear hr5 ht5)
    go_ret2
    exact hrow_bad Hg3.out Hu.out HT5.out.tch
  ·obtain rfl : k = M := by omega
   have hii : ¬ (k : Int) < (k : Int) := by omega
   have hst := HR.out
   rw [qbS] at hst
   have Hst := qaa (show (acc, q, (0 : Int)) = U from hst)
   clear hst
   go_wp2
   go_ret2
   exact hrow_good Hst.out Hacc.out hq HT.out
end
theorem p_hdecode_any (s : List UInt8) (N : Int) (w : World) (hs : s.length ≤ 100000000000) :
  Calls prog 46 #[.string ⟨s.toArray⟩, .int .i64 N] w fun e w' => yf9 w w' e (ybQ s N) := by
 obtain ⟨i0, hi, hz0, hz1, hz9⟩ := qb1 yet
 have hmf : ∀ (fn : Fn) (first cap : Array Value) (w : World), (Instr.makeFunc fn first cap).run prog w = .ok (.func fn first cap) w := fun _ _ _ _ => rfl
 obtain ⟨F, hF⟩ : ∃ F, ybQ s N = F := ⟨_, rfl⟩
 rw [hF]
 unfold ybQ at hF
 by_cases h1 : N < 0
 ·rw [qag (qay h1)] at hF
  subst hF
  clear hs
  go_enter func46, ntmps46
  go_wp2
  go_ret2
  exact ya8 (qak _ _)
 by_cases h2 : 100000 < N
 ·rw [qag (qaI h2)] at hF
  subst hF
  clear hs
  go_enter func46, ntmps46
  go_wp2
  go_ret2
  exact ya8 (qak _ _)
 rw [qae (by omega)] at hF
 obtain ⟨M, rfl⟩ := qaF (by omega : 0 ≤ N)
 rw [qan] at hF
 have hMi : (0 : Int) ≤ (M : Int) ∧ (M : Int) ≤ 100000 := by omega
 have hb := (qak w.heap.size w).alloc (qad _) (.cells #[.string ⟨s.toArray⟩, .int .i64 0] 174)
 have hget := tgot_any s 0 w.heap.size 257 (w.alloc (.cells #[.string ⟨s.toArray⟩, .int .i64 0] 174)) hs (by omega) (Blk.new w _ _)
 obtain ⟨G, hG⟩ : ∃ G, ybB (yag s) 0 257 = G := ⟨_, rfl⟩
 rw [hG] at hF hget
 unfold hdec1 at hF
 by_cases hE : G.2.2 = 0
 ·rw [qae (by simpa using hE)] at hF
  have hgm := tgetF_more (yag s) [] 0 257 (qcb _) (by rw [hG]; exact hE)
  rw [hG, yax] at hgm
  obtain ⟨_, hat, hck⟩ := hgm
  obtain ⟨hl, hg, hca⟩ := ycj hck
  obtain ⟨ln, q0, e0⟩ := G
  dsimp only at hE hF hat hck hl hg hca hget
  subst hE
  have hnew := fun (W : World) A c (hr : Reads W W.heap.size 1 A ln.length (ints ln)) => c_new_any ln A ln.length c W (by omega) hr
  have hnew2 : ∀ (W : World) A c, Reads W W.heap.size 1 A ln.length (ints ln) → Calls prog 62 #[.slice A ln.length c] W fun e w' => ∃ g, e = .returned (.tuple #[.pointer (some ⟨g, 0, none⟩), .int .i64 0]) ∧ CFar w' g (ln.map Int.toNat) (fun k => W.heap.size ≤ k) ∧ Below W.heap.size W w' := fun W A c hr => by
   refine (hnew W A c hr).mono ?_
   rintro e w' ⟨h1, ⟨_, g, _, rfl, h2⟩ | ⟨h2, _⟩⟩
   ·exact ⟨g, rfl, h2.2, h1⟩
   ·exact absurd hck h2
  have Hnew := qaa hnew2
  have h15 := cnat15 hg
  have hD := cdeep_full hck
  have hll : (ln.map Int.toNat).length ≤ 257 := by rw [qaD]; exact hl
  have hfit := cwords_fit ln
  rw [yh3 hck] at hfit
  dsimp only at hfit
  have hwl : (wat (ln.map Int.toNat) 16 0).length ≤ 257 := by rw [yaD]; exact hll
  clear hnew hnew2 hck hg hl
  generalize ln.map Int.toNat = ls at *
  have Hrow := qaa fun (W : World) (g gr : Nat) (h : HDec W W s gr g ls q0 0 [] none 0) => p_hrow_any (M := M) W g gr q0 hs (by omega) hat h15 hca hD hll hfit hwl h
  obtain ⟨U, hU⟩ : ∃ U, cunp (wat ls 16 0) (yag s) M q0 [] = U := ⟨_, rfl⟩
  rw [hU] at hF Hrow
  have Hdone := qaa fun W (q gr : Nat) (hq : q ≤ 8 * s.length) (hR : RHold W gr s q) => done_any s q gr W (by omega) hq hR
  have Hget := qaa hget
  have Hb := qaa hb
  unfold hdec2 at hF
  clear hget hb hU hG h15 hca hD hll hfit hwl hs
  obtain ⟨ul, uq, ue⟩ := U
  dsimp only at hF
  have Hne : Hid (∀ (w2 : World), RHold w2 w.heap.size s q0 → w.heap.size < w2.heap.size) := qaa fun w2 h => Blk.lt h
  by_cases hu : ue = 0
  ·subst hu
   rw [qae (by decide)] at hF
   have Hrow2 : Hid (∀ (W : World) (g gr : Nat), HDec W W s gr g ls q0 0 [] none 0 → Calls prog 88 #[.int .i64 (M : Int), .pointer (some ⟨gr, 0, none⟩), .func (.func 89) #[.pointer (some ⟨g, 0, none⟩)] #[]] W fun e w' => ∃ A c, e = .returned (.tuple #[.slice A ul.length c, .int .i64 0]) ∧ ul.length ≤ c ∧ Reads w' w'.heap.size 1 A ul.length (ints ul) ∧ RHold w' gr s uq ∧ uq ≤ 8 * s.length ∧ Touch W w' (fun k => k = gr)) := qaa fun W g gr h => by
    refine (Hrow.out W g gr h).mono ?_
    rintro e w' ⟨ht, ⟨h2, _⟩ | ⟨_, A, c, rfl, h3, h4, h5, h6⟩⟩
    ·exact absurd rfl h2
    ·exact ⟨A, c, rfl, h3, h4, h5, h6, ht⟩
   clear Hrow
   obtain ⟨dn, hdn⟩ : ∃ dn, yfH (yag s) uq = dn := ⟨_, rfl⟩
   rw [hdn] at hF
   have Hdn : Hid (∀ (W : World) gr, uq ≤ 8 * s.length → RHold W gr s uq → Calls prog 90 #[.pointer (some ⟨gr, 0, none⟩)] W fun e w' => e = .returned (.bool dn) ∧ ∃ k, W.drewN k = w') := qaa fun W gr hq hR => by
    have := Hdone.out W uq gr hq hR
    rwa [hdn] at this
   clear Hdone hdn
   cases dn
   ·rw [qae (by decide)] at hF
    go_enter func46, ntmps46
    go_wp2_with (first
     | (go_at_call 86; refine (ybC _ _).mono ?_; rintro e w1 ⟨rfl, rfl⟩)
     | (go_at_call 87; refine Hget.out.mono ?_; unfold TGot; rintro e w2 ⟨A2, c2, rfl, _, h4, h5, h6⟩; have H4 := qaa h4; have H5 := qaa h5; have H6 := qaa h6; clear h4 h5 h6)
     | (go_at_call 62; refine (Hnew.out _ _ _ H4.out).mono ?_; rintro e w3 ⟨g, rfl, h7, hb3⟩; have H7 := qaa h7; have Hb3 := qaa hb3; clear h7 hb3)
     | (go_at_call 88; refine (Hrow2.out w3 g w.heap.size (yhs w3 s w.heap.size g q0 ls (Blk.below H5.out Hb3.out (Hne.out w2 H5.out)) (H7.out.mono fun k hk e => absurd (e ▸ hk) (Nat.not_le_of_lt (Hne.out w2 H5.out))))).mono ?_; rintro e w4 ⟨A4, c4, rfl, h8, h9, h10, h11, h12⟩; have H8 := qaa h8; have H9 := qaa h9; have H10 := qaa h10; have H11 := qaa h11; have H12 := qaa h12; clear h8 h9 h10 h11 h12)
     | (go_at_call 90; refine (Hdn.out w4 w.heap.size H11.out H10.out).mono ?_; rintro e w6 ⟨rfl, kd, rfl⟩))
    go_ret2
    have hne := Hne.out w2 H5.out
    have hb2 : Below w.heap.size w w2 := Hb.out.trans (H6.out.below (fun k _ e => by omega) Hb.out.size)
    have hb4 : Below w.heap.size w w4 := (hb2.trans (Hb3.out.mono hb2.size)).trans (H12.out.below (fun k _ e => by omega) (hb2.trans (Hb3.out.mono hb2.size)).size)
    rw [← hF]
    exact ya8 (yaj hb4 kd)
   ·rw [qag rfl] at hF
    go_enter func46, ntmps46
    go_wp2_with (first
     | (go_at_call 86; refine (ybC _ _).mono ?_; rintro e w1 ⟨rfl, rfl⟩)
     | (go_at_call 87; refine Hget.out.mono ?_; unfold TGot; rintro e w2 ⟨A2, c2, rfl, _, h4, h5, h6⟩; have H4 := qaa h4; have H5 := qaa h5; have H6 := qaa h6; clear h4 h5 h6)
     | (go_at_call 62; refine (Hnew.out _ _ _ H4.out).mono ?_; rintro e w3 ⟨g, rfl, h7, hb3⟩; have H7 := qaa h7; have Hb3 := qaa hb3; clear h7 hb3)
     | (go_at_call 88; refine (Hrow2.out w3 g w.heap.size (yhs w3 s w.heap.size g q0 ls (Blk.below H5.out Hb3.out (Hne.out w2 H5.out)) (H7.out.mono fun k hk e => absurd (e ▸ hk) (Nat.not_le_of_lt (Hne.out w2 H5.out))))).mono ?_; rintro e w4 ⟨A4, c4, rfl, h8, h9, h10, h11, h12⟩; have H8 := qaa h8; have H9 := qaa h9; have H10 := qaa h10; have H11 := qaa h11; have H12 := qaa h12; clear h8 h9 h10 h11 h12)
     | (go_at_call 90; refine (Hdn.out w4 w.heap.size H11.out H10.out).mono ?_; rintro e w6 ⟨rfl, kd, rfl⟩))
    go_ret2
    have hne := Hne.out w2 H5.out
    have hb2 : Below w.heap.size w w2 := Hb.out.trans (H6.out.below (fun k _ e => by omega) Hb.out.size)
    have hb4 : Below w.heap.size w w4 := (hb2.trans (Hb3.out.mono hb2.size)).trans (H12.out.below (fun k _ e => by omega) (hb2.trans (Hb3.out.mono hb2.size)).size)
    rw [← hF]
    exact hcpost_acc rfl H8.out (H9.out.drewN kd) (yaj hb4 kd)
  ·rw [qag hu] at hF
   have hb1 : (ue == 0) = false := by simpa using hu
   have hb2 : (ue != 0) = true := by simpa using hu
   have Hrow2 : Hid (∀ (W : World) (g gr : Nat), HDec W W s gr g ls q0 0 [] none 0 → Calls prog 88 #[.int .i64 (M : Int), .pointer (some ⟨gr, 0, none⟩), .func (.func 89) #[.pointer (some ⟨g, 0, none⟩)] #[]] W fun e w' => e = .returned (.tuple #[.slice none 0 0, .int .i64 ue]) ∧ Touch W w' (fun k => k = gr)) := qaa fun W g gr h => by
    refine (Hrow.out W g gr h).mono ?_
    rintro e w' ⟨ht, ⟨_, h2⟩ | ⟨h2, _⟩⟩
    ·exact ⟨h2, ht⟩
    ·exact absurd h2 hu
   clear Hrow Hdone hu
   go_enter func46, ntmps46
   go_wp2_with (first
    | (go_at_call 86; refine (ybC _ _).mono ?_; rintro e w1 ⟨rfl, rfl⟩)
    | (go_at_call 87; refine Hget.out.mono ?_; unfold TGot; rintro e w2 ⟨A2, c2, rfl, _, h4, h5, h6⟩; have H4 := qaa h4; have H5 := qaa h5; have H6 := qaa h6; clear h4 h5 h6)
    | (go_at_call 62; refine (Hnew.out _ _ _ H4.out).mono ?_; rintro e w3 ⟨g, rfl, h7, hb3⟩; have H7 := qaa h7; have Hb3 := qaa hb3; clear h7 hb3)
    | (go_at_call 88; refine (Hrow2.out w3 g w.heap.size (yhs w3 s w.heap.size g q0 ls (Blk.below H5.out Hb3.out (Hne.out w2 H5.out)) (H7.out.mono fun k hk e => absurd (e ▸ hk) (Nat.not_le_of_lt (Hne.out w2 H5.out))))).mono ?_; rintro e w4 ⟨rfl, h12⟩; have H12 := qaa h12; clear h12))
   go_ret2
   have hne := Hne.out w2 H5.out
   have hb3 : Below w.heap.size w w2 := Hb.out.trans (H6.out.below (fun k _ e => by omega) Hb.out.size)
   rw [← hF]
   exact ya8 ((hb3.trans (Hb3.out.mono hb3.size)).trans (H12.out.below (fun k _ e => by omega) (hb3.trans (Hb3.out.mono hb3.size)).size))
 ·rw [qag (by simpa using hE)] at hF
  have hb1 : (G.2.2 == 0) = false := by simpa using hE
  have hb2 : (G.2.2 != 0) = true := by simpa using hE
  have Hget := qaa hget
  have Hb := qaa hb
  subst hF
  clear hget hb hG hE hs
  obtain ⟨ln, q0, e0⟩ := G
  dsimp only at *
  go_enter func46, ntmps46
  go_wp2_with (first
   | (go_at_call 86; refine (ybC _ _).mono ?_; rintro e w1 ⟨rfl, rfl⟩)
   | (go_at_call 87; refine Hget.out.mono ?_; unfold TGot; rintro e w2 ⟨A2, c2, rfl, _, h4, h5, h6⟩; have H6 := qaa h6; clear h4 h5 h6))
  go_ret2
  exact ya8 (Hb.out.trans (H6.out.below (fun k _ e => by omega) Hb.out.size))
end Go.Proofs.YtanjhbkbpalnaaaGreat
