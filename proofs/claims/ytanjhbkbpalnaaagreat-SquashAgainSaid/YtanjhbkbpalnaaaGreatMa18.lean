/-
 What the law of the last of these texts stands on, part 18.
-/
import Derived.Test.YtanjhbkbpalnaaaGreatMa13
set_option maxRecDepth 100000
set_option maxHeartbeats 8000000
open Go.Proofs.Tryz
namespace Go.Proofs.YtanjhbkbpalnaaaGreat
set_option linter.unusedSimpArgs false
set_option linter.unusedVariables false
open Go.ChangeShapes Go.WideShapes Go.ChangeAt Go.RowKit Go.Joins Go.Deep
theorem wcount_or {p q : Nat → Bool} : ∀ l : List Nat, (∀ k ∈ l, ¬ (p k = true ∧ q k = true)) → l.countP (fun k => p k || q k) = l.countP p + l.countP q
 | [], _ => rfl
 | a :: l, h => by
  have ih := wcount_or l fun k hk => h k (qa4 _ hk)
  have ha := h a (qa5 ..)
  rw [qbI, qbI, qbI, ih]
  cases h1 : p a <;> cases h2 : q a <;> simp_all <;> omega
theorem ygG (c : List Int) (f : Int → Bool) : (List.range c.length).countP (fun j => f (c.getD j 0)) = c.countP f := by
 have e : (List.range c.length).map (fun j => c.getD j 0) = c := by
  apply qaY
  ·simp
  ·intro i h1 h2
   simp [h2]
 have h := List.countP_map (p := f) (f := fun j => c.getD j 0) (l := List.range c.length)
 rw [e] at h
 exact h.symm
theorem wcount_take (c : List Int) (f : Int → Bool) (k : Nat) (hk : k ≤ c.length) : (List.range c.length).countP (fun j => f (c.getD j 0) && decide (j < k)) = (c.take k).countP f := by
 have e : List.range c.length = List.range k ++ (List.range (c.length - k)).map (k + ·) := by
  rw [← List.range_add]
  congr 1
  omega
 rw [e, qbD]
 have h2 : ((List.range (c.length - k)).map (k + ·)).countP (fun j => f (c.getD j 0) && decide (j < k)) = 0 := by
  rw [qcF]
  intro j hj
  obtain ⟨i, _, rfl⟩ := qb5.1 hj
  simp
 rw [h2, qbv]
 have h3 : (List.range k).countP (fun j => f (c.getD j 0) && decide (j < k)) = (List.range k).countP (fun j => f ((c.take k).getD j 0)) := by
  refine List.countP_congr fun j hj => ?_
  rw [qaS] at hj
  have : (c.take k).getD j 0 = c.getD j 0 := by
   rw [qaj, qaj, qc2, qag hj]
  rw [this, qbZ hj, Bool.and_true]
 have hl : (c.take k).length = k := by rw [qao]; omega
 rw [h3]
 have := ygG (c.take k) f
 rw [hl] at this
 exact this
theorem ycV (l : List UInt8) (f : Int → Bool) : (bbs l).countP f = l.countP fun b => f (b.toNat : Int) := by
 unfold bbs
 rw [List.countP_map]
 rfl
theorem bbs_take (l : List UInt8) (k : Nat) : (bbs l).take k = bbs (l.take k) := by simp [bbs]
def yaS (l : List UInt8) (b : Nat) : Nat := l.countP fun x => decide (x.toNat < b)
def ycb (l : List UInt8) (b i : Nat) : Nat := (l.take i).countP fun x => decide (x.toNat = b)
theorem brk_is (l : List UInt8) (r k i : Nat) (h : r ≤ l.length) (hk : k < l.length + 1) (hi : i < l.length) (hki : (k < r ∧ i = k) ∨ (r < k ∧ i + 1 = k)) : brk (bcol l r) k = yaS l l[i].toNat + ycb l l[i].toNat i + 1 := by
 have hc := ya3 l r h
 have hv : (bcol l r).getD k 0 = (l[i].toNat : Int) := by
  rcases hki with ⟨h1, rfl⟩ | ⟨h1, h2⟩
  ·rw [yge l r i h h1, qaj, qah hi]
   rfl
  ·rw [yeo l r k h h1 hk, qaj, show k - 1 = i from by omega, qah hi]
   rfl
 generalize hb : l[i].toNat = b at *
 have h1 : brk (bcol l r) k = (List.range (bcol l r).length).countP (fun j => decide ((bcol l r).getD j 0 < (b : Int)) || (decide ((bcol l r).getD j 0 = (b : Int)) && decide (j < k))) := by
  unfold brk klt
  rw [hv]
 rw [h1, wcount_or _ fun j _ hj => by
  have e1 := qbM hj.1
  have e2 := qbM (Bool.and_eq_true_iff.1 hj.2).1
  omega]
 rw [ygG (bcol l r) (fun x => decide (x < (b : Int))), wcount_take (bcol l r) (fun x => decide (x = (b : Int))) k (by omega)]
 have h2 : (bcol l r).countP (fun x => decide (x < (b : Int))) = yaS l b + 1 := by
  unfold bcol yaS
  rw [qbD, qbI, ycV, ycV, qag (by rw [qba]; omega)]
  have := qbD (p := fun x : UInt8 => decide ((x.toNat : Int) < (b : Int))) (l₁ := l.take r) (l₂ := l.drop r)
  rw [qax] at this
  have e : l.countP (fun x => decide ((x.toNat : Int) < (b : Int))) = l.countP (fun x => decide (x.toNat < b)) := List.countP_congr fun x _ => by rw [qba, qba]; omega
  omega
 have h3 : ((bcol l r).take k).countP (fun x => decide (x = (b : Int))) = ycb l b i := by
  have e : ∀ m : List UInt8, m.countP (fun x => decide ((x.toNat : Int) = (b : Int))) = m.countP (fun x => decide (x.toNat = b)) := fun m => List.countP_congr fun x _ => by rw [qba, qba]; omega
  unfold bcol ycb
  rcases hki with ⟨h4, rfl⟩ | ⟨h4, h5⟩
  ·rw [qbh (by rw [yc5, qao]; omega), bbs_take, ycV, e, List.take_take, qbf (by omega)]
  ·have h6 : (bbs (l.take r)).length = r := by rw [yc5, qao]; omega
   obtain ⟨m, hm⟩ : ∃ m, k - r = m + 1 := ⟨k - r - 1, by omega⟩
   rw [List.take_append, h6, hm, qar (by omega), qaM, qbD, qbI, qae (by rw [qba]; omega), bbs_take, ycV, ycV, e, e, qbv]
   have e2 : l.take i = l.take r ++ (l.drop r).take m := by
    rw [← qcH]
    congr 1
    omega
   rw [e2, qbD]
 omega
theorem yfD (n : Int) (w : World) (h : hasG n) : Calls prog 157 #[.int .i64 n] w fun e w' =>
  ∃ A c, e = .returned (.tuple #[.slice A (gam n.toNat).length c, .bool true]) ∧ w'.ownsRow w.heap.size 3 1 (.slice A (gam n.toNat).length c) (gam n.toNat).length (bcs (gam n.toNat)) ∧ Below w.heap.size w w' := by
 obtain ⟨i0, hi, hz0, hz1, hz2⟩ := qb1 yhn
 obtain ⟨h1, h2⟩ := h
 obtain ⟨N, rfl⟩ := qaF (by omega : 0 ≤ n)
 rw [qan]
 have HN : Hid (1 ≤ N ∧ N ≤ 4294967295) := qaa (by omega)
 go_enter func157, ntmps157
 go_wp2
 clear h1 h2
 go_loop [4, 5] (fun k m => ∃ j M : Nat, j ≤ 32 ∧ k = .int .i64 j ∧ m = .int .i64 M ∧ Hid (M = N / 2 ^ j ∧ 1 ≤ M)) (fun _ m => (intOf m).toNat)
 case atStart => exact ⟨0, N, by omega, rfl, rfl, qaa ⟨by simp, HN.out.1⟩⟩
 case round =>
  obtain ⟨j, M, hj, rfl, rfl, HM⟩ := hrel
  have hM32 : (M : Int) ≤ 4294967295 := by have := HM.out.1; have := HN.out.2; have : N / 2 ^ j ≤ N := Nat.div_le_self _ _; omega
  by_cases hlt : 1 < M
  ·have hMi : (1 : Int) < M := by omega
   have hj32 : j < 32 := by
    have h1 := HM.out.1
    rcases qbe j 32 with e | e
    ·exact e
    ·have h3 : N / 2 ^ j = 0 := Nat.div_eq_of_lt (by
      have h4 : 2 ^ 32 ≤ 2 ^ j := qa0 (by omega) e
      rw [show (2 : Nat) ^ 32 = 4294967296 from by decide] at h4
      have := HN.out.2
      omega)
     omega
   have hji : (j : Int) < 32 := by omega
   go_wp2
   go_round
   case rel => exact ⟨j + 1, M / 2, by omega, iv (by omega), iv (by omega), qaa ⟨by rw [HM.out.1, qaR, qbP], by omega⟩⟩
   case measure => simp only [intOf]; omega
  ·have hMi : ¬ (1 : Int) < M := by omega
   have hp : 0 < 2 ^ j := qaX (by omega)
   have hM1 : N / 2 ^ j = 1 := by have := HM.out; omega
   have hlo : 2 ^ j ≤ N := by
    have := Nat.div_mul_le_self N (2 ^ j)
    rw [hM1] at this
    omega
   have hhi : N < 2 ^ (j + 1) := by
    rw [qaR, qb6]
    have := Nat.lt_mul_of_div_lt (show N / 2 ^ j < 2 by omega) hp
    omega
   have hg := gam_is hlo hhi (by have := HN.out; omega)
   have hj31 : j ≤ 31 := by
    rcases qbe j 32 with e | e
    ·omega
    ·have h4 : 2 ^ 32 ≤ 2 ^ j := qa0 (by omega) e
     rw [show (2 : Nat) ^ 32 = 4294967296 from by decide] at h4
     have := HN.out.2
     omega
   have hji : (j : Int) ≤ 31 := by omega
   have hdg := fun W => ydx (N : Int) ((j + 1 : Nat) : Int) W ⟨by omega, by omega, by omega, by rw [qan]; exact_mod_cast hhi⟩
   have hmk := fun W => ye6 j (by omega) W
   have e1 : (j : Int) + 1 = ((j + 1 : Nat) : Int) := by omega
   have hD : (digI (N : Int) ((j + 1 : Nat) : Int)) = dig (j + 1) N := rfl
   have hDl : (digI (N : Int) ((j + 1 : Nat) : Int)).length = j + 1 := yad _ _
   rw [← hD] at hg
   rw [qan] at hdg
   have hgl : (gam N).length = j + (j + 1) := by rw [hg, qab, qav, hDl]
   have Hg := qaa hg
   have Hgl := qaa hgl
   have HDl := qaa hDl
   have Hdg := qaa hdg
   have E1 := qaa e1
   clear hg hgl hDl hdg hD hp hM1 hlo hhi e1
   generalize digI (N : Int) ((j + 1 : Nat) : Int) = D at *
   go_wp2_with (first
    | (go_at_call 156; rw [E1.out]; refine (Hdg.out _).mono ?_; rintro e w1 ⟨g, rfl, hB1, hg1, hb1⟩)
    | (at_builtin; refine yaf _ rfl _ _ 28 rfl w.heap.size 3 i0 (.int .i64 0) 1 8 underlying28 hi hz0 hz1 hz2 rfl (by decide) _ _ _ rfl (World.ownsRow_lit (base := w.heap.size) (e := 3) (size := 1) w1 (bcs (List.replicate j 0)).toArray j hb1.size (by unfold maxLen; omega) (by simp [bcs])) _ (j + 1) (j + 1) _ _ rfl (yeS _ (hB1.alloc _) (j + 1) (by rw [ydE]; exact HDl.out)) ?c1 ?c2 ?c3 ?c4 ?_))
   case c1 => exact yfl _
   case c2 => unfold maxLen; omega
   case c3 => omega
   case c4 => have := hb1.size; simp; omega
   intro v2 w2 hown2 hgrow hsep
   obtain ⟨A', c', rfl, hc', hr'⟩ := yae hown2
   have hb2 : Below w.heap.size w w2 := ((hb1.alloc hb1.size _)).grown hgrow (by have := hb1.size; simp; omega) (fun g hg => by injection hg with hg; simp only at hg; have := hb1.size; omega)
   have Hb2 := qaa hb2
   have Hr' := qaa hown2
   clear hb2 hr' hown2 hgrow hsep hB1 hb1
   go_wp2
   go_ret2
   refine ⟨A', c', by rw [Hgl.out]; rfl, ?_, Hb2.out⟩
   have h5 := Hr'.out
   rw [Hgl.out, Hg.out, ybG]
   exact h5
structure TRd (w wr : World) (s : List UInt8) (g M to ol : Nat) (out : List Int) (Av : Option Addr) (cv : Nat) : Prop where
 rd : RHold wr g s to
 nbx : Blk wr w.heap.size 3 #[.int .i64 (M : Int)]
 lbx : Blk wr (w.heap.size + 1) 28 #[.slice Av ol cv]
 row : wr.ownsRow (w.heap.size + 2) 3 1 (.slice Av ol cv) ol (ints out)
 tch : Touch w wr (fun k => k = g)
 glt : g < w.heap.size
section
variable {w wr w2 : World} {s : List UInt8} {g M to ol : Nat} {out : List Int} {Av : Option Addr} {cv : Nat}
theorem TRd.below (T : TRd w wr s g M to ol out Av cv) (hb : Below wr.heap.size wr w2) : TRd w w2 s g M to ol out Av cv :=
 ⟨Blk.below T.rd hb (Blk.lt T.rd), T.nbx.below hb T.nbx.lt, T.lbx.below hb T.lbx.lt, yah T.row hb (qad _), T.tch.trans (yal hb (qad _)), T.glt⟩
theorem TRd.go (T : TRd w wr s g M to ol out Av cv) {to2 : Nat} (h : RHold w2 g s to2) (ht : Touch wr w2 (fun k => k = g)) : TRd w w2 s g M to2 ol out Av cv :=
 ⟨h, T.nbx.touch ht (by have := T.glt; omega), T.lbx.touch ht (by have := T.glt; omega), yay T.row ht (fun k hk e => by have := (T.row.lt k hk).1; have := T.glt; omega), T.tch.trans ht, T.glt⟩
theorem TRd.drewN (T : TRd w wr s g M to ol out Av cv) (k : Nat) : TRd w (wr.drewN k) s g M to ol out Av cv := T.below (yaj (qak _ _) k)
theorem TRd.reads (T : TRd w wr s g M to ol out Av cv) : Reads wr wr.heap.size 1 Av ol (ints out) ∧ ol ≤ cv := by
 obtain ⟨A, c, e, h1, h2⟩ := yae T.row
 injection e with e1 _ e2
 subst e1 e2
 exact ⟨h2, h1⟩
theorem TRd.app (T : TRd w wr s g M to ol out Av cv) {A2 : Option Addr} {N c2 : Nat} {ys : List Int} (ho : w2.ownsRow (w.heap.size + 2) 3 1 (.slice A2 N c2) N (ints out ++ ints ys)) (hg : wr.grownBy w2 (Value.slice Av ol cv).ownBlock) :
  w2.cell? ⟨w.heap.size + 1, 0, none⟩ = some (.slice Av ol cv) ∧ w2.frozen? ⟨w.heap.size + 1, 0, none⟩ = false ∧ TRd w (w2.setCell ⟨w.heap.size + 1, 0, none⟩ (.slice A2 N c2)) s g M to N (out ++ ys) A2 c2 := by
 have hown : ∀ k, (Value.slice Av ol cv).ownBlock = some k → w.heap.size + 2 ≤ k := fun k hk => (T.row.lt k hk).1
 have hne : ∀ k, k < w.heap.size + 2 → (Value.slice Av ol cv).ownBlock ≠ some k := fun k hk e => by have := hown k e; omega
 have h1 := T.lbx.grow' hg (hne _ (by omega))
 have h2 := T.nbx.grow' hg (hne _ (by omega))
 have h3 := Blk.grow' T.rd hg (hne _ (by have := T.glt; omega))
 have ht := yaF hg
 refine ⟨h1.cell 0, h1.frozen 0, ?_, h2.far (by simp) _, ?_, ?_, ?_, T.glt⟩
 ·exact Blk.far h3 (by have := T.glt; show g ≠ w.heap.size + 1; omega) _
 ·exact h1.set_ 0 _
 ·have e : ints (out ++ ys) = ints out ++ ints ys := by simp [ints]
  rw [e]
  exact yay ho ((Touch.refl w2 (fun k => k = w.heap.size + 1)).set (p := ⟨w.heap.size + 1, 0, none⟩) (qay rfl) _) (fun k hk e => by have := (ho.lt k hk).1; omega)
 ·refine (T.tch.next ht (fun k hk e => ?_)).set (p := ⟨w.heap.size + 1, 0, none⟩) (qaI (by show w.heap.size ≤ w.heap.size + 1; omega)) _
  have := hown k e.symm
  omega
end
theorem blk_ints {w : World} {g n : Nat} {t : TypeId} {l : List Int} (h : Blk w g t (ints l).toArray) (hn : l.length = n) : Reads w w.heap.size 1 (some ⟨g, 0, none⟩) n (ints l) :=
 ⟨by rw [yab]; omega, fun _ => ⟨g, 0, rfl, h.lt, fun j u hu => by rw [qaz, h.cell]; simpa using hu⟩⟩
def trdL (Z : List Int × Nat × Int) : List Int := if Z.2.2 ≠ 0 then [] else Z.1
def trdE (Z : List Int × Nat × Int) : Int := if Z.2.2 ≠ 0 then Z.2.2 else yat Z.1
theorem trd_bad {Z : List Int × Nat × Int} {to : Nat} {e : Int} (h : ([], to, e) = Z) (he : e ≠ 0) : trdL Z = [] ∧ trdE Z = e := by
 subst h
 exact ⟨qag he, qag he⟩
theorem trd_good {Z : List Int × Nat × Int} {to : Nat} {out : List Int} (h : (out, to, 0) = Z) : trdL Z = out ∧ trdE Z = yat out ∧ Z.2.1 = to := by
 subst h
 exact ⟨qae (by simp), qae (by simp), rfl⟩
def yef (w w' : World) (s : List UInt8) (g : Nat) (e : Ending) (Z : List Int × Nat × Int) : Prop :=
 ∃ A c q, e = .returned (.tuple #[.slice A (trdL Z).length c, .int .i64 (trdE Z)]) ∧ (trdL Z).length ≤ c ∧ Reads w' w'.heap.size 1 A (trdL Z).length (ints (trdL Z)) ∧ RHold w' g s q ∧ Touch w w' (fun k => k = g) ∧ (Z.2.2 = 0 → q = Z.2.1) ∧ ∀ a : Addr, A = some a → w.heap.size ≤ a.block
theorem trd_end {w wr : World} {s : List UInt8} {g M to ol : Nat} {out : List Int} {Av : Option Addr} {cv : Nat} {Z : List Int × Nat × Int} {to2 : Nat} {e : Int} (T : TRd w wr s g M to ol out Av cv) (h : ([], to2, e) = Z) (he : e ≠ 0) :
  yef w wr s g (.returned (.tuple #[.slice none 0 0, .int .i64 e])) Z := by
 obtain ⟨h1, h2⟩ := trd_bad h he
 have h3 : Z.2.2 = e := by rw [← h]
 unfold yef
 rw [h1, h2]
 exact ⟨none, 0, to, rfl, qad _, Reads.none_, T.rd, T.tch, fun h => absurd (h3.symm.trans h) he, fun a h => by cases h⟩
theorem p_tread_any (s : List UInt8) (p g M : Nat) (w : World) (hM : M ≤ 257) (hs : s.length ≤ 100000000000) (hp : p ≤ 8 * s.length) (hR : RHold w g s p) (Z : List Int × Nat × Int) (hZ : ycn (yag s) M (M + 1) p (-1) [] = Z) :
  Calls prog 126 #[.pointer (some ⟨g, 0, none⟩), .int .i64 (M : Int)] w fun e w' => yef w w' s g e Z := by
 obtain ⟨i0, hi, hz0, hz1, hz9⟩ := qb1 tint_info2
 have hmf := tmkfunc
 have hMi : (0 : Int) ≤ (M : Int) ∧ (M : Int) ≤ 257 := by omega
 have hbin : Bin (yag s) := yc8 s
 have hrl : (yag s).length = 8 * s.length := yax s
 have hgl := Blk.lt hR
 have T0 : TRd w ((w.alloc (.cells #[.int .i64 (M : Int)] 3)).alloc (.cells #[.slice none 0 0] 28)) s g M p 0 [] none 0 := by
  have e1 : (w.alloc (.cells #[.int .i64 (M : Int)] 3)).heap.size = w.heap.size + 1 := qaw _ _
  refine ⟨(Blk.alloc (Blk.alloc hR _) _), (Blk.new w _ _).alloc _, ?_, qbn _ _ _ _, ((Touch.refl w _).alloc _).alloc _, hgl⟩
  rw [← e1]
  exact Blk.new _ _ _
 have HT0 := qaa T0
 have HZ0 := qaa hZ
 have Hbf := qaa fun to x e h => bget_facts hbin to x e h
 have Huf := qaa fun (to : Nat) c e k h => ungam_facts (R := (yag s).drop to) (fun d hd => hbin d (qbg hd)) c e k h
 have Hrl := qaa hrl
 have Hs := qaa hs
 have HL0 : Hid (([] : List Int).length = 0 ∧ M < 0 + (M + 1)) := qaa ⟨rfl, by omega⟩
 clear T0 hZ hbin hrl hs hR
 go_enter func126, ntmps126
 go_wp2
 go_loopw [8, 9, 10, 11] (fun xa xb xc xd wr => ∃ (fu to ol : Nat) (last : Int) (out : List Int) (Av : Option Addr) (cv : Nat), to ≤ 8 * s.length ∧ ol ≤ M ∧ Hid (out.length = ol ∧ M < ol + fu) ∧ Hid ((out = [] ∧ last = -1) ∨ out.getLast? = some last) ∧ Hid (ycn (yag s) M fu to last out = Z) ∧ Hid (TRd w wr s g M to ol out Av cv)) (fun xa xb xc xd wr => M - (match wr.cell? ⟨w.heap.size + 1, 0, none⟩ with | some (.slice _ m _) => m | _ => 0))
 case atStart => exact ⟨M + 1, p, 0, -1, [], none, 0, hp, by omega, HL0, qaa (qay ⟨rfl, rfl⟩), HZ0, HT0⟩
 case round =>
  obtain ⟨fu, to, ol, last, out, Av, cv, hto, hol, HL, Hlast, HZ, HT⟩ := hrel
  clear HT0 HZ0 HL0 hp
  have x1 : wr.cell? ⟨w.heap.size + 1, 0, none⟩ = some (.slice Av ol cv) := HT.out.lbx.cell 0
  have x2 : wr.cell? ⟨w.heap.size, 0, none⟩ = some (.int .i64 (M : Int)) := HT.out.nbx.cell 0
  rw [x1]
  by_cases hlt : ol < M
  ·have hoi : (ol : Int) < (M : Int) := by omega
   obtain ⟨f, hf⟩ : ∃ f, fu = f + 1 := ⟨fu - 1, by have := HL.out.2; omega⟩
   have hz := HZ.out
   rw [hf, yc2, qae (by have := HL.out.1; omega)] at hz
   have Hfu : Hid (M < ol + (f + 1)) := qaa (by have := HL.out.2; omega)
   clear hf
   obtain ⟨x, e, hxe⟩ : ∃ x e, ybq (yag s) to 4 = (x, e) := ⟨_, _, rfl⟩
   have hbf := Hbf.out to x e hxe
   rw [hxe] at hz
   dsimp only at hz
   rcases hbf with ⟨rfl, h4, hx0, hx1⟩ | ⟨rfl, rfl⟩
   ·rw [qae (by decide)] at hz
    rw [Hrl.out] at h4
    have hxv : ((num (((yag s).drop to).take 4) : Nat) : Int) = x := by
     have := qbC Prod.fst hxe
     unfold ybq at this
     rw [qae (by omega), qae (by rw [Hrl.out]; omega), qan] at this
     exact this
    have hget : Calls prog 128 #[.pointer (some ⟨g, 0, none⟩), .int .i64 4] wr fun e w' => e = .returned (.tuple #[.int .i64 ((num (((yag s).drop to).take 4) : Nat) : Int), .int .i64 0]) ∧ RHold w' g s (to + 4) ∧ Touch wr w' (fun k => k = g) := get_yes s to 4 g wr (by have := Hs.out; omega) h4 (by decide) HT.out.rd
    rw [hxv] at hget
    have Hget := qaa hget
    obtain ⟨c, k, fe, hke⟩ : ∃ c k fe, ybr ((yag s).drop (to + 4)) = (c, k, fe) := ⟨_, _, _, rfl⟩
    have huf := Huf.out (to + 4) c fe k hke
    rw [hke] at hz
    dsimp only at hz
    clear hget hxv hxe
    by_cases hfe : fe = 0
    ·subst hfe
     rcases huf with ⟨_, hk1, hk2, hsl⟩ | h
     ·rw [qas, Hrl.out] at hsl
      rw [qae (by decide)] at hz
      obtain ⟨d, rfl⟩ := qaF (by omega : 0 ≤ c)
      have hto2 : to + 4 + k ≤ 8 * s.length := by omega
      have Hgam := qaa fun W hR => rgamma_yes s (to + 4) g d W (by have := Hs.out; omega) h4 hR k hke
      have hchk := fun W c1 c2 hr => tcheck1_any (w.heap.size + 1) w.heap.size M ol cv Av out x (d : Int) last W HL.out.1 hol hM Hlast.out hx0 c1 c2 hr
      rw [HL.out.1] at hz
      clear hke hsl
      by_cases hxl : x = last
      ·rw [qag hxl] at hz
       rw [qag hxl] at hchk
       have Hchk := qaa hchk
       have Hend := qaa fun (W : World) (h : TRd w W s g M (to + 4 + k) ol out Av cv) => trd_end h hz (by decide)
       clear hz hchk hxl
       go_wp2_with (first
        | (go_at_call 128; refine Hget.out.mono ?_; rintro e w2 ⟨rfl, hR2, ht2⟩; have HT2 := qaa (HT.out.go hR2 ht2); clear hR2 ht2)
        | (go_at_call 168; refine (Hgam.out _ HT2.out.rd).mono ?_; rintro e w3 ⟨rfl, hR3, ht3⟩; have HT3 := qaa (HT2.out.go hR3 ht3); clear hR3 ht3)
        | (go_at_call 167; refine (Hchk.out _ (HT3.out.lbx.cell 0) (HT3.out.nbx.cell 0) HT3.out.reads.1).mono ?_; rintro e w4 ⟨rfl, rfl⟩))
       go_ret2
       exact Hend.out _ HT3.out
      ·rw [qae hxl] at hz
       rw [qae hxl] at hchk
       by_cases hkb : (M : Int) - ol < (d : Int)
       ·rw [qag hkb] at hz
        rw [qag hkb] at hchk
        have Hchk := qaa hchk
        have Hend := qaa fun (W : World) (h : TRd w W s g M (to + 4 + k) ol out Av cv) => trd_end h hz (by decide)
        clear hz hchk hxl hkb
        go_wp2_with (first
         | (go_at_call 128; refine Hget.out.mono ?_; rintro e w2 ⟨rfl, hR2, ht2⟩; have HT2 := qaa (HT.out.go hR2 ht2); clear hR2 ht2)
         | (go_at_call 168; refine (Hgam.out _ HT2.out.rd).mono ?_; rintro e w3 ⟨rfl, hR3, ht3⟩; have HT3 := qaa (HT2.out.go hR3 ht3); clear hR3 ht3)
         | (go_at_call 167; refine (Hchk.out _ (HT3.out.lbx.cell 0) (HT3.out.nbx.cell 0) HT3.out.reads.1).mono ?_; rintro e w4 ⟨rfl, rfl⟩))
        go_ret2
        exact Hend.out _ HT3.out
       ·rw [qae hkb] at hz
        rw [qae hkb] at hchk
        rw [qan] at hz
        have Hchk := qaa hchk
        have Hz := qaa hz
        have hdm : ol + d ≤ M ∧ 1 ≤ d ∧ d ≤ 257 := by omega
        clear hz hchk hxl hkb hk1 hk2
        go_wp2_with (first
         | (go_at_call 128; refine Hget.out.mono ?_; rintro e w2 ⟨rfl, hR2, ht2⟩; have HT2 := qaa (HT.out.go hR2 ht2); clear hR2 ht2)
         | (go_at_call 168; refine (Hgam.out _ HT2.out.rd).mono ?_; rintro e w3 ⟨rfl, hR3, ht3⟩; have HT3 := qaa (HT2.out.go hR3 ht3); clear hR3 ht3)
         | (go_at_call 167; refine (Hchk.out _ (HT3.out.lbx.cell 0) (HT3.out.nbx.cell 0) HT3.out.reads.1).mono ?_; rintro e w4 ⟨rfl, rfl⟩))
        have hsz : w.heap.size ≤ w4.heap.size := HT3.out.tch.size
        have hlbs : w.heap.size + 1 < w4.heap.size := HT3.out.lbx.lt
        have y1 : w4.cell? ⟨w.heap.size + 1, 0, none⟩ = some (.slice Av ol cv) := HT3.out.lbx.cell 0
        have Hrep := qaa (trepeat_any x (some ⟨w4.heap.size, 0, none⟩) 1 d (w4.drew.alloc (.cells #[.int .i64 x] 3)) (by omega) (by omega) (by
         have := ya0 w4.drew 3 #[.int .i64 x] 1 1 rfl
         exact this.more (by simp)))
        have Hpre : Hid (Below w4.heap.size w4 (w4.drew.alloc (.cells #[.int .i64 x] 3))) := qaa ((qak w4.heap.size w4).drew.alloc (qad _) _)
        have Hone : Hid (∀ u ∈ ints (List.replicate d x), u.oneCell' = true) := qaa (yhb _)
        clear x1 x2
        go_region_law (first
         | (go_simp; go_at_call 169; refine Hrep.out.mono ?_; rintro e w6 ⟨g4, rfl, hg4, hB4, hb4⟩; have Hb4 := qaa (Hpre.out.trans (hb4.mono Hpre.out.size)); have HT4 := qaa (HT3.out.below Hb4.out); have HB4 := qaa hB4; have y4 : w6.cell? ⟨w.heap.size + 1, 0, none⟩ = some (.slice Av ol cv) := HT4.out.lbx.cell 0; clear hB4 hb4 hg4)
         | (refine yac (by rfl) (.tmp 40) (.tmp 44) 28 (by rfl) (w.heap.size + 2) 3 i0 _ 1 8 underlying28 hi hz0 hz1 hz9 rfl (by decide) (.slice Av ol cv) ol (ints out) (by rfl) HT4.out.row (some ⟨g4, 0, none⟩) d d _ (ints (List.replicate d x)) (by rfl) (blk_ints HB4.out (by simp)) Hone.out (by unfold maxLen; omega) (by omega) (HT4.out.lbx.lt) (ol + d) rfl ?_; intro A5 c5 w7 ho5 hg5 hs5; obtain ⟨z1, z2, hT5⟩ := HT4.out.app ho5 hg5; have HT5 := qaa hT5; clear hT5 ho5 hg5 hs5))
        all_goals (
         go_wp2
         have HT8 := qaa HT5.out
         have x8 := HT8.out.lbx.cell 0
         clear Hlast
         go_roundw
         case rel => exact ⟨f, to + 4 + k, ol + d, x, out ++ List.replicate d x, A5, c5, hto2, hdm.1, qaa ⟨by rw [qab, qav, HL.out.1], by have := Hfu.out; omega⟩, qaa (qaI (by rw [show d = d - 1 + 1 from by omega, qcf, ← qam, List.getLast?_append]; simp)), qaa Hz.out, HT8⟩
         case measure =>
          rw [x8]
          show M - (ol + d) < M - ol
          omega)
     ·exact absurd h (by decide)
    ·rw [qag hfe] at hz
     have Hgam := qaa fun W hR => rgamma_no s (to + 4) g fe W (by have := Hs.out; omega) h4 hR (by rw [hke]) hfe
     have Hend := qaa fun (W : World) (h : TRd w W s g M (to + 4) ol out Av cv) => trd_end h hz hfe
     have hb1 : (fe == 0) = false := by simpa using hfe
     have hb2 : (fe != 0) = true := by simpa using hfe
     clear hz hke huf
     go_wp2_with (first
      | (go_at_call 128; refine Hget.out.mono ?_; rintro e w2 ⟨rfl, hR2, ht2⟩; have HT2 := qaa (HT.out.go hR2 ht2); clear hR2 ht2)
      | (go_at_call 168; refine (Hgam.out _ HT2.out.rd).mono ?_; rintro e w3 ⟨rfl, kd, rfl⟩))
     go_ret2
     exact Hend.out _ (HT2.out.drewN kd)
   ·rw [qag (by decide)] at hz
    have Hget := qaa (get_no s to g 4 4 wr (by have := Hs.out; omega) hto HT.out.rd (by rw [hxe]) (by decide))
    have Hend := qaa fun k => trd_end (HT.out.drewN k) hz (by decide)
    clear hz hxe
    go_wp2_with (go_at_call 128; refine Hget.out.mono ?_; rintro e w2 ⟨rfl, kd, rfl⟩)
    go_ret2
    exact Hend.out _
  ·have hoi : ¬ (ol : Int) < (M : Int) := by omega
   obtain ⟨f, hf⟩ : ∃ f, fu = f + 1 ∨ fu = 0 := ⟨fu - 1, by omega⟩
   have hz : (out, to, (0 : Int)) = Z := by
    have h := HZ.out
    rcases hf with hf | hf
    ·rw [hf, yc2, qag (by have := HL.out.1; omega)] at h
     exact h
    ·rw [hf] at h
     exact h
   obtain ⟨g1, g2, g3⟩ := trd_good hz
   have G1 := qaa g1
   have G2 := qaa g2
   have G3 := qaa g3
   have Hck := qaa fun (W : World) (T : TRd w W s g M to ol out Av cv) => ydZ out Av ol cv W (by omega) T.reads.1
   rw [yfb] at Hck
   have hfin : Hid (∀ W, TRd w W s g M to ol out Av cv → yef w W s g (.returned (.tuple #[.slice Av ol cv, .int .i64 (yat out)])) Z) := qaa fun W T => by
    unfold yef
    rw [G1.out, G2.out, HL.out.1]
    exact ⟨Av, cv, to, rfl, T.reads.2, T.reads.1, T.rd, T.tch, fun _ => G3.out.symm, fun a h => by have := (T.row.lt a.block (by rw [h]; rfl)).1; omega⟩
   have H0 : Hid (wr.drew.cell? ⟨w.heap.size + 1, 0, none⟩ = some (.slice Av ol cv) ∧ TRd w wr.drew s g M to ol out Av cv) := qaa ⟨x1, HT.out.drewN 1⟩
   clear hf hz g1 g2 g3
   generalize yat out = E at *
   go_wp2
   go_region_held3 (fun w' => w'.cell? ⟨w.heap.size + 1, 0, none⟩ = some (.slice Av ol cv) ∧ TRd w w' s g M to ol out Av cv)
    (first | exact ⟨((show _ ∧ TRd w _ s g M to ol out Av cv by assumption).2.below hb1).lbx.cell 0, (show _ ∧ TRd w _ s g M to ol out Av cv by assumption).2.below hb1⟩ | exact H0.out)
    (first | (go_at_call 104; refine (Hck.out _ (show _ ∧ TRd w _ s g M to ol out Av cv by assumption).2).mono ?_; rintro e w' ⟨rfl, hb1⟩))
   go_wp2
   go_ret2
   exact hfin.out _ (show _ ∧ TRd w _ s g M to ol out Av cv by assumption).2
end Go.Proofs.YtanjhbkbpalnaaaGreat
