/-
 What the law of the last of these texts stands on, part 23.
-/
import Derived.Test.YtanjhbkbpalnaaaGreatMc10
import Derived.RangeFuncBox
import Derived.RangeFuncLeaves
import Derived.RangeFuncNested
import Derived.Shelf.Abstract
import Derived.OwnWalkIn
import Derived.TacticsInMore
import Derived.LoopNIn
import Derived.LoopIn
set_option maxRecDepth 100000
set_option maxHeartbeats 8000000
open Go.Proofs.Tryz
namespace Go.Proofs.YtanjhbkbpalnaaaGreat
set_option linter.unusedSimpArgs false
set_option linter.unusedVariables false
open Go.ChangeShapes Go.WideShapes Go.ChangeAt Go.RowKit Go.Joins Go.Deep Go.Shelf
attribute [local go_sem] Oper.semAt_some
abbrev ZBit := { x : Int // 0 ≤ x ∧ x ≤ 1 }
def ydI {α : Type} (f : Nat → α) (k : Nat) : List α := (List.range k).map f
theorem zupto_succ {α : Type} (f : Nat → α) (k : Nat) : ydI f (k + 1) = ydI f k ++ [f k] := by simp [ydI, List.range_succ]
theorem zupto_length {α : Type} (f : Nat → α) (k : Nat) : (ydI f k).length = k := by simp [ydI]
def zstep (a : Int) (x : Nat × ZBit) : Int := if 2 * a + x.2.1 + 1 < 100001 then 2 * a + x.2.1 + 1 else 100001
def znum (pre : List (Nat × ZBit)) : Int := pre.foldl zstep 0
theorem znum_snoc (pre : List (Nat × ZBit)) (x : Nat × ZBit) : znum (pre ++ [x]) = zstep (znum pre) x := by simp [znum]
theorem zstep_bound (a : Int) (x : Nat × ZBit) (h : 0 ≤ a) : 0 ≤ zstep a x ∧ zstep a x ≤ 100001 := by
 have := x.2.2
 unfold zstep
 split <;> omega
theorem znum_bound (pre : List (Nat × ZBit)) : 0 ≤ znum pre ∧ znum pre ≤ 100001 := by
 unfold znum
 have : ∀ (pre : List (Nat × ZBit)) (a : Int), 0 ≤ a ∧ a ≤ 100001 → 0 ≤ pre.foldl zstep a ∧ pre.foldl zstep a ≤ 100001 := by
  intro pre
  induction pre with
  | nil => intro a h; exact h
  | cons x t ih => intro a h; exact ih _ (zstep_bound a x h.1)
 exact this pre 0 (by omega)
def ybb (l : List ZBit) (k : Nat) : Nat × ZBit := (l.length - 1 - k, l[l.length - 1 - k]?.getD ⟨0, by omega⟩)
theorem znum_upto (l : List ZBit) : ∀ k, k ≤ l.length → znum (ydI (ybb l) k) = (min (zv ((l.drop (l.length - k)).map (·.1))) 100001 : Nat)
 | 0, _ => by simp [ydI, znum, zv]
 | k + 1, h => by
  have ih := znum_upto l k (by omega)
  have hi : l.length - 1 - k < l.length := by omega
  rw [zupto_succ, znum_snoc, ih]
  have e : l.drop (l.length - (k + 1)) = l[l.length - 1 - k] :: l.drop (l.length - k) := by
   rw [show l.length - (k + 1) = l.length - 1 - k from by omega, qa6 hi]
   congr 2
   omega
  rw [e, qcr, show ∀ (s : Int) (t : List Int), zv (s :: t) = s.toNat + 1 + 2 * zv t from fun _ _ => rfl]
  unfold zstep ybb
  rw [qaj hi]
  simp only [qbW]
  have hb := l[l.length - 1 - k].2
  generalize l[l.length - 1 - k].1 = s at *
  generalize zv ((l.drop (l.length - k)).map (·.1)) = v
  split <;> omega
section
variable {F : Fence} {n : Nat}
def ZKp (nb N0 : Nat) (W W' : World) : Prop := Touch W W' (fun k => k = nb ∨ N0 ≤ k)
theorem zkp_b {nb N0 : Nat} {w : World} (hn : N0 ≤ w.heap.size) (W : World) (l : Nat) (o o' : Obj) (hl : w.heap.size ≤ l) (h : W.heap[l]? = some o) (_ : o.isCells = false) (_ : o.isWalk = false) : ZKp nb N0 W (W.putObj l o') :=
 (yaT (grownBy_putObj' W l o')).mono fun k _ e => by injection e with e; subst e; exact qaK (by omega)
theorem zback1_in (h : F.fn 196) (hro : F.round = none) (hn : 1 ≤ n) (l Bs nb N0 b off cap : Nat) (zs : List ZBit) (hlen : 0 < zs.length) (hreach : zs.length ≤ 4611686018427387904) (J Jx : List (Nat × ZBit) → World → Prop)
  (hY : ∀ pre x W, J pre W → pre.length < zs.length → YieldAt F (n - 1) prog l #[.int .i64 (x.1 : Int), .int .i64 x.2.1] W fun e W' =>
   (e = .returned (.bool true) ∧ J (pre ++ [x]) W' ∧ ZKp nb N0 W W') ∨ (e = .returned (.bool false) ∧ Jx (pre ++ [x]) W'))
  (W : World) (hN : N0 ≤ W.heap.size) (hB1 : Bs < N0) (hB2 : Bs ≠ nb) (hb1 : b < N0) (hb2 : b ≠ nb)
  (hBs : W.cell? ⟨Bs, 0, none⟩ = some (.slice (some ⟨b, off, none⟩) zs.length cap)) (hc : ∀ j (hj : j < zs.length), W.cell? ⟨b, off + j, none⟩ = some (.int .i64 zs[j].1)) (h0 : J [] W) :
  CallsIn F n prog 196 #[.func (.yield l) #[] #[], .pointer (some ⟨Bs, 0, none⟩)] W fun e W' => (∃ v, e = .returned v) ∧
   ((∃ ys, ys = ydI (ybb zs) zs.length ∧ J ys W') ∨ (∃ pre, (∃ k, k ≤ zs.length ∧ pre = ydI (ybb zs) k) ∧ Jx pre W')) := by
 refine callsIn_of_wp func196 rfl h ?_ hro
 simp only [ntmps196, qaA, qau, List.length_nil, Nat.reduceAdd, Nat.reduceSub, Array.replicate_succ, Array.replicate_zero, List.push_toArray, List.append_toArray, qaS, qbl]
 have hl0 : IntKind.i64.wrap ((zs.length : Int) - 1) = (zs.length : Int) - 1 := by rw [qai]; omega
 gi_wp2
 gi_loopw [3] (fun i wr => ∃ q : Nat, q ≤ zs.length ∧ i = .int .i64 ((q : Int) - 1) ∧ J (ydI (ybb zs) (zs.length - q)) wr ∧ ZKp nb N0 W wr)
  (fun i _ => (intOf i + 1).toNat)
 case atStart => exact ⟨zs.length, qaf _, rfl, by rw [qcc]; exact h0, Touch.refl _ _⟩
 case round =>
  obtain ⟨q, hq, rfl, hJs, hnx⟩ := hrel
  have hcB : wr.cell? ⟨Bs, 0, none⟩ = some (.slice (some ⟨b, off, none⟩) zs.length cap) := (qcb (hnx.block Bs (by omega) (by omega))).trans hBs
  cases q with
  | zero =>
   rw [show ((0 : Nat) : Int) - 1 = -1 from rfl]
   gi_wp2
   go_end0
   exact ⟨⟨_, rfl⟩, .inl ⟨_, rfl, hJs⟩⟩
  | succ p =>
   have hpl : p < zs.length := by omega
   have hcx : wr.cell? ⟨b, off + p, none⟩ = some (.int .i64 zs[p].1) := (qcb (a := ⟨b, off + p, none⟩) (hnx.block b (by omega) (by omega))).trans (hc p hpl)
   have hat : ybb zs (zs.length - (p + 1)) = (p, zs[p]) := by
    unfold ybb
    rw [show zs.length - 1 - (zs.length - (p + 1)) = p from by omega, qaj hpl]
    rfl
   obtain ⟨fn, tmps, assign, body, hy, hR⟩ := hY _ (p, zs[p]) wr hJs (by rw [zupto_length]; omega)
   dsimp only at hy
   have hup : ydI (ybb zs) (zs.length - (p + 1)) ++ [(p, zs[p])] = ydI (ybb zs) (zs.length - p) := by
    rw [show zs.length - p = (zs.length - (p + 1)) + 1 from by omega, zupto_succ, hat]
   rw [hup] at hR
   rw [show ((p + 1 : Nat) : Int) - 1 = (p : Int) from by omega]
   have hpi : (0 : Int) ≤ (p : Int) ∧ (p : Int) < zs.length := by omega
   have hw1 : IntKind.i64.wrap ((p : Int) - 1) = (p : Int) - 1 := by rw [qai]; omega
   gi_wp2
   refine hR.mono ?_
   rintro e W3 (⟨rfl, hJ3, hk3⟩ | ⟨rfl, hJx3⟩)
   ·gi_wp2
    go_roundw
    case rel => exact ⟨p, by omega, rfl, hJ3, hnx.trans hk3⟩
    case measure => simp only [intOf]; omega
   ·gi_wp2
    refine qaN (results_none rfl _ _ _) rfl ?_
    exact ⟨⟨_, rfl⟩, .inr ⟨_, ⟨zs.length - p, by omega, rfl⟩, hJx3⟩⟩
theorem zback0_in (h : F.fn 196) (hro : F.round = none) (l Bs cap : Nat) (A : Option Addr) (J : List (Nat × ZBit) → World → Prop) (W : World) (hBs : W.cell? ⟨Bs, 0, none⟩ = some (.slice A 0 cap)) (h0 : J [] W) :
  CallsIn F n prog 196 #[.func (.yield l) #[] #[], .pointer (some ⟨Bs, 0, none⟩)] W fun e W' => (∃ v, e = .returned v) ∧ J [] W' := by
 refine callsIn_of_wp func196 rfl h ?_ hro
 simp only [ntmps196, qaA, qau, List.length_nil, Nat.reduceAdd, Nat.reduceSub, Array.replicate_succ, Array.replicate_zero, List.push_toArray, List.append_toArray, qaS, qbl]
 gi_wp2
 gi_loopw [3] (fun i wr => i = .int .i64 (-1) ∧ J [] wr) (fun _ _ => 0)
 case atStart => exact ⟨rfl, h0⟩
 case round =>
  obtain ⟨rfl, hJs⟩ := hrel
  gi_wp2
  go_end0
  exact ⟨⟨_, rfl⟩, hJs⟩
theorem zbackward_in (h : F.fn 175) (hro : F.round = none) (a : Option Addr) (len cap : Nat) (w : World) :
  CallsIn F n prog 175 #[.slice a len cap] w fun e w' => e = .returned (.func (.func 196) #[] #[.pointer (some ⟨w.heap.size, 0, none⟩)]) ∧ w' = w.alloc (.cells #[.slice a len cap] 28) := by
 refine callsIn_of_wp func175 rfl h ?_ hro
 simp only [ntmps175, qaA, qau, List.length_nil, Nat.reduceAdd, Nat.reduceSub, Array.replicate_succ, Array.replicate_zero, List.push_toArray, List.append_toArray, qaS, qbl]
 gi_wp2
 go_ret
 exact ⟨rfl, rfl⟩
theorem zback_stops (h : F.fn 196) (hro : F.round = none) (hn : 1 ≤ n) (Bs nb N0 cap : Nat) (A : Option Addr) (zs : List ZBit) (hreach : zs.length ≤ 4611686018427387904) (w : World)
  (hN : N0 ≤ w.heap.size) (hB1 : Bs < N0) (hB2 : Bs ≠ nb) (hc : w.cell? ⟨Bs, 0, none⟩ = some (.slice A zs.length cap))
  (hI : 0 < zs.length → ∃ b off, A = some ⟨b, off, none⟩ ∧ b < N0 ∧ b ≠ nb ∧ ∀ j (hj : j < zs.length), w.cell? ⟨b, off + j, none⟩ = some (.int .i64 zs[j].1)) :
  SeqStopsK F n prog 196 #[.pointer (some ⟨Bs, 0, none⟩)] (fun x : Nat × ZBit => #[Value.int .i64 (x.1 : Int), Value.int .i64 x.2.1]) (ZKp nb N0) (fun ys => ys = ydI (ybb zs) zs.length)
   (fun pre => ∃ k, k ≤ zs.length ∧ pre = ydI (ybb zs) k) zs.length w := fun l J Jx W hW _ _ hY h0 => by
 have hc' := (hW.cell (p := ⟨Bs, 0, none⟩) (by simp; omega)).trans hc
 have hsz := hW.size
 rcases qba zs.length with hz | hz
 ·rw [hz] at hc'
  refine (zback0_in h hro l Bs cap A J W hc' h0).mono fun e W' ⟨he, hj⟩ => ⟨he, .inl ⟨_, rfl, ?_⟩⟩
  rw [hz]
  exact hj
 ·obtain ⟨b, off, rfl, h1, h2, h3⟩ := hI hz
  exact zback1_in h hro hn l Bs nb N0 b off cap zs hz hreach J Jx hY W (by omega) hB1 hB2 h1 h2 hc' (fun j hj => (hW.cell (p := ⟨b, off + j, none⟩) (by simp; omega)).trans (h3 j hj)) h0
theorem znumber_in (h0 : F.fn 134) (h1 : F.fn 175) (h2 : F.fn 196) (hro : F.round = none) (hn : 3 ≤ n) (A : Option Addr) (len cap : Nat) (zs : List ZBit) (hlen : zs.length = len) (hreach : len ≤ 4611686018427387904) (w : World)
  (hI : 0 < zs.length → ∃ b off, A = some ⟨b, off, none⟩ ∧ b < w.heap.size ∧ ∀ j (hj : j < zs.length), w.cell? ⟨b, off + j, none⟩ = some (.int .i64 zs[j].1)) :
  CallsIn F n prog 134 #[.slice A len cap] w fun e W' => e = .returned (.int .i64 (znum (ydI (ybb zs) zs.length))) ∧ Below w.heap.size w W' := by
 subst hlen
 have hn1 : 1 ≤ n := by omega
 refine callsIn_of_wp_marks func134 rfl h0 ?_ hro
 simp only [ntmps134, qaA, qau, List.length_nil, Nat.reduceAdd, Nat.reduceSub, Array.replicate_succ, Array.replicate_zero, List.push_toArray, List.append_toArray, qaS, qbl]
 gi_wp2_with (gi_at_call 175; refine (zbackward_in (n := n - 1) h1 hro _ _ _ _).mono ?_; rintro e w' ⟨rfl, rfl⟩)
 have bS := Boxed.new w 3 (.int .i64 0)
 have bN := Boxed.new (w.alloc (.cells #[.int .i64 0] 3)) 28 (.slice A zs.length cap)
 rw [qay] at bN
 have hB0 : Below w.heap.size w ((w.alloc (.cells #[.int .i64 0] 3)).alloc (.cells #[.slice A zs.length cap] 28)) := ((qam _ w).alloc (qaf _) _).alloc (by simp) _
 have hI2 : 0 < zs.length → ∃ b off, A = some ⟨b, off, none⟩ ∧ b < w.heap.size + 2 ∧ b ≠ w.heap.size ∧ ∀ j (hj : j < zs.length), ((w.alloc (.cells #[.int .i64 0] 3)).alloc (.cells #[.slice A zs.length cap] 28)).cell? ⟨b, off + j, none⟩ = some (.int .i64 zs[j].1) := fun h => by
  obtain ⟨b, off, e, h3, h4⟩ := hI h
  exact ⟨b, off, e, by omega, by omega, fun j hj => (hB0.cell (p := ⟨b, off + j, none⟩) h3).trans (h4 j hj)⟩
 refine wpIn_rangeFunc_ownG hro hn1 (gf := 196) (lb := #[.pointer (some ⟨w.heap.size + 1, 0, none⟩)]) rfl h2 (enters_of func196 (by kernel_rfl) rfl)
  (zback_stops (n := n - 1) h2 hro (by omega) (w.heap.size + 1) w.heap.size (w.heap.size + 2) cap A zs hreach _ (by simp) (by omega) (by omega) bN.cell hI2) (fun h k => h.trans k) (zkp_b (by simp)) (qam _ _) (fun _ => rfl)
  (fun pre W => (W.cell? ⟨w.heap.size, 0, none⟩ = some (.int .i64 (znum pre)) ∧ W.frozen? ⟨w.heap.size, 0, none⟩ = false) ∧ Below w.heap.size w W)
  (fun _ _ _ => False)
  (OwnFrom.and (Own.from (fun s A B row hs hg hr => ⟨cell_kept hs.1 hg hr, (frozen_kept hs.1 hg hr).trans hs.2⟩) _) (ownFrom_below (qaf _) (by simp; omega)))
  (fun _ _ _ _ _ hs _ _ => hs)
  ⟨⟨(bS.alloc _).cell, (bS.alloc _).frozen⟩, hB0⟩
  (fun x => { tmps := #[.slice A zs.length cap, undef, .int .i64 0, .pointer (some ⟨w.heap.size, 0, none⟩), undef, .int .i64 x.2.1, .slice A zs.length cap, .func (.func 196) #[] #[.pointer (some ⟨w.heap.size + 1, 0, none⟩)], .int .i64 (x.1 : Int), .int .i64 x.2.1, undef, undef, undef, undef, undef, undef, undef], defers := [] }) ?assign ?body ?done ?stop
 case assign =>
  intro l x W K hK
  gi_wp2
  exact hK
 case body =>
  rintro l pre x W ⟨⟨hc, hf⟩, hB⟩ _
  have hx := x.2.2
  have hz := znum_bound pre
  have HZ := qaa (znum_snoc pre x)
  unfold zstep at HZ
  generalize x.2.1 = s at *
  generalize znum pre = a at *
  have hsz := hB.size
  gi_wp2
  all_goals
   refine ⟨(KeepsOthers.setCell _ _ _).from _, (Touch.refl _ _).set (p := ⟨w.heap.size, 0, none⟩) (qas (qas rfl)) _, ⟨?_, by rw [World.frozen?_setCell]; exact hf⟩, hB.setCell (p := ⟨w.heap.size, 0, none⟩) (qaf _) _⟩
   refine (World.cell?_setCell_same' _ _ _ (by rw [hc]; rfl)).trans (qbD some (iv ?_))
   rw [HZ.out]
   split <;> omega
 case done =>
  rintro D ys W hD rfl ⟨⟨hc, _⟩, hB⟩ hK
  gi_wp2
  refine ⟨by simp, .inl ⟨_, _, rfl, run_takeDeferred hK, ?_⟩⟩
  exact ⟨_, results_tmp rfl _ _ _, rfl, hB.trans (belowK_b (w := w) (qaf _) W D _ _ (by simp at hD; omega) hK rfl rfl)⟩
 case stop =>
  rintro D c pre W _ _ h _
  exact h.elim
end
def zbit (x : Int) : ZBit := if h : 0 ≤ x ∧ x ≤ 1 then ⟨x, h⟩ else ⟨0, by omega⟩
theorem zbit_val (x : Int) (h : 0 ≤ x ∧ x ≤ 1) : (zbit x).1 = x := by unfold zbit; rw [dif_pos h]
def zval (l : List Int) : Nat := min (zv l) 100001
theorem yen (l : List Int) (hg : ya5 1 l = true) (A : Option Addr) (n c : Nat) (w : World) (hm : n ≤ 4611686018427387904) (hr : Reads w w.heap.size 1 A n (ints l)) :
  Calls prog 134 #[.slice A n c] w fun e w' => e = .returned (.int .i64 (zval l : Int)) ∧ Below w.heap.size w w' := by
 have en : l.length = n := by have := hr.1; rw [yac] at this; omega
 have hmap : (l.map zbit).map (·.1) = l := by
  rw [List.map_map]
  apply qbg
  ·simp
  ·intro i h1 h2
   simp only [qaY, Function.comp]
   exact zbit_val _ (ybm hg i h2)
 have hI : 0 < (l.map zbit).length → ∃ b off, A = some ⟨b, off, none⟩ ∧ b < w.heap.size ∧ ∀ j (hj : j < (l.map zbit).length), w.cell? ⟨b, off + j, none⟩ = some (.int .i64 (l.map zbit)[j].1) := fun h => by
  rw [qaM, en] at h
  obtain ⟨b, off, e, hb, hc⟩ := hr.2 h
  refine ⟨b, off, e, hb, fun j hj => ?_⟩
  have hj2 : j < l.length := by simpa using hj
  rw [qaY, zbit_val _ (ybm hg j hj2)]
  exact hc j _ (yao l j hj2)
 refine callsIn_wide.1 ((znumber_in (F := Fence.wide) (n := 3) trivial trivial trivial rfl (by omega) A n c (l.map zbit) (by simpa using en) hm w hI).mono ?_)
 rintro e W' ⟨rfl, hb⟩
 refine ⟨?_, hb⟩
 rw [znum_upto _ _ (qaf _), qcc, qb9, hmap]
 rfl
end Go.Proofs.YtanjhbkbpalnaaaGreat
