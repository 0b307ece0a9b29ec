/-
 What the law of the last of these texts stands on, part 19.
-/
import Derived.Test.YtanjhbkbpalnaaaGreatMc09
set_option maxRecDepth 100000
set_option maxHeartbeats 8000000
open Go.Proofs.Tryz
namespace Go.Proofs.YtanjhbkbpalnaaaGreat
set_option linter.unusedSimpArgs false
set_option linter.unusedVariables false
open Go.ChangeShapes Go.WideShapes Go.ChangeAt Go.RowKit Go.Joins Go.Deep Go.Shelf
theorem gmk_room (z : Int) (N : Nat) (hN : (N : Int) = z) (h : N ≤ 17592186044416) (w : World) :
  (Instr.makeSlice 28 (.int .i64 0) (.int .i64 z)).run prog w = .ok (.slice (some ⟨w.heap.size, 0, none⟩) 0 N) (w.alloc (.cells (madeCells #[.int .i64 0] N) 3)) := by
 subst hN
 obtain ⟨i0, hi, hz0, hz1, hz9⟩ := qb4 yew
 have := run_make (P := prog) w 28 3 i0 (.int .i64 0) underlying28 hi hz0 .i64 .i64 0 (N : Int) (by omega) (by omega) (by rw [hz9]; omega) (by omega)
 rw [hz1, qcA, qav] at this
 exact this
theorem EH.rowcells {w : World} {s : List UInt8} {h : Nat} {row : List Nat} {kd : Nat → Nat} {A : Option Addr} {c g : Nat} (H : EH w s h row kd A c g) : ∀ W, Below w.heap.size w W → ∀ k (hk : k < row.length), ∃ b off, A = some ⟨b, off, none⟩ ∧ b < w.heap.size ∧ W.cell? ⟨b, off + k, none⟩ = some (.int .i64 ((row[k] : Nat) : Int)) := ydn H.se.len H.row
theorem s_apart_any (s : List UInt8) (h : Nat) (row : List Nat) (kd : Nat → Nat) (A : Option Addr) (c g : Nat) (w : World) (hs : s.length ≤ 1000000) (H : EH w s h row kd A c g) :
  Calls prog 116 #[.agg #[.slice A (s.length + 1) c, .slice (some ⟨g, 0, none⟩) (s.length + 1) (s.length + 1), .int .i64 (h : Int)]] w fun e w' => e = .returned (.bool (decide (kd (row.getD s.length 0) = s.length))) ∧ Below w.heap.size w w' := by
 have hni : (0 : Int) ≤ (s.length : Int) ∧ (s.length : Int) ≤ 1000000 := by omega
 have hni2 : (0 : Int) ≤ (s.length : Int) ∧ (s.length : Int) < (s.length : Int) + 1 := by omega
 have hl := H.se.len
 obtain ⟨b, off, rfl, hb, x1⟩ := H.rowcells w (qam _ _) s.length (by omega)
 have hp := (H.se.mem _).1 (qaq (show s.length < row.length by omega))
 rw [yey _ (show s.length < row.length by omega)]
 have x2 := yda H.kinds row[s.length] (by omega)
 have hgl := H.kinds.lt
 have Hb : Hid (Below w.heap.size w (w.alloc (.cells #[.slice (some ⟨b, off, none⟩) (s.length + 1) c, .slice (some ⟨g, 0, none⟩) (s.length + 1) (s.length + 1), .int .i64 (h : Int)] 155))) := qaa ((qam _ _).alloc (qaf _) _)
 clear H
 generalize row[s.length] = p at *
 have hpi : (0 : Int) ≤ (p : Int) ∧ (p : Int) < (s.length : Int) + 1 := by omega
 generalize kd p = kp at *
 have hw1 : IntKind.i64.wrap ((s.length : Int) + 1 - 1) = (s.length : Int) := by rw [qai]; omega
 have hw2 : IntKind.i64.wrap (s.length : Int) = (s.length : Int) := by rw [qai]; omega
 by_cases hk : kp = s.length
 ·have b1 : ((kp : Int) == (s.length : Int)) = true := by rw [hk]; simp
  have fin : decide (kp = s.length) = true := qaP hk
  rw [fin]
  clear fin hk
  go_enter func116, ntmps116
  go_wp2
  go_quiet (fail)
  go_wp2
  go_ret
  exact ⟨rfl, yay Hb.out _⟩
 ·have b1 : ((kp : Int) == (s.length : Int)) = false := by rw [qbx]; omega
  have fin : decide (kp = s.length) = false := qbv hk
  rw [fin]
  clear fin hk
  go_enter func116, ntmps116
  go_wp2
  go_quiet (fail)
  go_wp2
  go_ret
  exact ⟨rfl, yay Hb.out _⟩
theorem nrow0_len {s : List UInt8} {h : Nat} {row : List Nat} {kd : Nat → Nat} (S : SE s h row kd) (hh : h ≤ s.length) (h1 : 1 ≤ h) : (ycf row s.length h).length = s.length + 1 := by
 have hM := yf9 kd (ycf row s.length h)
 have := (se_next S hh h1 _ hM).len
 rwa [bks_len, ydr _ _ _ hM] at this
theorem nrow0_mem {s : List UInt8} {h : Nat} {row : List Nat} {kd : Nat → Nat} (S : SE s h row kd) (hh : h ≤ s.length) (p : Nat) : p ∈ ycf row s.length h ↔ p ≤ s.length := by
 unfold ycf
 rw [qbm, ydo _ _ _ hh, ydJ, S.mem]
 omega
theorem nbehind_step (row : List Nat) (h j : Nat) (hj : j < row.length) : yaK (row.take (j + 1)) h = yaK (row.take j) h ++ if h ≤ row[j] then [row[j] - h] else [] := by
 unfold yaK
 rw [qap hj, qbq, qc3]
 by_cases e : h ≤ row[j] <;> simp [e]
theorem nshort_step (q k : Nat) : List.range' q (k + 1) = List.range' q k ++ [q + k] := by rw [List.range'_concat]; simp
theorem krow_kinds {w : World} {g n : Nat} {kd : Nat → Nat} {row : List Nat} (h : Blk w g 3 (ints (kL kd n)).toArray) (hr : ∀ p ∈ row, p < n) : KRow w .i64 kd (some ⟨g, 0, none⟩) n row := fun p hp => by
 refine ⟨hr p hp, g, 0, rfl, h.lt, fun W hW => ?_⟩
 rw [qaL]
 exact yda (h.below hW h.lt) p (hr p hp)
theorem s_next_holds {s : List UInt8} {h : Nat} {row : List Nat} {kd : Nat → Nat} {row2 : List Nat} {kd2 : Nat → Nat} {h2 pb g c : Nat} {A : Option Addr} (S : SE s h row kd) (S2 : SE s h2 row2 kd2) (hs : s.length ≤ 1000000) (hh : h ≤ s.length) (W : World) (k : Nat) (hk : k + 1 < row2.length)
  (hP : Blk W pb 155 #[.slice A (s.length + 1) c, .slice (some ⟨g, 0, none⟩) (s.length + 1) (s.length + 1), .int .i64 (h : Int)]) (hG : Blk W g 3 (ints (kL kd (s.length + 1))).toArray) :
  Calls prog 163 #[.int .i64 ((row2[k] : Nat) : Int), .int .i64 ((row2[k + 1] : Nat) : Int), .pointer (some ⟨pb, 0, none⟩)] W fun e W' => e = .returned (.bool (ygx kd h row2[k] row2[k + 1])) ∧ ∃ m, W' = W.drewN m := by
 have h1 := (S2.mem _).1 (qaq (show k < row2.length by omega))
 have h2 := (S2.mem _).1 (qaq hk)
 have hne : row2[k] ≠ row2[k + 1] := fun e => by
  have := ybg S2.nodup (show k < row2.length by omega) hk e
  omega
 exact s_same2_any kd (s.length + 1) h _ _ pb g c A W (by omega) (by omega) (by omega) (by omega) (fun e => by have := S.room _ _ h1 h2 hne e; omega) hP hG
theorem s_next_end {w w6 : World} {g0 gS gK : Nat} {s : List UInt8} {h : Nat} {row : List Nat} {kd : Nat → Nat} {u v k : Value} (hg : w.heap.size = g0) (hse : SE s h row kd)
  (hS : Blk w6 gS 3 (ints (splc row)).toArray) (hK : Blk w6 gK 3 (ints (kL kd (s.length + 1))).toArray) (hgK : g0 + 2 ≤ gK) (hgS : g0 + 2 ≤ gS) (hb : Below g0 w w6) :
  ∃ A' c' g' row' kd', Ending.returned (.agg #[.slice (some ⟨gS, 0, none⟩) (s.length + 1) (s.length + 1), .slice (some ⟨gK, 0, none⟩) (s.length + 1) (s.length + 1), k]) = Ending.returned (.agg #[.slice A' (s.length + 1) c', .slice (some ⟨g', 0, none⟩) (s.length + 1) (s.length + 1), k]) ∧
   EF w.heap.size A' g' ∧ EH (((w6.setCell ⟨g0 + 1, 0, none⟩ u).setCell ⟨g0 + 1, 1, none⟩ v).setCell ⟨g0 + 1, 2, none⟩ k) s h row' kd' A' c' g' ∧ Below w.heap.size w (((w6.setCell ⟨g0 + 1, 0, none⟩ u).setCell ⟨g0 + 1, 1, none⟩ v).setCell ⟨g0 + 1, 2, none⟩ k) := by
 refine ⟨_, _, _, row, kd, rfl, ⟨fun ad e => by injection e with e; subst e; show w.heap.size ≤ gS; omega, by omega⟩, ⟨hse, qaf _, yap (((hS.far (p := ⟨g0 + 1, 0, none⟩) (by show gS ≠ g0 + 1; omega) u).far (p := ⟨g0 + 1, 1, none⟩) (by show gS ≠ g0 + 1; omega) v).far (p := ⟨g0 + 1, 2, none⟩) (by show gS ≠ g0 + 1; omega) k) (by rw [yaq, hse.len]),
  ((hK.far (p := ⟨g0 + 1, 0, none⟩) (by show gK ≠ g0 + 1; omega) u).far (p := ⟨g0 + 1, 1, none⟩) (by show gK ≠ g0 + 1; omega) v).far (p := ⟨g0 + 1, 2, none⟩) (by show gK ≠ g0 + 1; omega) k⟩, ?_⟩
 rw [hg]
 exact ((hb.setCell (p := ⟨g0 + 1, 0, none⟩) (by show g0 ≤ g0 + 1; omega) u).setCell (p := ⟨g0 + 1, 1, none⟩) (by show g0 ≤ g0 + 1; omega) v).setCell (p := ⟨g0 + 1, 2, none⟩) (by show g0 ≤ g0 + 1; omega) k
theorem s_next_any (s : List UInt8) (h : Nat) (row : List Nat) (kd : Nat → Nat) (A : Option Addr) (c g : Nat) (w : World) (hs : s.length ≤ 1000000) (h1 : 1 ≤ h) (hh : h ≤ s.length) (H : EH w s h row kd A c g) :
  Calls prog 117 #[.agg #[.slice A (s.length + 1) c, .slice (some ⟨g, 0, none⟩) (s.length + 1) (s.length + 1), .int .i64 (h : Int)]] w fun e w' =>
   ∃ A' c' g' row' kd', e = .returned (.agg #[.slice A' (s.length + 1) c', .slice (some ⟨g', 0, none⟩) (s.length + 1) (s.length + 1), .int .i64 ((h + h : Nat) : Int)]) ∧ EF w.heap.size A' g' ∧ EH w' s (h + h) row' kd' A' c' g' ∧ Below w.heap.size w w' := by
 obtain ⟨i0, hi, hz0, hz1, hz9⟩ := qb4 yew
 have hmf := s_mkfunc
 have hni : (0 : Int) ≤ (s.length : Int) ∧ (s.length : Int) ≤ 1000000 ∧ (1 : Int) ≤ (h : Int) ∧ (h : Int) ≤ (s.length : Int) := by omega
 have hmk := fun w => gmk_room ((s.length : Int) + 1) (s.length + 1) (by omega) (by omega) w
 obtain ⟨q0, hq0⟩ : ∃ q0, q0 + h = s.length + 1 := ⟨s.length + 1 - h, by omega⟩
 have hsub : (s.length : Int) + 1 - (h : Int) = (q0 : Int) := by omega
 have hwq : IntKind.i64.wrap ((s.length : Int) + 1 - (h : Int)) = (q0 : Int) := by rw [qai]; omega
 have hwq2 : IntKind.i64.wrap (q0 : Int) = (q0 : Int) := by rw [qai]; omega
 have Hsh : Hid (yb6 s.length h = List.range' q0 h) := qaa (by unfold yb6; rw [show s.length + 1 - h = q0 from by omega])
 have hX1 : Blk ((w.alloc (.cells #[.slice A (s.length + 1) c, .slice (some ⟨g, 0, none⟩) (s.length + 1) (s.length + 1), .int .i64 (h : Int)] 155)).alloc (.cells #[.slice none 0 0, .slice none 0 0, .int .i64 0] 155)) w.heap.size 155 #[.slice A (s.length + 1) c, .slice (some ⟨g, 0, none⟩) (s.length + 1) (s.length + 1), .int .i64 (h : Int)] := (Blk.new w _ _).alloc _
 have hR1 : Blk ((w.alloc (.cells #[.slice A (s.length + 1) c, .slice (some ⟨g, 0, none⟩) (s.length + 1) (s.length + 1), .int .i64 (h : Int)] 155)).alloc (.cells #[.slice none 0 0, .slice none 0 0, .int .i64 0] 155)) (w.heap.size + 1) 155 #[.slice none 0 0, .slice none 0 0, .int .i64 0] := by
  have := Blk.new (w.alloc (.cells #[.slice A (s.length + 1) c, .slice (some ⟨g, 0, none⟩) (s.length + 1) (s.length + 1), .int .i64 (h : Int)] 155)) 155 #[.slice none 0 0, .slice none 0 0, .int .i64 0]
  rwa [qay] at this
 have hB1 : Below w.heap.size w ((w.alloc (.cells #[.slice A (s.length + 1) c, .slice (some ⟨g, 0, none⟩) (s.length + 1) (s.length + 1), .int .i64 (h : Int)] 155)).alloc (.cells #[.slice none 0 0, .slice none 0 0, .int .i64 0] 155)) := ((qam _ w).alloc (qaf _) _).alloc (by simp) _
 have hsz : ((w.alloc (.cells #[.slice A (s.length + 1) c, .slice (some ⟨g, 0, none⟩) (s.length + 1) (s.length + 1), .int .i64 (h : Int)] 155)).alloc (.cells #[.slice none 0 0, .slice none 0 0, .int .i64 0] 155)).heap.size = w.heap.size + 2 := by simp
 have HH := qaa H
 have Hrow := qaa H.rowcells
 have Hse := qaa H.se
 have Hq0 := qaa hq0
 have Hs := qaa hs
 have Hh1 := qaa h1
 have Hhh := qaa hh
 clear H h1 hh hs
 go_enter func117, ntmps117
 go_wp2
 generalize hw1 : (w.alloc (.cells #[.slice A (s.length + 1) c, .slice (some ⟨g, 0, none⟩) (s.length + 1) (s.length + 1), .int .i64 (h : Int)] 155)).alloc (.cells #[.slice none 0 0, .slice none 0 0, .int .i64 0] 155) = w1 at *
 generalize hg : w.heap.size = g0 at *
 clear hw1
 have hgl : g0 < g0 + 2 := by omega
 have c11 : w1.cell? ⟨g0, 1, none⟩ = some (.slice (some ⟨g, 0, none⟩) (s.length + 1) (s.length + 1)) := hX1.cell 1
 have c10 : w1.cell? ⟨g0, 0, none⟩ = some (.slice A (s.length + 1) c) := hX1.cell 0
 have c12 : w1.cell? ⟨g0, 2, none⟩ = some (.int .i64 (h : Int)) := hX1.cell 2
 have HX1 := qaa hX1
 have HR1 := qaa hR1
 have Hb1 := qaa hB1
 have Hsz := qaa hsz
 have HO0 : Hid ((w1.alloc (.cells (madeCells #[.int .i64 0] (s.length + 1)) 3)).ownsRow (g0 + 2) 3 1 (.slice (some ⟨g0 + 2, 0, none⟩) 0 (s.length + 1)) 0 []) := qaa (by
  have := World.ownsRow_made (base := g0 + 2) (e := 3) (size := 1) w1 (madeCells #[.int .i64 0] (s.length + 1)) (s.length + 1) (by omega) (by unfold maxLen; have := Hs.out; omega) (by rw [size_madeCells, qcA])
  rwa [hsz] at this)
 have HB0 := qaa ((qam (g0 + 2) w1).alloc (by omega) (.cells (madeCells #[.int .i64 0] (s.length + 1)) 3))
 clear hX1 hR1 hB1 hsz hmk
 go_loopw [3, 4] (fun v p wr => ∃ (k m : Nat) (Av : Option Addr) (cv : Nat), q0 + k = m ∧ k ≤ h ∧ v = .slice Av k cv ∧ p = .int .i64 (m : Int) ∧ Hid (wr.ownsRow (g0 + 2) 3 1 (.slice Av k cv) k (ints (splc (List.range' q0 k)))) ∧ Hid (Below (g0 + 2) w1 wr)) (fun _ p _ => s.length + 1 - (intOf p).toNat)
 case atStart => exact ⟨0, q0, _, _, rfl, by omega, rfl, rfl, HO0, HB0⟩
 case round =>
  obtain ⟨k, m, Av, cv, hkm, hk, rfl, rfl, HO, HB⟩ := hrel
  clear HO0 HB0
  have hszr : g0 + 2 ≤ wr.heap.size := by have := HB.out.size; have := Hsz.out; omega
  have c20 : wr.cell? ⟨g0, 0, none⟩ = some (.slice A (s.length + 1) c) := (HB.out.cell (p := ⟨g0, 0, none⟩) hgl).trans c10
  have c22 : wr.cell? ⟨g0, 2, none⟩ = some (.int .i64 (h : Int)) := (HB.out.cell (p := ⟨g0, 2, none⟩) hgl).trans c12
  by_cases hlt : k < h
  ·have hki : (0 : Int) ≤ (m : Int) ∧ (m : Int) < (s.length : Int) + 1 := by omega
   have Hnext : Hid (ints (splc (List.range' q0 (k + 1))) = ints (splc (List.range' q0 k)) ++ [.int .i64 (m : Int)]) := qaa (by rw [nshort_step, yf3, yaY, hkm]; rfl)
   have Hkm := qaa hkm
   clear hkm
   go_wp2_with (at_builtin; refine yan _ rfl _ _ 28 rfl (g0 + 2) 3 i0 (.int .i64 0) 1 8 underlying28 hi hz0 hz1 hz9 rfl (by decide) _ _ _ rfl (HO.out.alloc _) _ 1 1 _ _ rfl (yaB wr 3 #[.int .i64 (m : Int)] 1 1 rfl) ?c1 ?c2 ?c3 ?c4 ?_)
   case c1 => exact rfl
   case c2 => unfold maxLen; omega
   case c3 => omega
   case c4 => first | omega | (simp; omega)
   intro v2 w2 hown2 hgrow hsep
   have hb2 : Below (g0 + 2) w1 w2 := (HB.out.trans ((qam _ _).alloc hszr _)).grown hgrow (by simp; omega) (fun g hg => (HO.out.lt g hg).1)
   have hown3 : w2.ownsRow (g0 + 2) 3 1 v2 (k + 1) (ints (splc (List.range' q0 (k + 1)))) := by
    rw [Hnext.out]
    exact hown2
   obtain ⟨A2, c2, rfl, hc2, _⟩ := yag hown3
   have Hb2 := qaa hb2
   have Hown3 := qaa hown3
   clear hb2 hown3 hown2 hgrow hsep
   go_wp2
   go_roundw
   case rel => exact ⟨k + 1, m + 1, A2, c2, by have := Hkm.out; omega, by omega, rfl, iv (by omega), Hown3, Hb2⟩
   case measure => simp only [intOf]; omega
  ·obtain rfl : k = h := by omega
   have hki : ¬ (m : Int) < (s.length : Int) + 1 := by have := Hq0.out; omega
   have HO1 : Hid (wr.ownsRow (g0 + 2) 3 1 (.slice Av k cv) k (ints (splc (yb6 s.length k ++ yaK (row.take 0) k)))) := qaa (by rw [Hsh.out]; simpa [yaK] using HO.out)
   have HB1 := qaa HB.out
   have hml : (yb6 s.length k ++ yaK (row.take 0) k).length = k := by rw [Hsh.out]; simp [yaK]
   have Hml := qaa hml
   clear HO HB hkm hml
   go_wp2
   go_loopw [3, 32] (fun v i wr => ∃ (j m2 : Nat) (Av : Option Addr) (cv : Nat), j ≤ s.length + 1 ∧ m2 ≤ k + j ∧ v = .slice Av m2 cv ∧ i = .int .i64 (j : Int) ∧ Hid ((yb6 s.length k ++ yaK (row.take j) k).length = m2) ∧ Hid (wr.ownsRow (g0 + 2) 3 1 (.slice Av m2 cv) m2 (ints (splc (yb6 s.length k ++ yaK (row.take j) k)))) ∧ Hid (Below (g0 + 2) w1 wr)) (fun _ i _ => s.length + 1 - (intOf i).toNat)
   case atStart => exact ⟨0, k, Av, cv, by omega, by omega, rfl, rfl, Hml, HO1, HB1⟩
   case round =>
    clear c20 c22 hszr HO1 HB1 Hml
    obtain ⟨j, m2, Au, cu, hj, hm2, rfl, rfl, Hm2, HO, HB⟩ := hrel
    have hszr : g0 + 2 ≤ wr.heap.size := by have := HB.out.size; have := Hsz.out; omega
    have c20 : wr.cell? ⟨g0, 0, none⟩ = some (.slice A (s.length + 1) c) := (HB.out.cell (p := ⟨g0, 0, none⟩) hgl).trans c10
    have c22 : wr.cell? ⟨g0, 2, none⟩ = some (.int .i64 (k : Int)) := (HB.out.cell (p := ⟨g0, 2, none⟩) hgl).trans c12
    have Hbw : Hid (Below g0 w wr) := qaa (Hb1.out.trans (HB.out.mono (by have := Hsz.out; omega)))
    by_cases hlt2 : j < s.length + 1
    ·have hji : (0 : Int) ≤ (j : Int) ∧ (j : Int) < (s.length : Int) + 1 := by omega
     have hjl : j < row.length := by rw [Hse.out.len]; exact hlt2
     obtain ⟨b, off, rfl, hbl, x1⟩ := Hrow.out wr Hbw.out j hjl
     have hpn := (Hse.out.mem _).1 (qaq hjl)
     have hst := nbehind_step row k j hjl
     generalize row[j] = p at *
     have hpi : (0 : Int) ≤ (p : Int) ∧ (p : Int) ≤ (s.length : Int) := by omega
     by_cases hpk : k ≤ p
     ·have hpki : (k : Int) ≤ (p : Int) := by omega
      rw [qah hpk] at hst
      obtain ⟨d, hd⟩ : ∃ d, k + d = p := ⟨p - k, by omega⟩
      have hds : (p : Int) - (k : Int) = (d : Int) := by omega
      have hwd : IntKind.i64.wrap ((p : Int) - (k : Int)) = (d : Int) := by rw [qai]; omega
      have hwd2 : IntKind.i64.wrap (d : Int) = (d : Int) := by rw [qai]; omega
      rw [show p - k = d from by omega] at hst
      have Hnext : Hid (ints (splc (yb6 s.length k ++ yaK (row.take (j + 1)) k)) = ints (splc (yb6 s.length k ++ yaK (row.take j) k)) ++ [.int .i64 (d : Int)]) := qaa (by rw [hst, ← qak, yf3, yaY]; rfl)
      have Hm3 : Hid ((yb6 s.length k ++ yaK (row.take (j + 1)) k).length = m2 + 1) := qaa (by rw [hst, ← qak, qae, Hm2.out]; rfl)
      clear hst hd
      go_wp2_with (at_builtin; refine yan _ rfl _ _ 28 rfl (g0 + 2) 3 i0 (.int .i64 0) 1 8 underlying28 hi hz0 hz1 hz9 rfl (by decide) _ _ _ rfl (HO.out.alloc _) _ 1 1 _ _ rfl (yaB wr 3 #[.int .i64 (d : Int)] 1 1 rfl) ?c1 ?c2 ?c3 ?c4 ?_)
      case c1 => exact rfl
      case c2 => unfold maxLen; omega
      case c3 => omega
      case c4 => first | omega | (simp; omega)
      intro v2 w2 hown2 hgrow hsep
      have hb2 : Below (g0 + 2) w1 w2 := (HB.out.trans ((qam _ _).alloc hszr _)).grown hgrow (by simp; omega) (fun g hg => (HO.out.lt g hg).1)
      have hown3 : w2.ownsRow (g0 + 2) 3 1 v2 (m2 + 1) (ints (splc (yb6 s.length k ++ yaK (row.take (j + 1)) k))) := by
       rw [Hnext.out]
       exact hown2
      obtain ⟨A2, c2, rfl, hc2, _⟩ := yag hown3
      have Hb2 := qaa hb2
      have Hown3 := qaa hown3
      clear hb2 hown3 hown2 hgrow hsep
      go_wp2
      go_roundw
      case rel => exact ⟨j + 1, m2 + 1, A2, c2, by omega, by omega, rfl, iv (by omega), Hm3, Hown3, Hb2⟩
      case measure => simp only [intOf]; omega
     ·have hpki : ¬ (k : Int) ≤ (p : Int) := by omega
      rw [qag hpk, qa8] at hst
      have HO2 : Hid (wr.ownsRow (g0 + 2) 3 1 (.slice Au m2 cu) m2 (ints (splc (yb6 s.length k ++ yaK (row.take (j + 1)) k)))) := qaa (by rw [hst]; exact HO.out)
      have Hm3 : Hid ((yb6 s.length k ++ yaK (row.take (j + 1)) k).length = m2) := qaa (by rw [hst]; exact Hm2.out)
      clear hst
      go_wp2
      go_roundw
      case rel => exact ⟨j + 1, m2, Au, cu, by omega, by omega, rfl, iv (by omega), Hm3, HO2, HB⟩
      case measure => simp only [intOf]; omega
    ·obtain rfl : j = s.length + 1 := by omega
     have hji : ¬ ((s.length : Int) + 1) < (s.length : Int) + 1 := by omega
     have hfull : yb6 s.length k ++ yaK (row.take (s.length + 1)) k = ycf row s.length k := by rw [qa5 (by rw [Hse.out.len]; exact qaf _)]; rfl
     have hm3 : m2 = s.length + 1 := by rw [← Hm2.out, hfull]; exact nrow0_len Hse.out Hhh.out Hh1.out
     have hown := HO.out
     rw [hfull] at hown
     subst hm3
     obtain ⟨A3, c3, e3, hc3, hr3⟩ := yag hown
     injection e3 with e3 _ e4
     subst e3
     subst e4
     have hHw := HH.out.below (hg ▸ Hbw.out)
     have Hkb := hHw.kinds
     have hmem := nrow0_mem Hse.out Hhh.out
     have Hsort := qaa (s_sorted_int (ycf row s.length k) kd Au (some ⟨g, 0, none⟩) (s.length + 1) cu (s.length + 1) (s.length + 1) wr (nrow0_len Hse.out Hhh.out Hh1.out) (by have := Hs.out; omega) (fun p hp => by have := Hse.out.bound p ((hmem p).1 hp); have := Hs.out; omega) hr3 (krow_kinds Hkb (fun p hp => by have := (hmem p).1 hp; omega)))
     have Hkb := qaa Hkb
     have c21 : wr.cell? ⟨g0, 1, none⟩ = some (.slice (some ⟨g, 0, none⟩) (s.length + 1) (s.length + 1)) := (HB.out.cell (p := ⟨g0, 1, none⟩) hgl).trans c11
     have HX3 := qaa (HX1.out.below HB.out hgl)
     have HR3 := qaa (HR1.out.below HB.out (by omega))
     clear hown hr3 hHw c20 c22 Hrow Hsh HO hfull hmem
     have htw : IntKind.i64.wrap (2 * (k : Int)) = 2 * (k : Int) := by rw [qai]; omega
     go_wp2_with (go_at_call 162; refine Hsort.out.mono ?_; rintro e w3 ⟨gS, M, rfl, hgS, hM, hS, hb3⟩; have HS3 := qaa hS; have HM := qaa hM; have HgS := qaa hgS; have Hb3 := qaa (Hbw.out.trans (hb3.mono (by omega))); have HX4 := qaa (HX3.out.below hb3 HX3.out.lt).drew; have HR4 := qaa (HR3.out.below hb3 HR3.out.lt).drew; have Hk4 := qaa (Hkb.out.below hb3 Hkb.out.lt).drew; have HSr := qaa HS3.out.drew; have Hsz3 := qaa hb3.size; clear hgS hM hS hb3)
     have Hse2 := qaa (se_next Hse.out Hhh.out Hh1.out M HM.out)
     have Hnum := qaa (yd3 (bks kd (ycf row s.length k) M) (ygx kd k) (some ⟨gS, 0, none⟩) (s.length + 1) (s.length + 1) g0 163 w3.drew (fun W hW u hu => s_next_holds Hse.out Hse2.out Hs.out Hhh.out W u hu (HX4.out.below hW HX4.out.lt) (Hk4.out.below hW Hk4.out.lt)) Hse2.out.len (by have := Hs.out; omega) Hse2.out.nodup (fun p hp => by have := (Hse2.out.mem p).1 hp; omega) (yap HSr.out (by rw [yaq, Hse2.out.len])) (enters_of func163 (by kernel_rfl) rfl))
     refine qbC (S := (fun W => W.cell? ⟨g0, 2, none⟩ = some (.int .i64 (k : Int)))) (by kernel_rfl) (HX4.out.cell 2) (fun hHeld => ?_)
     refine qal (i := 0) (oi := _) (v := ?_) rfl (by kernel_rfl) (by kernel_rfl) (by kernel_rfl) (fun _ _ _ h => h) (qas ⟨by rfl, ?_⟩) hHeld ?_
     rotate_left
     ·(intro wz hSw; go_simp; try (with_reducible rfl))
     try simp only [Act.put, qab, qad, qac]
     refine qal (i := 1) (oi := _) (v := ?_) rfl (by kernel_rfl) (by kernel_rfl) (by kernel_rfl) (fun _ _ _ h => h) (qas ⟨by rfl, ?_⟩) hHeld ?_
     rotate_left
     ·(intro wz hSw; go_simp; try (with_reducible rfl))
     try simp only [Act.put, qab, qad, qac]
     refine qal (i := 2) (oi := _) (v := ?_) rfl (by kernel_rfl) (by kernel_rfl) (by kernel_rfl) (fun _ _ _ h => h) (qas ⟨by rfl, ?_⟩) hHeld ?_
     rotate_left
     ·(intro wz hSw; go_simp; try (with_reducible rfl))
     try simp only [Act.put, qab, qad, qac]
     refine qal (i := 4) (oi := _) (v := ?_) rfl (by kernel_rfl) (by kernel_rfl) (by kernel_rfl) (fun _ _ _ h => h) (qas ⟨by rfl, ?_⟩) hHeld ?_
     rotate_left
     ·(intro wz hSw; go_simp; try (with_reducible rfl))
     try simp only [Act.put, qab, qad, qac]
     refine qal (i := 5) (oi := _) (v := ?_) rfl (by kernel_rfl) (by kernel_rfl) (by kernel_rfl) (fun _ _ _ h => h) (qas ⟨by rfl, ?_⟩) hHeld ?_
     rotate_left
     ·(intro wz hSw; go_simp; try (with_reducible rfl))
     try simp only [Act.put, qab, qad, qac]
     refine qal (i := 6) (oi := _) (v := ?_) rfl (by kernel_rfl) (by kernel_rfl) (by kernel_rfl) (fun _ _ _ h => h) (qas ⟨by rfl, ?_⟩) hHeld ?_
     rotate_left
     ·(intro wz hSw; go_simp; try (with_reducible rfl))
     try simp only [Act.put, qab, qad, qac]
     refine qaF (rs := [3]) (by kernel_rfl) (by simp) ?_
     refine qa1 (o := _) rfl (fun K hK => ?_) qa9
     go_simp
     go_at_call 161
     refine Hnum.out.mono ?_
     rintro e w6 ⟨gK, rfl, hgK, hK, hb1⟩
     have HX5 := qaa (HX4.out.below hb1 HX4.out.lt)
     have HR5 := qaa (HR4.out.below hb1 HR4.out.lt)
     have HS5 := qaa (HSr.out.below hb1 HSr.out.lt)
     have HK := qaa hK
     have HgK := qaa hgK
     have Hb6 := qaa hb1
     have y0 : w6.cell? ⟨g0 + 1, 0, none⟩ = some (.slice none 0 0) := HR5.out.cell 0
     have y1 : w6.cell? ⟨g0 + 1, 1, none⟩ = some (.slice none 0 0) := HR5.out.cell 1
     have y2 : w6.cell? ⟨g0 + 1, 2, none⟩ = some (.int .i64 0) := HR5.out.cell 2
     have x0 := HR5.out.frozen 0
     have x1 := HR5.out.frozen 1
     have x2 := HR5.out.frozen 2
     clear hK hgK
     refine hK.out _ _ (HX5.out.cell 2) (fun hH => ?_)
     clear hHeld hK K hb1
     have hHeld := hH
     clear hH
     try simp only [Act.put, qab, qad, qac]
     refine qal (i := 7) (oi := _) (v := ?_) rfl (by kernel_rfl) (by kernel_rfl) (by kernel_rfl) (fun _ _ _ h => h) (qas ⟨by rfl, ?_⟩) hHeld ?_
     rotate_left
     ·(intro wz hSw; go_simp; try (with_reducible rfl))
     try simp only [Act.put, qab, qad, qac]
     refine qaF (rs := [8]) (by kernel_rfl) (by simp) ?_
     refine qa1 (o := _) rfl (fun K hK => ?_) qa9
     go_simp
     refine hK.out _ _ ((((HX5.out.far (p := ⟨g0 + 1, 0, none⟩) (by show g0 ≠ g0 + 1; omega) _).far (p := ⟨g0 + 1, 1, none⟩) (by show g0 ≠ g0 + 1; omega) _).far (p := ⟨g0 + 1, 2, none⟩) (by show g0 ≠ g0 + 1; omega) _).cell 2) (fun hH => ?_)
     clear hK K hHeld
     have hHeld := hH
     clear hH
     try simp only [Act.put, qab, qad, qac]
     refine qbP (by kernel_rfl) ?_ _
     go_wp2
     have hE := yeP (u := .slice (some ⟨gS, 0, none⟩) (s.length + 1) (s.length + 1)) (v := .slice (some ⟨gK, 0, none⟩) (s.length + 1) (s.length + 1)) (k := .int .i64 (2 * (k : Int))) HR5.out
     have d0 := hE.cell 0
     have d1 := hE.cell 1
     have d2 := hE.cell 2
     simp only [qan, qa0, qaw] at d0 d1 d2
     refine qaN (v := .agg #[.slice (some ⟨gS, 0, none⟩) (s.length + 1) (s.length + 1), .slice (some ⟨gK, 0, none⟩) (s.length + 1) (s.length + 1), .int .i64 (2 * (k : Int))]) (by simp [results, results117, go_sem, d0, d1, d2]) rfl ?_
     rw [show (2 * (k : Int)) = ((k + k : Nat) : Int) from by omega]
     exact s_next_end hg Hse2.out HS5.out HK.out (by have := HgK.out; have := HgS.out; have := Hsz3.out; have h9 : w3.drew.heap.size = w3.heap.size := rfl; omega) (by have := HgS.out; omega) (Hb3.out.drew.trans (Hb6.out.mono (by have := Hsz3.out; have h9 : w3.drew.heap.size = w3.heap.size := rfl; omega)))
end Go.Proofs.YtanjhbkbpalnaaaGreat
