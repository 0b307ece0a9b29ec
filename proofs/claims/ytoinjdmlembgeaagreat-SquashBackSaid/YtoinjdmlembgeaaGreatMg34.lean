/-
 What the law of the last of these texts stands on, part 34.
-/
import Derived.Test.YtoinjdmlembgeaaGreatMg20
import Derived.Test.YtoinjdmlembgeaaGreatMg29
namespace Go.Proofs.YtoinjdmlembgeaaGreat
set_option linter.unusedSimpArgs false
set_option linter.unusedVariables false
open Go.ChangeShapes Go.WideShapes Go.ChangeAt Go.RowKit Go.Joins Go.Deep Go.Shelf
theorem gmk_room (z : Int) (N : Nat) (hN : (N : Int) = z) (h : N ≤ 17592186044416) (w : World) :
  (Instr.makeSlice 28 (.int .i64 0) (.int .i64 z)).run Tryz.prog w = .ok (.slice (some ⟨w.heap.size, 0, none⟩) 0 N) (w.alloc (.cells (madeCells #[.int .i64 0] N) 3)) := by
 subst hN
 obtain ⟨i0, hi, hz0, hz1, hz9⟩ := info_parts yde
 have := run_make (P := Tryz.prog) w 28 3 i0 (.int .i64 0) Tryz.underlying28 hi hz0 .i64 .i64 0 (N : Int) (by omega) (by omega) (by rw [hz9]; omega) (by omega)
 rw [hz1, Nat.mul_one, Int.toNat_natCast] at this
 exact this
theorem EH.rowcells {w : World} {s : List UInt8} {h : Nat} {row : List Nat} {kd : Nat → Nat} {A : Option Addr} {c g : Nat} (H : EH w s h row kd A c g) : ∀ W, Below w.heap.size w W → ∀ k (hk : k < row.length), ∃ b off, A = some ⟨b, off, none⟩ ∧ b < w.heap.size ∧ W.cell? ⟨b, off + k, none⟩ = some (.int .i64 ((row[k] : Nat) : Int)) := ydO H.se.len H.row
set_option maxRecDepth 100000 in
set_option maxHeartbeats 2000000 in
theorem s_apart_any (s : List UInt8) (h : Nat) (row : List Nat) (kd : Nat → Nat) (A : Option Addr) (c g : Nat) (w : World) (hs : s.length ≤ 1000000) (H : EH w s h row kd A c g) :
  Calls Tryz.prog 78 #[.agg #[.slice A (s.length + 1) c, .slice (some ⟨g, 0, none⟩) (s.length + 1) (s.length + 1), .int .i64 (h : Int)]] w fun e w' => e = .returned (.bool (decide (kd (row.getD s.length 0) = s.length))) ∧ Below w.heap.size w w' := by
 have hni : (0 : Int) ≤ (s.length : Int) ∧ (s.length : Int) ≤ 1000000 := by omega
 have hni2 : (0 : Int) ≤ (s.length : Int) ∧ (s.length : Int) < (s.length : Int) + 1 := by omega
 have hl := H.se.len
 obtain ⟨b, off, rfl, hb, x1⟩ := H.rowcells w (Below.refl _ _) s.length (by omega)
 have hp := (H.se.mem _).1 (List.getElem_mem (show s.length < row.length by omega))
 rw [yeI _ (show s.length < row.length by omega)]
 have x2 := ydj H.kinds row[s.length] (by omega)
 have hgl := H.kinds.lt
 have Hb : Hid (Below w.heap.size w (w.alloc (.cells #[.slice (some ⟨b, off, none⟩) (s.length + 1) c, .slice (some ⟨g, 0, none⟩) (s.length + 1) (s.length + 1), .int .i64 (h : Int)] 114))) := Lib.hid ((Below.refl _ _).alloc (Nat.le_refl _) _)
 clear H
 generalize row[s.length] = p at *
 have hpi : (0 : Int) ≤ (p : Int) ∧ (p : Int) < (s.length : Int) + 1 := by omega
 generalize kd p = kp at *
 have hw1 : IntKind.i64.wrap ((s.length : Int) + 1 - 1) = (s.length : Int) := by rw [IntKind.wrap_i64]; omega
 have hw2 : IntKind.i64.wrap (s.length : Int) = (s.length : Int) := by rw [IntKind.wrap_i64]; omega
 by_cases hk : kp = s.length
 ·have b1 : ((kp : Int) == (s.length : Int)) = true := by rw [hk]; simp
  have fin : decide (kp = s.length) = true := decide_eq_true hk
  rw [fin]
  clear fin hk
  go_enter Tryz.func78, Tryz.ntmps78
  go_wp2
  go_quiet (fail)
  go_wp2
  go_ret
  exact ⟨rfl, yaj Hb.out _⟩
 ·have b1 : ((kp : Int) == (s.length : Int)) = false := by rw [beq_eq_false_iff_ne]; omega
  have fin : decide (kp = s.length) = false := decide_eq_false hk
  rw [fin]
  clear fin hk
  go_enter Tryz.func78, Tryz.ntmps78
  go_wp2
  go_quiet (fail)
  go_wp2
  go_ret
  exact ⟨rfl, yaj Hb.out _⟩
theorem nrow0_len {s : List UInt8} {h : Nat} {row : List Nat} {kd : Nat → Nat} (S : SE s h row kd) (hh : h ≤ s.length) (h1 : 1 ≤ h) : (ycv row s.length h).length = s.length + 1 := by
 have hM := ygq kd (ycv row s.length h)
 have := (se_next S hh h1 _ hM).len
 rwa [bks_len, ydy _ _ _ hM] at this
theorem nrow0_mem {s : List UInt8} {h : Nat} {row : List Nat} {kd : Nat → Nat} (S : SE s h row kd) (hh : h ≤ s.length) (p : Nat) : p ∈ ycv row s.length h ↔ p ≤ s.length := by
 unfold ycv
 rw [List.mem_append, ydF _ _ _ hh, yek, S.mem]
 omega
theorem nbehind_step (row : List Nat) (h j : Nat) (hj : j < row.length) : yaR (row.take (j + 1)) h = yaR (row.take j) h ++ if h ≤ row[j] then [row[j] - h] else [] := by
 unfold yaR
 rw [List.take_succ_eq_append_getElem hj, List.filter_append, List.map_append]
 by_cases e : h ≤ row[j] <;> simp [e]
theorem nshort_step (q k : Nat) : List.range' q (k + 1) = List.range' q k ++ [q + k] := by rw [List.range'_concat]; simp
theorem krow_kinds {w : World} {g n : Nat} {kd : Nat → Nat} {row : List Nat} (h : Blk w g 3 (ints (kL kd n)).toArray) (hr : ∀ p ∈ row, p < n) : KRow w .i64 kd (some ⟨g, 0, none⟩) n row := fun p hp => by
 refine ⟨hr p hp, g, 0, rfl, h.lt, fun W hW => ?_⟩
 rw [Nat.zero_add]
 exact ydj (h.below hW h.lt) p (hr p hp)
theorem s_next_holds {s : List UInt8} {h : Nat} {row : List Nat} {kd : Nat → Nat} {row2 : List Nat} {kd2 : Nat → Nat} {h2 pb g c : Nat} {A : Option Addr} (S : SE s h row kd) (S2 : SE s h2 row2 kd2) (hs : s.length ≤ 1000000) (hh : h ≤ s.length) (W : World) (k : Nat) (hk : k + 1 < row2.length)
  (hP : Blk W pb 114 #[.slice A (s.length + 1) c, .slice (some ⟨g, 0, none⟩) (s.length + 1) (s.length + 1), .int .i64 (h : Int)]) (hG : Blk W g 3 (ints (kL kd (s.length + 1))).toArray) :
  Calls Tryz.prog 119 #[.int .i64 ((row2[k] : Nat) : Int), .int .i64 ((row2[k + 1] : Nat) : Int), .pointer (some ⟨pb, 0, none⟩)] W fun e W' => e = .returned (.bool (ygB kd h row2[k] row2[k + 1])) ∧ ∃ m, W' = W.drewN m := by
 have h1 := (S2.mem _).1 (List.getElem_mem (show k < row2.length by omega))
 have h2 := (S2.mem _).1 (List.getElem_mem hk)
 have hne : row2[k] ≠ row2[k + 1] := fun e => by
  have := ybn S2.nodup (show k < row2.length by omega) hk e
  omega
 exact s_same2_any kd (s.length + 1) h _ _ pb g c A W (by omega) (by omega) (by omega) (by omega) (fun e => by have := S.room _ _ h1 h2 hne e; omega) hP hG
theorem s_next_end {w w6 : World} {g0 gS gK : Nat} {s : List UInt8} {h : Nat} {row : List Nat} {kd : Nat → Nat} {u v k : Value} (hg : w.heap.size = g0) (hse : SE s h row kd)
  (hS : Blk w6 gS 3 (ints (splc row)).toArray) (hK : Blk w6 gK 3 (ints (kL kd (s.length + 1))).toArray) (hgK : g0 + 2 ≤ gK) (hgS : g0 + 2 ≤ gS) (hb : Below g0 w w6) :
  ∃ A' c' g' row' kd', Ending.returned (.agg #[.slice (some ⟨gS, 0, none⟩) (s.length + 1) (s.length + 1), .slice (some ⟨gK, 0, none⟩) (s.length + 1) (s.length + 1), k]) = Ending.returned (.agg #[.slice A' (s.length + 1) c', .slice (some ⟨g', 0, none⟩) (s.length + 1) (s.length + 1), k]) ∧
   EF w.heap.size A' g' ∧ EH (((w6.setCell ⟨g0 + 1, 0, none⟩ u).setCell ⟨g0 + 1, 1, none⟩ v).setCell ⟨g0 + 1, 2, none⟩ k) s h row' kd' A' c' g' ∧ Below w.heap.size w (((w6.setCell ⟨g0 + 1, 0, none⟩ u).setCell ⟨g0 + 1, 1, none⟩ v).setCell ⟨g0 + 1, 2, none⟩ k) := by
 refine ⟨_, _, _, row, kd, rfl, ⟨fun ad e => by injection e with e; subst e; show w.heap.size ≤ gS; omega, by omega⟩, ⟨hse, Nat.le_refl _, yat (((hS.far (p := ⟨g0 + 1, 0, none⟩) (by show gS ≠ g0 + 1; omega) u).far (p := ⟨g0 + 1, 1, none⟩) (by show gS ≠ g0 + 1; omega) v).far (p := ⟨g0 + 1, 2, none⟩) (by show gS ≠ g0 + 1; omega) k) (by rw [yao, hse.len]),
  ((hK.far (p := ⟨g0 + 1, 0, none⟩) (by show gK ≠ g0 + 1; omega) u).far (p := ⟨g0 + 1, 1, none⟩) (by show gK ≠ g0 + 1; omega) v).far (p := ⟨g0 + 1, 2, none⟩) (by show gK ≠ g0 + 1; omega) k⟩, ?_⟩
 rw [hg]
 exact ((hb.setCell (p := ⟨g0 + 1, 0, none⟩) (by show g0 ≤ g0 + 1; omega) u).setCell (p := ⟨g0 + 1, 1, none⟩) (by show g0 ≤ g0 + 1; omega) v).setCell (p := ⟨g0 + 1, 2, none⟩) (by show g0 ≤ g0 + 1; omega) k
set_option maxRecDepth 100000 in
set_option maxHeartbeats 8000000 in
theorem s_next_any (s : List UInt8) (h : Nat) (row : List Nat) (kd : Nat → Nat) (A : Option Addr) (c g : Nat) (w : World) (hs : s.length ≤ 1000000) (h1 : 1 ≤ h) (hh : h ≤ s.length) (H : EH w s h row kd A c g) :
  Calls Tryz.prog 79 #[.agg #[.slice A (s.length + 1) c, .slice (some ⟨g, 0, none⟩) (s.length + 1) (s.length + 1), .int .i64 (h : Int)]] w fun e w' =>
   ∃ A' c' g' row' kd', e = .returned (.agg #[.slice A' (s.length + 1) c', .slice (some ⟨g', 0, none⟩) (s.length + 1) (s.length + 1), .int .i64 ((h + h : Nat) : Int)]) ∧ EF w.heap.size A' g' ∧ EH w' s (h + h) row' kd' A' c' g' ∧ Below w.heap.size w w' := by
 obtain ⟨i0, hi, hz0, hz1, hz9⟩ := info_parts yde
 have hmf := s_mkfunc
 have hni : (0 : Int) ≤ (s.length : Int) ∧ (s.length : Int) ≤ 1000000 ∧ (1 : Int) ≤ (h : Int) ∧ (h : Int) ≤ (s.length : Int) := by omega
 have hmk := fun w => gmk_room ((s.length : Int) + 1) (s.length + 1) (by omega) (by omega) w
 obtain ⟨q0, hq0⟩ : ∃ q0, q0 + h = s.length + 1 := ⟨s.length + 1 - h, by omega⟩
 have hsub : (s.length : Int) + 1 - (h : Int) = (q0 : Int) := by omega
 have hwq : IntKind.i64.wrap ((s.length : Int) + 1 - (h : Int)) = (q0 : Int) := by rw [IntKind.wrap_i64]; omega
 have hwq2 : IntKind.i64.wrap (q0 : Int) = (q0 : Int) := by rw [IntKind.wrap_i64]; omega
 have Hsh : Hid (ybE s.length h = List.range' q0 h) := Lib.hid (by unfold ybE; rw [show s.length + 1 - h = q0 from by omega])
 have hX1 : Blk ((w.alloc (.cells #[.slice A (s.length + 1) c, .slice (some ⟨g, 0, none⟩) (s.length + 1) (s.length + 1), .int .i64 (h : Int)] 114)).alloc (.cells #[.slice none 0 0, .slice none 0 0, .int .i64 0] 114)) w.heap.size 114 #[.slice A (s.length + 1) c, .slice (some ⟨g, 0, none⟩) (s.length + 1) (s.length + 1), .int .i64 (h : Int)] := (Blk.new w _ _).alloc _
 have hR1 : Blk ((w.alloc (.cells #[.slice A (s.length + 1) c, .slice (some ⟨g, 0, none⟩) (s.length + 1) (s.length + 1), .int .i64 (h : Int)] 114)).alloc (.cells #[.slice none 0 0, .slice none 0 0, .int .i64 0] 114)) (w.heap.size + 1) 114 #[.slice none 0 0, .slice none 0 0, .int .i64 0] := by
  have := Blk.new (w.alloc (.cells #[.slice A (s.length + 1) c, .slice (some ⟨g, 0, none⟩) (s.length + 1) (s.length + 1), .int .i64 (h : Int)] 114)) 114 #[.slice none 0 0, .slice none 0 0, .int .i64 0]
  rwa [World.size_alloc] at this
 have hB1 : Below w.heap.size w ((w.alloc (.cells #[.slice A (s.length + 1) c, .slice (some ⟨g, 0, none⟩) (s.length + 1) (s.length + 1), .int .i64 (h : Int)] 114)).alloc (.cells #[.slice none 0 0, .slice none 0 0, .int .i64 0] 114)) := ((Below.refl _ w).alloc (Nat.le_refl _) _).alloc (by simp) _
 have hsz : ((w.alloc (.cells #[.slice A (s.length + 1) c, .slice (some ⟨g, 0, none⟩) (s.length + 1) (s.length + 1), .int .i64 (h : Int)] 114)).alloc (.cells #[.slice none 0 0, .slice none 0 0, .int .i64 0] 114)).heap.size = w.heap.size + 2 := by simp
 have HH := Lib.hid H
 have Hrow := Lib.hid H.rowcells
 have Hse := Lib.hid H.se
 have Hq0 := Lib.hid hq0
 have Hs := Lib.hid hs
 have Hh1 := Lib.hid h1
 have Hhh := Lib.hid hh
 clear H h1 hh hs
 go_enter Tryz.func79, Tryz.ntmps79
 go_wp2
 generalize hw1 : (w.alloc (.cells #[.slice A (s.length + 1) c, .slice (some ⟨g, 0, none⟩) (s.length + 1) (s.length + 1), .int .i64 (h : Int)] 114)).alloc (.cells #[.slice none 0 0, .slice none 0 0, .int .i64 0] 114) = w1 at *
 generalize hg : w.heap.size = g0 at *
 clear hw1
 have hgl : g0 < g0 + 2 := by omega
 have c11 : w1.cell? ⟨g0, 1, none⟩ = some (.slice (some ⟨g, 0, none⟩) (s.length + 1) (s.length + 1)) := hX1.cell 1
 have c10 : w1.cell? ⟨g0, 0, none⟩ = some (.slice A (s.length + 1) c) := hX1.cell 0
 have c12 : w1.cell? ⟨g0, 2, none⟩ = some (.int .i64 (h : Int)) := hX1.cell 2
 have HX1 := Lib.hid hX1
 have HR1 := Lib.hid hR1
 have Hb1 := Lib.hid hB1
 have Hsz := Lib.hid hsz
 have HO0 : Hid ((w1.alloc (.cells (madeCells #[.int .i64 0] (s.length + 1)) 3)).ownsRow (g0 + 2) 3 1 (.slice (some ⟨g0 + 2, 0, none⟩) 0 (s.length + 1)) 0 []) := Lib.hid (by
  have := World.ownsRow_made (base := g0 + 2) (e := 3) (size := 1) w1 (madeCells #[.int .i64 0] (s.length + 1)) (s.length + 1) (by omega) (by unfold maxLen; have := Hs.out; omega) (by rw [size_madeCells, Nat.mul_one])
  rwa [hsz] at this)
 have HB0 := Lib.hid ((Below.refl (g0 + 2) w1).alloc (by omega) (.cells (madeCells #[.int .i64 0] (s.length + 1)) 3))
 clear hX1 hR1 hB1 hsz hmk
 go_loopw [3, 4] (fun v p wr => ∃ (k m : Nat) (Av : Option Addr) (cv : Nat), q0 + k = m ∧ k ≤ h ∧ v = .slice Av k cv ∧ p = .int .i64 (m : Int) ∧ Hid (wr.ownsRow (g0 + 2) 3 1 (.slice Av k cv) k (ints (splc (List.range' q0 k)))) ∧ Hid (Below (g0 + 2) w1 wr)) (fun _ p _ => s.length + 1 - (intOf p).toNat)
 case atStart => exact ⟨0, q0, _, _, rfl, by omega, rfl, rfl, HO0, HB0⟩
 case round =>
  obtain ⟨k, m, Av, cv, hkm, hk, rfl, rfl, HO, HB⟩ := hrel
  clear HO0 HB0
  have hszr : g0 + 2 ≤ wr.heap.size := by have := HB.out.size; have := Hsz.out; omega
  have c20 : wr.cell? ⟨g0, 0, none⟩ = some (.slice A (s.length + 1) c) := (HB.out.cell (p := ⟨g0, 0, none⟩) hgl).trans c10
  have c22 : wr.cell? ⟨g0, 2, none⟩ = some (.int .i64 (h : Int)) := (HB.out.cell (p := ⟨g0, 2, none⟩) hgl).trans c12
  by_cases hlt : k < h
  ·have hki : (0 : Int) ≤ (m : Int) ∧ (m : Int) < (s.length : Int) + 1 := by omega
   have Hnext : Hid (ints (splc (List.range' q0 (k + 1))) = ints (splc (List.range' q0 k)) ++ [.int .i64 (m : Int)]) := Lib.hid (by rw [nshort_step, ygl, yax, hkm]; rfl)
   have Hkm := Lib.hid hkm
   clear hkm
   go_wp2_with (at_builtin; refine yaf _ rfl _ _ 28 rfl (g0 + 2) 3 i0 (.int .i64 0) 1 8 Tryz.underlying28 hi hz0 hz1 hz9 rfl (by decide) _ _ _ rfl (HO.out.alloc _) _ 1 1 _ _ rfl (ya1 wr 3 #[.int .i64 (m : Int)] 1 1 rfl) ?c1 ?c2 ?c3 ?c4 ?_)
   case c1 => exact rfl
   case c2 => unfold maxLen; omega
   case c3 => omega
   case c4 => first | omega | (simp; omega)
   intro v2 w2 hown2 hgrow hsep
   have hb2 : Below (g0 + 2) w1 w2 := (HB.out.trans ((Below.refl _ _).alloc hszr _)).grown hgrow (by simp; omega) (fun g hg => (HO.out.lt g hg).1)
   have hown3 : w2.ownsRow (g0 + 2) 3 1 v2 (k + 1) (ints (splc (List.range' q0 (k + 1)))) := by
    rw [Hnext.out]
    exact hown2
   obtain ⟨A2, c2, rfl, hc2, _⟩ := yae hown3
   have Hb2 := Lib.hid hb2
   have Hown3 := Lib.hid hown3
   clear hb2 hown3 hown2 hgrow hsep
   go_wp2
   go_roundw
   case rel => exact ⟨k + 1, m + 1, A2, c2, by have := Hkm.out; omega, by omega, rfl, iv (by omega), Hown3, Hb2⟩
   case measure => simp only [intOf]; omega
  ·obtain rfl : k = h := by omega
   have hki : ¬ (m : Int) < (s.length : Int) + 1 := by have := Hq0.out; omega
   have HO1 : Hid (wr.ownsRow (g0 + 2) 3 1 (.slice Av k cv) k (ints (splc (ybE s.length k ++ yaR (row.take 0) k)))) := Lib.hid (by rw [Hsh.out]; simpa [yaR] using HO.out)
   have HB1 := Lib.hid HB.out
   have hml : (ybE s.length k ++ yaR (row.take 0) k).length = k := by rw [Hsh.out]; simp [yaR]
   have Hml := Lib.hid hml
   clear HO HB hkm hml
   go_wp2
   go_loopw [3, 32] (fun v i wr => ∃ (j m2 : Nat) (Av : Option Addr) (cv : Nat), j ≤ s.length + 1 ∧ m2 ≤ k + j ∧ v = .slice Av m2 cv ∧ i = .int .i64 (j : Int) ∧ Hid ((ybE s.length k ++ yaR (row.take j) k).length = m2) ∧ Hid (wr.ownsRow (g0 + 2) 3 1 (.slice Av m2 cv) m2 (ints (splc (ybE s.length k ++ yaR (row.take j) k)))) ∧ Hid (Below (g0 + 2) w1 wr)) (fun _ i _ => s.length + 1 - (intOf i).toNat)
   case atStart => exact ⟨0, k, Av, cv, by omega, by omega, rfl, rfl, Hml, HO1, HB1⟩
   case round =>
    clear c20 c22 hszr HO1 HB1 Hml
    obtain ⟨j, m2, Au, cu, hj, hm2, rfl, rfl, Hm2, HO, HB⟩ := hrel
    have hszr : g0 + 2 ≤ wr.heap.size := by have := HB.out.size; have := Hsz.out; omega
    have c20 : wr.cell? ⟨g0, 0, none⟩ = some (.slice A (s.length + 1) c) := (HB.out.cell (p := ⟨g0, 0, none⟩) hgl).trans c10
    have c22 : wr.cell? ⟨g0, 2, none⟩ = some (.int .i64 (k : Int)) := (HB.out.cell (p := ⟨g0, 2, none⟩) hgl).trans c12
    have Hbw : Hid (Below g0 w wr) := Lib.hid (Hb1.out.trans (HB.out.mono (by have := Hsz.out; omega)))
    by_cases hlt2 : j < s.length + 1
    ·have hji : (0 : Int) ≤ (j : Int) ∧ (j : Int) < (s.length : Int) + 1 := by omega
     have hjl : j < row.length := by rw [Hse.out.len]; exact hlt2
     obtain ⟨b, off, rfl, hbl, x1⟩ := Hrow.out wr Hbw.out j hjl
     have hpn := (Hse.out.mem _).1 (List.getElem_mem hjl)
     have hst := nbehind_step row k j hjl
     generalize row[j] = p at *
     have hpi : (0 : Int) ≤ (p : Int) ∧ (p : Int) ≤ (s.length : Int) := by omega
     by_cases hpk : k ≤ p
     ·have hpki : (k : Int) ≤ (p : Int) := by omega
      rw [if_pos hpk] at hst
      obtain ⟨d, hd⟩ : ∃ d, k + d = p := ⟨p - k, by omega⟩
      have hds : (p : Int) - (k : Int) = (d : Int) := by omega
      have hwd : IntKind.i64.wrap ((p : Int) - (k : Int)) = (d : Int) := by rw [IntKind.wrap_i64]; omega
      have hwd2 : IntKind.i64.wrap (d : Int) = (d : Int) := by rw [IntKind.wrap_i64]; omega
      rw [show p - k = d from by omega] at hst
      have Hnext : Hid (ints (splc (ybE s.length k ++ yaR (row.take (j + 1)) k)) = ints (splc (ybE s.length k ++ yaR (row.take j) k)) ++ [.int .i64 (d : Int)]) := Lib.hid (by rw [hst, ← List.append_assoc, ygl, yax]; rfl)
      have Hm3 : Hid ((ybE s.length k ++ yaR (row.take (j + 1)) k).length = m2 + 1) := Lib.hid (by rw [hst, ← List.append_assoc, List.length_append, Hm2.out]; rfl)
      clear hst hd
      go_wp2_with (at_builtin; refine yaf _ rfl _ _ 28 rfl (g0 + 2) 3 i0 (.int .i64 0) 1 8 Tryz.underlying28 hi hz0 hz1 hz9 rfl (by decide) _ _ _ rfl (HO.out.alloc _) _ 1 1 _ _ rfl (ya1 wr 3 #[.int .i64 (d : Int)] 1 1 rfl) ?c1 ?c2 ?c3 ?c4 ?_)
      case c1 => exact rfl
      case c2 => unfold maxLen; omega
      case c3 => omega
      case c4 => first | omega | (simp; omega)
      intro v2 w2 hown2 hgrow hsep
      have hb2 : Below (g0 + 2) w1 w2 := (HB.out.trans ((Below.refl _ _).alloc hszr _)).grown hgrow (by simp; omega) (fun g hg => (HO.out.lt g hg).1)
      have hown3 : w2.ownsRow (g0 + 2) 3 1 v2 (m2 + 1) (ints (splc (ybE s.length k ++ yaR (row.take (j + 1)) k))) := by
       rw [Hnext.out]
       exact hown2
      obtain ⟨A2, c2, rfl, hc2, _⟩ := yae hown3
      have Hb2 := Lib.hid hb2
      have Hown3 := Lib.hid hown3
      clear hb2 hown3 hown2 hgrow hsep
      go_wp2
      go_roundw
      case rel => exact ⟨j + 1, m2 + 1, A2, c2, by omega, by omega, rfl, iv (by omega), Hm3, Hown3, Hb2⟩
      case measure => simp only [intOf]; omega
     ·have hpki : ¬ (k : Int) ≤ (p : Int) := by omega
      rw [if_neg hpk, List.append_nil] at hst
      have HO2 : Hid (wr.ownsRow (g0 + 2) 3 1 (.slice Au m2 cu) m2 (ints (splc (ybE s.length k ++ yaR (row.take (j + 1)) k)))) := Lib.hid (by rw [hst]; exact HO.out)
      have Hm3 : Hid ((ybE s.length k ++ yaR (row.take (j + 1)) k).length = m2) := Lib.hid (by rw [hst]; exact Hm2.out)
      clear hst
      go_wp2
      go_roundw
      case rel => exact ⟨j + 1, m2, Au, cu, by omega, by omega, rfl, iv (by omega), Hm3, HO2, HB⟩
      case measure => simp only [intOf]; omega
    ·obtain rfl : j = s.length + 1 := by omega
     have hji : ¬ ((s.length : Int) + 1) < (s.length : Int) + 1 := by omega
     have hfull : ybE s.length k ++ yaR (row.take (s.length + 1)) k = ycv row s.length k := by rw [List.take_of_length_le (by rw [Hse.out.len]; exact Nat.le_refl _)]; rfl
     have hm3 : m2 = s.length + 1 := by rw [← Hm2.out, hfull]; exact nrow0_len Hse.out Hhh.out Hh1.out
     have hown := HO.out
     rw [hfull] at hown
     subst hm3
     obtain ⟨A3, c3, e3, hc3, hr3⟩ := yae hown
     injection e3 with e3 _ e4
     subst e3
     subst e4
     have hHw := HH.out.below (hg ▸ Hbw.out)
     have Hkb := hHw.kinds
     have hmem := nrow0_mem Hse.out Hhh.out
     have Hsort := Lib.hid (s_sorted_int (ycv row s.length k) kd Au (some ⟨g, 0, none⟩) (s.length + 1) cu (s.length + 1) (s.length + 1) wr (nrow0_len Hse.out Hhh.out Hh1.out) (by have := Hs.out; omega) (fun p hp => by have := Hse.out.bound p ((hmem p).1 hp); have := Hs.out; omega) hr3 (krow_kinds Hkb (fun p hp => by have := (hmem p).1 hp; omega)))
     have Hkb := Lib.hid Hkb
     have c21 : wr.cell? ⟨g0, 1, none⟩ = some (.slice (some ⟨g, 0, none⟩) (s.length + 1) (s.length + 1)) := (HB.out.cell (p := ⟨g0, 1, none⟩) hgl).trans c11
     have HX3 := Lib.hid (HX1.out.below HB.out hgl)
     have HR3 := Lib.hid (HR1.out.below HB.out (by omega))
     clear hown hr3 hHw c20 c22 Hrow Hsh HO hfull hmem
     have htw : IntKind.i64.wrap (2 * (k : Int)) = 2 * (k : Int) := by rw [IntKind.wrap_i64]; omega
     go_wp2_with (go_at_call 118; refine Hsort.out.mono ?_; rintro e w3 ⟨gS, M, rfl, hgS, hM, hS, hb3⟩; have HS3 := Lib.hid hS; have HM := Lib.hid hM; have HgS := Lib.hid hgS; have Hb3 := Lib.hid (Hbw.out.trans (hb3.mono (by omega))); have HX4 := Lib.hid (HX3.out.below hb3 HX3.out.lt).drew; have HR4 := Lib.hid (HR3.out.below hb3 HR3.out.lt).drew; have Hk4 := Lib.hid (Hkb.out.below hb3 Hkb.out.lt).drew; have HSr := Lib.hid HS3.out.drew; have Hsz3 := Lib.hid hb3.size; clear hgS hM hS hb3)
     have Hse2 := Lib.hid (se_next Hse.out Hhh.out Hh1.out M HM.out)
     have Hnum := Lib.hid (ya4 (bks kd (ycv row s.length k) M) (ygB kd k) (some ⟨gS, 0, none⟩) (s.length + 1) (s.length + 1) g0 119 w3.drew (fun W hW u hu => s_next_holds Hse.out Hse2.out Hs.out Hhh.out W u hu (HX4.out.below hW HX4.out.lt) (Hk4.out.below hW Hk4.out.lt)) Hse2.out.len (by have := Hs.out; omega) Hse2.out.nodup (fun p hp => by have := (Hse2.out.mem p).1 hp; omega) (yat HSr.out (by rw [yao, Hse2.out.len])) (enters_of Tryz.func119 (by kernel_rfl) rfl))
     refine wp_region_held_drew (S := (fun W => W.cell? ⟨g0, 2, none⟩ = some (.int .i64 (k : Int)))) (by kernel_rfl) (HX4.out.cell 2) (fun hHeld => ?_)
     refine wpAnyH_take (i := 0) (oi := ⟨some 53, Op.move (Operand.tmp 3), 28, _, #[], none⟩) (v := ?_) rfl (by kernel_rfl) (by kernel_rfl) (by kernel_rfl) (fun _ _ _ h => h) (Or.inl ⟨by rfl, ?_⟩) hHeld ?_
     rotate_left
     ·(intro wz hSw; go_simp; try (with_reducible rfl))
     try simp only [Act.put, List.setIfInBounds_toArray, List.set_cons_zero, List.set_cons_succ]
     refine wpAnyH_take (i := 1) (oi := ⟨some 54, Op.move (Operand.tmp 3), 28, _, #[], none⟩) (v := ?_) rfl (by kernel_rfl) (by kernel_rfl) (by kernel_rfl) (fun _ _ _ h => h) (Or.inl ⟨by rfl, ?_⟩) hHeld ?_
     rotate_left
     ·(intro wz hSw; go_simp; try (with_reducible rfl))
     try simp only [Act.put, List.setIfInBounds_toArray, List.set_cons_zero, List.set_cons_succ]
     refine wpAnyH_take (i := 2) (oi := ⟨some 55, Op.move (Operand.tmp 7), 118, _, #[], none⟩) (v := ?_) rfl (by kernel_rfl) (by kernel_rfl) (by kernel_rfl) (fun _ _ _ h => h) (Or.inl ⟨by rfl, ?_⟩) hHeld ?_
     rotate_left
     ·(intro wz hSw; go_simp; try (with_reducible rfl))
     try simp only [Act.put, List.setIfInBounds_toArray, List.set_cons_zero, List.set_cons_succ]
     refine wpAnyH_take (i := 4) (oi := ⟨some 57, Op.fieldAddr 114 (Operand.tmp 1) 2, 0, _, #[], none⟩) (v := ?_) rfl (by kernel_rfl) (by kernel_rfl) (by kernel_rfl) (fun _ _ _ h => h) (Or.inl ⟨by rfl, ?_⟩) hHeld ?_
     rotate_left
     ·(intro wz hSw; go_simp; try (with_reducible rfl))
     try simp only [Act.put, List.setIfInBounds_toArray, List.set_cons_zero, List.set_cons_succ]
     refine wpAnyH_take (i := 5) (oi := ⟨some 58, Op.load 3 (Operand.tmp 57), 3, _, #[{ on := 4, ground := Ground.data }], none⟩) (v := ?_) rfl (by kernel_rfl) (by kernel_rfl) (by kernel_rfl) (fun _ _ _ h => h) (Or.inl ⟨by rfl, ?_⟩) hHeld ?_
     rotate_left
     ·(intro wz hSw; go_simp; try (with_reducible rfl))
     try simp only [Act.put, List.setIfInBounds_toArray, List.set_cons_zero, List.set_cons_succ]
     refine wpAnyH_take (i := 6) (oi := ⟨some 59, Op.binOp BinOp.mul 3 (Operand.const (Value.int IntKind.i64 2)) (Operand.tmp 58) 3, 3, _, #[{ on := 5, ground := Ground.data }], none⟩) (v := ?_) rfl (by kernel_rfl) (by kernel_rfl) (by kernel_rfl) (fun _ _ _ h => h) (Or.inl ⟨by rfl, ?_⟩) hHeld ?_
     rotate_left
     ·(intro wz hSw; go_simp; try (with_reducible rfl))
     try simp only [Act.put, List.setIfInBounds_toArray, List.set_cons_zero, List.set_cons_succ]
     refine wpAnyH_ready (rs := [3]) (by kernel_rfl) (by simp) ?_
     refine AllReadyH.cons (o := ⟨some 56, Op.call { callee := Callee.value (Operand.func 117), args := #[Operand.tmp 54, Operand.tmp 55], argTypes := #[28, 118] }, 28, _, #[{ on := 1, ground := Ground.data }, { on := 2, ground := Ground.data }], none⟩) rfl (fun K hK => ?_) AllReadyH.nil
     go_simp
     go_at_call 117
     refine Hnum.out.mono ?_
     rintro e w6 ⟨gK, rfl, hgK, hK, hb1⟩
     have HX5 := Lib.hid (HX4.out.below hb1 HX4.out.lt)
     have HR5 := Lib.hid (HR4.out.below hb1 HR4.out.lt)
     have HS5 := Lib.hid (HSr.out.below hb1 HSr.out.lt)
     have HK := Lib.hid hK
     have HgK := Lib.hid hgK
     have Hb6 := Lib.hid hb1
     have y0 : w6.cell? ⟨g0 + 1, 0, none⟩ = some (.slice none 0 0) := HR5.out.cell 0
     have y1 : w6.cell? ⟨g0 + 1, 1, none⟩ = some (.slice none 0 0) := HR5.out.cell 1
     have y2 : w6.cell? ⟨g0 + 1, 2, none⟩ = some (.int .i64 0) := HR5.out.cell 2
     have x0 := HR5.out.frozen 0
     have x1 := HR5.out.frozen 1
     have x2 := HR5.out.frozen 2
     clear hK hgK
     refine hK.out _ _ (HX5.out.cell 2) (fun hH => ?_)
     clear hHeld hK K hb1
     have hHeld := hH
     clear hH
     try simp only [Act.put, List.setIfInBounds_toArray, List.set_cons_zero, List.set_cons_succ]
     refine wpAnyH_take (i := 7) (oi := ⟨some 60, Op.build 114 #[(0, Operand.tmp 53), (1, Operand.tmp 56), (2, Operand.tmp 59)], 114, _, #[{ on := 0, ground := Ground.data }, { on := 3, ground := Ground.data }, { on := 6, ground := Ground.data }], none⟩) (v := ?_) rfl (by kernel_rfl) (by kernel_rfl) (by kernel_rfl) (fun _ _ _ h => h) (Or.inl ⟨by rfl, ?_⟩) hHeld ?_
     rotate_left
     ·(intro wz hSw; go_simp; try (with_reducible rfl))
     try simp only [Act.put, List.setIfInBounds_toArray, List.set_cons_zero, List.set_cons_succ]
     refine wpAnyH_ready (rs := [8]) (by kernel_rfl) (by simp) ?_
     refine AllReadyH.cons (o := ⟨none, Op.store 114 (Operand.tmp 2) (Operand.tmp 60), 0, _, #[{ on := 7, ground := Ground.data }, { on := 3, ground := Ground.chain }, { on := 0, ground := Ground.phase }, { on := 1, ground := Ground.phase }, { on := 2, ground := Ground.phase }, { on := 3, ground := Ground.phase }, { on := 4, ground := Ground.phase }, { on := 5, ground := Ground.phase }, { on := 6, ground := Ground.phase }, { on := 7, ground := Ground.phase }], none⟩) rfl (fun K hK => ?_) AllReadyH.nil
     go_simp
     refine hK.out _ _ ((((HX5.out.far (p := ⟨g0 + 1, 0, none⟩) (by show g0 ≠ g0 + 1; omega) _).far (p := ⟨g0 + 1, 1, none⟩) (by show g0 ≠ g0 + 1; omega) _).far (p := ⟨g0 + 1, 2, none⟩) (by show g0 ≠ g0 + 1; omega) _).cell 2) (fun hH => ?_)
     clear hK K hHeld
     have hHeld := hH
     clear hH
     try simp only [Act.put, List.setIfInBounds_toArray, List.set_cons_zero, List.set_cons_succ]
     refine wpAnyH_done (by kernel_rfl) ?_ _
     go_wp2
     have hE := yaU (u := .slice (some ⟨gS, 0, none⟩) (s.length + 1) (s.length + 1)) (v := .slice (some ⟨gK, 0, none⟩) (s.length + 1) (s.length + 1)) (k := .int .i64 (2 * (k : Int))) HR5.out
     have d0 := hE.cell 0
     have d1 := hE.cell 1
     have d2 := hE.cell 2
     simp only [List.getElem?_toArray, List.getElem?_cons_zero, List.getElem?_cons_succ] at d0 d1 d2
     refine bodyPost_ret (v := .agg #[.slice (some ⟨gS, 0, none⟩) (s.length + 1) (s.length + 1), .slice (some ⟨gK, 0, none⟩) (s.length + 1) (s.length + 1), .int .i64 (2 * (k : Int))]) (by simp [results, Tryz.results79, go_sem, d0, d1, d2]) rfl ?_
     rw [show (2 * (k : Int)) = ((k + k : Nat) : Int) from by omega]
     exact s_next_end hg Hse2.out HS5.out HK.out (by have := HgK.out; have := HgS.out; have := Hsz3.out; have h9 : w3.drew.heap.size = w3.heap.size := rfl; omega) (by have := HgS.out; omega) (Hb3.out.drew.trans (Hb6.out.mono (by have := Hsz3.out; have h9 : w3.drew.heap.size = w3.heap.size := rfl; omega)))
theorem zsplit (l : List Int) (k j : Nat) (h : k ≤ j) : l.drop k = (l.take j).drop k ++ l.drop j := by
 rw [List.drop_take]
 conv => lhs; rw [← List.take_append_drop (j - k) (l.drop k)]
 rw [List.drop_drop, show k + (j - k) = j from by omega]
theorem yf2 (l : List Int) (j : Nat) (top : Int) (h : ∀ hj : j < l.length, zin top l[j] = false) : ∀ x s, l.drop j = x :: s → ¬(0 ≤ x ∧ x ≤ top) := fun x s e h2 => by
 have hj : j < l.length := by
  rcases Nat.lt_or_ge j l.length with hlt | hge
  ·exact hlt
  ·rw [List.drop_of_length_le hge] at e; cases e
 rw [List.drop_eq_getElem_cons hj] at e
 injection e with e _
 have := h hj
 rw [e, (ybX _ _).2 h2] at this
 cases this
theorem zpk_step (l : List Int) (k j : Nat) (hkj : k ≤ j) (hj : j ≤ l.length) (hg : ya5 0 ((l.take j).drop k) = true) (hx : ∀ hj : j < l.length, zin 0 l[j] = false) : zpk 0 (l.drop k) = zd (j - k) ++ zpk 0 (l.drop j) := by
 have h0 : ∀ x ∈ (l.take j).drop k, x = 0 := fun x hx => by
  obtain ⟨i, hi, rfl⟩ := List.getElem_of_mem hx
  have := yaZ hg i hi
  omega
 rw [zsplit l k j hkj, zpk_run 0 _ _ h0, zpk_end _ _ (fun x s e e0 => yf2 l j 0 hx x s e (by omega))]
 congr 2
 rw [List.length_drop, List.length_take]
 omega
theorem zpk_next (l : List Int) (j : Nat) (hj : j < l.length) (hx : zin 0 l[j] = false) : zpk 0 (l.drop j) = (l[j] + 1) :: zpk 0 (l.drop (j + 1)) := by
 rw [List.drop_eq_getElem_cons hj]
 exact ydz _ _ fun e => by rw [(ybX _ _).2 (by omega)] at hx; cases hx
def zpw (w1 : World) : World := (w1.alloc (.cells #[.slice none 0 0] 28)).alloc (.cells #[zaddV w1.heap.size] 72)
theorem zr_pwalk_any (l : List Int) (A : Option Addr) (n c B : Nat) (w1 : World) (hn : l.length = n) (hm : n ≤ 1000000) (hc : n ≤ c) (hB : B ≤ w1.heap.size) (hg : ya5 255 l = true) (hr : Reads w1 B 1 A n (ints l)) :
  Calls Tryz.prog 38 #[.slice A n c, .int .i64 0, .func (.func 39) #[] #[.pointer (some ⟨w1.heap.size + 1, 0, none⟩)], .func (.func 41) #[] #[.pointer (some ⟨w1.heap.size + 1, 0, none⟩)]] (zpw w1) fun e W' =>
   (∃ v, e = .returned v) ∧ ∃ v, ZPk B w1.heap.size (w1.heap.size + 1) v (zpk 0 l) W' ∧ Below B w1 W' := by
 have hT : (zpk 0 l).length ≤ 1000000 := by have := yfi l 0; omega
 have hlen : ∀ out k, out ++ zpk 0 (l.drop k) = zpk 0 l → out.length ≤ 1000000 := fun out k h => by
  have := congrArg List.length h
  rw [List.length_append] at this
  omega
 refine (yeg l 0 n B c A _ _ _ _ (fun k W => Below B w1 W ∧ ∃ v out, ZPk B w1.heap.size (w1.heap.size + 1) v out W ∧ out ++ zpk 0 (l.drop k) = zpk 0 l) ⟨?er, ?eo, ?reads, ?run, ?other⟩ (zpw w1) hn (by omega) hc ?h0).mono ?fin
 case er => exact enters_of Tryz.func39 (by kernel_rfl) rfl
 case eo => exact enters_of Tryz.func41 (by kernel_rfl) rfl
 case reads => exact fun k W h => hr.below h.1
 case run =>
  rintro k j W Ap hkj hjn hgp hx ⟨hb, v, out, hP, ho⟩ hrp
  refine (zr_prun_any B w1.heap.size (w1.heap.size + 1) (j - k) (j - k) Ap v out W (by omega) (hlen out k ho) hP).mono ?_
  rintro e W' ⟨he, v', hP', hb'⟩
  refine ⟨he, hb.trans hb', v', _, hP', ?_⟩
  rw [List.append_assoc, ← zpk_step l k j hkj (by omega) hgp hx, ho]
 case other =>
  rintro j W hj hx ⟨hb, v, out, hP, ho⟩
  have h1 := yaZ hg j hj
  refine (zr_pother_any B w1.heap.size (w1.heap.size + 1) v out l[j] W (by omega) (by have := hlen out j ho; omega) hP).mono ?_
  rintro e W' ⟨he, v', hP', hb'⟩
  refine ⟨he, hb.trans hb', v', _, hP', ?_⟩
  rw [← ho, zpk_next l j hj hx]
  simp
 case h0 =>
  have hbw : Below B w1 (zpw w1) := ((Below.refl _ _).alloc hB _).alloc (by simp; omega) _
  refine ⟨hbw, .slice none 0 0, [], ⟨?_, World.ownsRow_nil _ _ _ _, ?_, hB, by omega, Nat.le_trans hB hbw.size⟩, rfl⟩
  ·exact (Blk.new w1 _ _).alloc _
  ·have := Blk.new (w1.alloc (.cells #[.slice none 0 0] 28)) 72 #[zaddV w1.heap.size]
   rwa [show (w1.alloc (.cells #[.slice none 0 0] 28)).heap.size = w1.heap.size + 1 from by simp] at this
 case fin =>
  rintro e W' ⟨he, hb, v, out, hP, ho⟩
  refine ⟨he, v, ?_, hb⟩
  rw [← ho, List.drop_of_length_le (by omega)]
  simpa [zpk, ybk] using hP
set_option maxRecDepth 100000 in
set_option maxHeartbeats 2000000 in
theorem zr_pack_any (l : List Int) (A : Option Addr) (n c : Nat) (w : World) (hm : n ≤ 1000000) (hc : n ≤ c) (hr : Reads w w.heap.size 1 A n (ints l)) :
  Calls Tryz.prog 19 #[.slice A n c] w fun e w' => ∃ A' c', e = .returned (.tuple #[.slice A' (ybp l).1.length c', .int .i64 (ybp l).2]) ∧ (ybp l).1.length ≤ c' ∧ Reads w' w'.heap.size 1 A' (ybp l).1.length (ints (ybp l).1) ∧ Below w.heap.size w w' := by
 have hmf := yeE
 have en : l.length = n := by have := hr.1; rw [yab] at this; omega
 have Hall := Lib.hid (zr_all_any l 255 A n c w (by omega) hr)
 unfold ybp
 cases hg : ya5 255 l with
 | true =>
  rw [hg] at Hall
  have Hwalk := Lib.hid fun w1 (hb : Below w.heap.size w w1) => zr_pwalk_any l A n c w.heap.size w1 en hm hc hb.size hg (hr.below hb)
  clear hg hr hm hc
  rw [if_pos rfl]
  show Calls _ _ _ _ fun e w' => ∃ A' c', e = .returned (.tuple #[.slice A' (zpk 0 l).length c', .int .i64 0]) ∧ (zpk 0 l).length ≤ c' ∧ Reads w' w'.heap.size 1 A' (zpk 0 l).length (ints (zpk 0 l)) ∧ Below w.heap.size w w'
  generalize zpk 0 l = T at *
  go_enter Tryz.func19, Tryz.ntmps19
  go_wp2_with (first
   | (go_at_call 36; refine Hall.out.mono ?_; rintro e w1 ⟨rfl, hb1⟩; have Hb1 := Lib.hid hb1; clear hb1)
   | (go_at_call 38; refine (Hwalk.out _ Hb1.out).mono ?_; rintro e w2 ⟨⟨r, rfl⟩, v, hP, hb2⟩; have HP := Lib.hid hP; have Hb2 := Lib.hid hb2; obtain ⟨A2, c2, rfl, hc2, hr2⟩ := yae HP.out.own; have Hr2 := Lib.hid hr2; have x1 := HP.out.box.cell 0; have Hc2 := Lib.hid hc2; clear hP hb2 hr2 hc2))
  go_ret2
  exact ⟨A2, c2, rfl, Hc2.out, Hr2.out, Hb1.out.trans Hb2.out⟩
 | false =>
  rw [hg] at Hall
  clear hg hr hm hc
  rw [if_neg (by decide)]
  go_enter Tryz.func19, Tryz.ntmps19
  go_wp2_with (go_at_call 36; refine Hall.out.mono ?_; rintro e w1 ⟨rfl, hb1⟩; have Hb1 := Lib.hid hb1; clear hb1)
  go_ret2
  exact ⟨none, 0, rfl, Nat.le_refl _, Reads.none_, Hb1.out⟩
end Go.Proofs.YtoinjdmlembgeaaGreat
