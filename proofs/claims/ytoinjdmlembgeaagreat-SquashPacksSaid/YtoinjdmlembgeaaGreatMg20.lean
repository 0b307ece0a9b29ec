/-
 What the law of the last of these texts stands on, part 20.
-/
import Derived.Test.YtoinjdmlembgeaaGreatMg11
import Derived.Test.YtoinjdmlembgeaaGreatMg16
import Derived.Shelf.Abstract
namespace Go.Proofs.YtoinjdmlembgeaaGreat
set_option linter.unusedSimpArgs false
set_option linter.unusedVariables false
open Go.ChangeShapes Go.WideShapes Go.ChangeAt Go.RowKit Go.Joins Go.Deep Go.Shelf
theorem ybZ {P : Program} {w : World} {ops : Array Oper} {o : Oper} {a : Act} {K : Act → World → Prop} {Q : Exit → Act → World → Prop} {E : Prop} (hgd : o.guard = none) (x : Operand) (src dst e : TypeId)
  (ho : o.op = .convert src dst x) (l : List UInt8) (hs : P.underlying src = some .string) (hd : P.underlying dst = some (.slice e)) (he : P.underlying e = some (.int .u8)) (hx : a.eval x = .string ⟨l.toArray⟩)
  (h : ∀ g cap w', BRow w' g l → w.heap.size ≤ g → Below w.heap.size w w' → l.length ≤ cap → K (a.put o.dst (.slice (some ⟨g, 0, none⟩) l.length cap)) w') :
  if Region.wanted o (yielded ops a.tmps) = true then Oper.wp P o a w K Q else E := by
 have hw : Region.wanted o (yielded ops a.tmps) = true := by simp [Region.wanted, hgd]
 rw [if_pos hw]
 obtain ⟨cap, w', hrun, h2, h3, h4⟩ := run_bytes_row (P := P) w src dst e l hs hd he
 unfold Oper.wp execOp
 simp only [ho, Sem.run_bind, Sem.run_pure, Result.andThen_ok, hx, hrun]
 exact h _ cap w' h2 (Nat.le_refl _) h3 h4
theorem ydl (n : Nat) (w : World) (hm : n ≤ 1000001) :
  Calls Tryz.prog 115 #[.int .i64 (n : Int)] w fun e w' => ∃ g, e = .returned (.slice (some ⟨g, 0, none⟩) n n) ∧ Blk w' g 3 (ints (splc (List.range n))).toArray ∧ Below w.heap.size w w' :=
 (s_upto_any n w hm).mono fun _ _ ⟨a, b, c⟩ => ⟨_, a, b, c⟩
theorem ybm {w : World} {g : Nat} {s : List UInt8} (h : BRow w g s) : KRow w .u8 (ybf s) (some ⟨g, 0, none⟩) s.length (List.range s.length) := fun p hp => by
 have hp' := List.mem_range.1 hp
 refine ⟨hp', g, 0, rfl, h.lt, fun W hW => ?_⟩
 rw [Nat.zero_add, (h.below hW h.lt).cell p s[p] (List.getElem?_eq_getElem hp'), fkey_at hp']
theorem bks_all_len (key : Nat → Nat) (row : List Nat) (M : Nat) (h : ∀ p ∈ row, key p < M) : (splc (bks key row M)).length = row.length := by rw [yao, bks_len, ydy key row M h]
theorem s_mkfunc (fn : Fn) (first cap : Array Value) (w : World) : (Instr.makeFunc fn first cap).run Tryz.prog w = .ok (.func fn first cap) w := rfl
structure EH (W : World) (s : List UInt8) (h : Nat) (row : List Nat) (kd : Nat → Nat) (A : Option Addr) (c g : Nat) : Prop where
 se : SE s h row kd
 cap : s.length + 1 ≤ c
 row : Reads W W.heap.size 1 A (s.length + 1) (ints (splc row))
 kinds : Blk W g 3 (ints (kL kd (s.length + 1))).toArray
theorem EH.below {W W' : World} {s : List UInt8} {h : Nat} {row : List Nat} {kd : Nat → Nat} {A : Option Addr} {c g : Nat} (H : EH W s h row kd A c g) (hb : Below W.heap.size W W') : EH W' s h row kd A c g :=
 ⟨H.se, H.cap, H.row.upto hb, H.kinds.below hb H.kinds.lt⟩
def EF (N : Nat) (A : Option Addr) (g : Nat) : Prop := (∀ ad, A = some ad → N ≤ ad.block) ∧ N ≤ g
theorem EH.set {W : World} {s : List UInt8} {h : Nat} {row : List Nat} {kd : Nat → Nat} {A : Option Addr} {c g N gx : Nat} (H : EH W s h row kd A c g) (hN : EF N A g) (hx : gx < N) (i : Nat) (u : Value) : EH (W.setCell ⟨gx, i, none⟩ u) s h row kd A c g := by
 refine ⟨H.se, H.cap, ⟨H.row.1, fun hn => ?_⟩, H.kinds.far (p := ⟨gx, i, none⟩) (by show g ≠ gx; have := hN.2; omega) u⟩
 obtain ⟨b, off, e, hb, hc⟩ := H.row.2 hn
 have h1 := hN.1 _ e
 refine ⟨b, off, e, by simpa [World.setCell] using hb, fun j v hv => ?_⟩
 rw [World.cell?_setCell_other _ _ _ _ (by intro e2; injection e2 with e3 _; simp only at h1; omega)]
 exact hc j v hv
theorem yaK {s : List UInt8} {M pb : Nat} (hse : SE s 1 (frow s M) (knum (frow s M) (ycM s) s.length)) (hs : s.length ≤ 1000000) (W : World) (k : Nat) (hk : k + 1 < (frow s M).length) (hP : W.cell? ⟨pb, 0, none⟩ = some (.string ⟨s.toArray⟩)) :
  Calls Tryz.prog 116 #[.int .i64 (((frow s M)[k] : Nat) : Int), .int .i64 (((frow s M)[k + 1] : Nat) : Int), .pointer (some ⟨pb, 0, none⟩)] W fun e W' => e = .returned (.bool (ycM s (frow s M)[k] (frow s M)[k + 1])) ∧ ∃ m, W' = W.drewN m := by
 have h1 := (hse.mem _).1 (List.getElem_mem (show k < (frow s M).length by omega))
 have h2 := (hse.mem _).1 (List.getElem_mem hk)
 have hne : (frow s M)[k + 1] ≠ s.length := fun e => by
  have h0 : (frow s M)[0]'(by omega) = s.length := rfl
  have := ybn hse.nodup hk (show 0 < (frow s M).length by omega) (e.trans h0.symm)
  omega
 exact s_same1_any s _ _ pb W h1 (by omega) hs hP
theorem yaU {w10 : World} {g : Nat} {x y z : Value} {u v k : Value} (h : Blk w10 g 114 #[x, y, z]) :
  Blk (((w10.setCell ⟨g, 0, none⟩ u).setCell ⟨g, 1, none⟩ v).setCell ⟨g, 2, none⟩ k) g 114 #[u, v, k] := ((h.set_ 0 u).set_ 1 v).set_ 2 k
theorem yba {w w1 w9 w10 : World} {g gK c : Nat} {A : Option Addr} {s : List UInt8} {h : Nat} {row : List Nat} {kd : Nat → Nat} {u v k : Value} (hg : w.heap.size = g) (hse : SE s h row kd)
  (hF : w9.ownsRow w1.heap.size 3 1 (.slice A (s.length + 1) c) (s.length + 1) (ints (splc row))) (hK : Blk w10 gK 3 (ints (kL kd (s.length + 1))).toArray) (hgK : w9.heap.size ≤ gK) (hb10 : Below w9.heap.size w9 w10)
  (hBw : Below w1.heap.size w1 w9) (hb1 : Below g w w1) (hsz : w1.heap.size = g + 2) :
  ∃ A' c' g' row' kd', Ending.returned (.agg #[.slice A (s.length + 1) c, .slice (some ⟨gK, 0, none⟩) (s.length + 1) (s.length + 1), k]) = Ending.returned (.agg #[.slice A' (s.length + 1) c', .slice (some ⟨g', 0, none⟩) (s.length + 1) (s.length + 1), k]) ∧
   EF w.heap.size A' g' ∧ EH (((w10.setCell ⟨g + 1, 0, none⟩ u).setCell ⟨g + 1, 1, none⟩ v).setCell ⟨g + 1, 2, none⟩ k) s h row' kd' A' c' g' ∧ Below w.heap.size w (((w10.setCell ⟨g + 1, 0, none⟩ u).setCell ⟨g + 1, 1, none⟩ v).setCell ⟨g + 1, 2, none⟩ k) := by
 have hsw := hBw.size
 have h1 := ((ownsRow_setCell_below (ownsRow_setCell_below (ownsRow_setCell_below (yah hF hb10 (Nat.le_refl _)) (a := ⟨g + 1, 0, none⟩) (by show g + 1 < w1.heap.size; omega) u) (a := ⟨g + 1, 1, none⟩) (by show g + 1 < w1.heap.size; omega) v) (a := ⟨g + 1, 2, none⟩) (by show g + 1 < w1.heap.size; omega) k))
 obtain ⟨A8, c8, e8, hc, hr⟩ := yae h1
 injection e8 with e8 _ e9
 subst e8 e9
 refine ⟨_, _, _, row, kd, rfl, ⟨fun ad e => by subst e; have := (h1.lt _ rfl).1; omega, by omega⟩, ⟨hse, hc, hr, ((hK.far (p := ⟨g + 1, 0, none⟩) (by show gK ≠ g + 1; omega) u).far (p := ⟨g + 1, 1, none⟩) (by show gK ≠ g + 1; omega) v).far (p := ⟨g + 1, 2, none⟩) (by show gK ≠ g + 1; omega) k⟩, ?_⟩
 rw [hg]
 have h2 : Below g w w10 := hb1.trans ((hBw.mono (by omega)).trans (hb10.mono (by omega)))
 exact ((h2.setCell (p := ⟨g + 1, 0, none⟩) (by show g ≤ g + 1; omega) u).setCell (p := ⟨g + 1, 1, none⟩) (by show g ≤ g + 1; omega) v).setCell (p := ⟨g + 1, 2, none⟩) (by show g ≤ g + 1; omega) k
set_option maxRecDepth 100000 in
set_option maxHeartbeats 8000000 in
theorem s_first_any (s : List UInt8) (w : World) (hs : s.length ≤ 1000000) :
  Calls Tryz.prog 77 #[.string ⟨s.toArray⟩] w fun e w' => ∃ A c g row kd, e = .returned (.agg #[.slice A (s.length + 1) c, .slice (some ⟨g, 0, none⟩) (s.length + 1) (s.length + 1), .int .i64 1]) ∧ EF w.heap.size A g ∧ EH w' s 1 row kd A c g ∧ Below w.heap.size w w' := by
 obtain ⟨i0, hi, hz0, hz1, hz9⟩ := info_parts yde
 have hmf := s_mkfunc
 have hni : (s.length : Int) ≤ 1000000 := by omega
 have Hlen : Hid (∀ M, (∀ p ∈ List.range s.length, ybf s p < M) → (splc (bks (ybf s) (List.range s.length) M)).length = s.length) := Lib.hid fun M h => by rw [bks_all_len _ _ M h, List.length_range]
 have Hkey : Hid (∀ p ∈ List.range s.length, ybf s p ≤ 255) := Lib.hid fun p _ => by
  have := u8_lt (s.getD p 0)
  unfold ybf
  omega
 have hBx : Blk ((w.alloc (.cells #[.string ⟨s.toArray⟩] 9)).alloc (.cells #[.slice none 0 0, .slice none 0 0, .int .i64 0] 114)) w.heap.size 9 #[.string ⟨s.toArray⟩] := (Blk.new w _ _).alloc _
 have hRs : Blk ((w.alloc (.cells #[.string ⟨s.toArray⟩] 9)).alloc (.cells #[.slice none 0 0, .slice none 0 0, .int .i64 0] 114)) (w.heap.size + 1) 114 #[.slice none 0 0, .slice none 0 0, .int .i64 0] := by
  have := Blk.new (w.alloc (.cells #[.string ⟨s.toArray⟩] 9)) 114 #[.slice none 0 0, .slice none 0 0, .int .i64 0]
  rwa [World.size_alloc] at this
 have hB1 : Below w.heap.size w ((w.alloc (.cells #[.string ⟨s.toArray⟩] 9)).alloc (.cells #[.slice none 0 0, .slice none 0 0, .int .i64 0] 114)) := ((Below.refl _ w).alloc (Nat.le_refl _) _).alloc (by simp) _
 have hsz : ((w.alloc (.cells #[.string ⟨s.toArray⟩] 9)).alloc (.cells #[.slice none 0 0, .slice none 0 0, .int .i64 0] 114)).heap.size = w.heap.size + 2 := by simp
 go_enter Tryz.func77, Tryz.ntmps77
 go_wp2
 generalize (w.alloc (.cells #[.string ⟨s.toArray⟩] 9)).alloc (.cells #[.slice none 0 0, .slice none 0 0, .int .i64 0] 114) = w1 at *
 generalize hg : w.heap.size = g at *
 have HBx : Hid (w1.cell? ⟨g, 0, none⟩ = some (.string ⟨s.toArray⟩)) := Lib.hid (hBx.cell 0)
 have HRs := Lib.hid hRs
 have Hgl := Lib.hid hBx.lt
 have Hb1 := Lib.hid hB1
 have Hsz := Lib.hid hsz
 have HBw := Lib.hid (Below.refl w1.heap.size w1).drew
 clear hBx hRs hB1 hsz
 refine wp_region_held_drew (S := (fun W => W.cell? ⟨g, 0, none⟩ = some (.string ⟨s.toArray⟩))) (by kernel_rfl) ((HBx.out)) (fun hHeld => ?_)
 refine wpAnyH_take (i := 0) (oi := ⟨some 5, Op.load 9 (Operand.tmp 1), 9, _, #[], none⟩) (v := ?_) rfl (by kernel_rfl) (by kernel_rfl) (by kernel_rfl) (fun _ _ _ h => h) (Or.inl ⟨by rfl, ?_⟩) hHeld ?_
 rotate_left
 ·(intro wz hSw; go_simp; try (with_reducible rfl))
 try simp only [Act.put, List.setIfInBounds_toArray, List.set_cons_zero, List.set_cons_succ]
 refine wpAnyH_take (i := 1) (oi := ⟨some 6, Op.call { callee := Callee.builtin Builtin.len, args := #[Operand.tmp 5], argTypes := #[9] }, 3, _, #[{ on := 0, ground := Ground.data }], none⟩) (v := ?_) rfl (by kernel_rfl) (by kernel_rfl) (by kernel_rfl) (fun _ _ _ h => h) (Or.inl ⟨by rfl, ?_⟩) hHeld ?_
 rotate_left
 ·(intro wz hSw; go_simp; try (with_reducible rfl))
 try simp only [Act.put, List.setIfInBounds_toArray, List.set_cons_zero, List.set_cons_succ]
 refine wpAnyH_take (i := 3) (oi := ⟨some 8, Op.load 9 (Operand.tmp 1), 9, _, #[], none⟩) (v := ?_) rfl (by kernel_rfl) (by kernel_rfl) (by kernel_rfl) (fun _ _ _ h => h) (Or.inl ⟨by rfl, ?_⟩) hHeld ?_
 rotate_left
 ·(intro wz hSw; go_simp; try (with_reducible rfl))
 try simp only [Act.put, List.setIfInBounds_toArray, List.set_cons_zero, List.set_cons_succ]
 refine wpAnyH_take (i := 4) (oi := ⟨some 9, Op.call { callee := Callee.builtin Builtin.len, args := #[Operand.tmp 8], argTypes := #[9] }, 3, _, #[{ on := 3, ground := Ground.data }], none⟩) (v := ?_) rfl (by kernel_rfl) (by kernel_rfl) (by kernel_rfl) (fun _ _ _ h => h) (Or.inl ⟨by rfl, ?_⟩) hHeld ?_
 rotate_left
 ·(intro wz hSw; go_simp; try (with_reducible rfl))
 try simp only [Act.put, List.setIfInBounds_toArray, List.set_cons_zero, List.set_cons_succ]
 refine wpAnyH_take (i := 6) (oi := ⟨some 11, Op.load 9 (Operand.tmp 1), 9, _, #[], none⟩) (v := ?_) rfl (by kernel_rfl) (by kernel_rfl) (by kernel_rfl) (fun _ _ _ h => h) (Or.inl ⟨by rfl, ?_⟩) hHeld ?_
 rotate_left
 ·(intro wz hSw; go_simp; try (with_reducible rfl))
 try simp only [Act.put, List.setIfInBounds_toArray, List.set_cons_zero, List.set_cons_succ]
 refine wpAnyH_ready (rs := [2, 5, 7]) (by kernel_rfl) (by simp) ?_
 refine AllReadyH.cons (o := ⟨some 7, Op.buildSlice 28 1 #[(0, Operand.tmp 6)], 28, _, #[{ on := 1, ground := Ground.data }], none⟩) rfl (fun K hK => ?_) ?_
 ·skip
  go_simp
  refine hK.out _ _ (((HBw.out.alloc HBw.out.size (.cells #[.int .i64 (s.length : Int)] 3)).cell (p := ⟨g, 0, none⟩) Hgl.out).trans HBx.out) (fun hH => ?_)
  clear hK K hHeld
  have hHeld := hH
  clear hH
  have HA := Lib.hid (ycd _ (s.length : Int) HBw.out.size)
  try rw [World.size_alloc] at HA
  try (replace HU := Lib.hid (HU.out.below ((Below.refl _ _).alloc (Nat.le_refl _) (.cells #[.int .i64 (s.length : Int)] 3)) HU.out.lt))
  try (replace HR := Lib.hid (HR.out.below ((Below.refl _ _).alloc (Nat.le_refl _) (.cells #[.int .i64 (s.length : Int)] 3)) HR.out.lt))
  try (replace HS := Lib.hid (HS.out.below ((Below.refl _ _).alloc (Nat.le_refl _) (.cells #[.int .i64 (s.length : Int)] 3)) HS.out.lt))
  replace HBw := Lib.hid (HBw.out.alloc HBw.out.size (.cells #[.int .i64 (s.length : Int)] 3))
  try simp only [Act.put, List.setIfInBounds_toArray, List.set_cons_zero, List.set_cons_succ]
  refine wpAnyH_ready (rs := [5, 7]) (by kernel_rfl) (by simp) ?_
  refine AllReadyH.cons (o := ⟨some 10, Op.call { callee := Callee.value (Operand.func 115), args := #[Operand.tmp 9], argTypes := #[3] }, 28, _, #[{ on := 4, ground := Ground.data }], none⟩) rfl (fun K hK => ?_) ?_
  ·skip
   go_simp
   go_at_call 115
   refine (ydl s.length _ (by omega)).mono ?_
   rintro e w5 ⟨gU, rfl, hU, hb1⟩
   try (replace HA := Lib.hid (yah HA.out hb1 (Nat.le_refl _)))
   try (replace HR := Lib.hid (HR.out.below hb1 HR.out.lt))
   have HU := Lib.hid hU
   replace HBw := Lib.hid (HBw.out.trans (hb1.mono HBw.out.size))
   clear hU
   refine hK.out _ _ ((HBw.out.cell (p := ⟨g, 0, none⟩) Hgl.out).trans HBx.out) (fun hH => ?_)
   clear hHeld hK K hb1
   have hHeld := hH
   clear hH
   try simp only [Act.put, List.setIfInBounds_toArray, List.set_cons_zero, List.set_cons_succ]
   refine wpAnyH_ready (rs := [7]) (by kernel_rfl) (by simp) ?_
   refine AllReadyH.cons (o := ⟨some 12, Op.convert 9 36 (Operand.tmp 11), 36, _, #[{ on := 6, ground := Ground.data }], none⟩) rfl (fun K hK => ?_) AllReadyH.nil
   refine ybZ (by rfl) (.tmp 11) _ _ 5 (by rfl) s Tryz.underlying9 Tryz.underlying36 Tryz.underlying5 (by rfl) ?_
   intro gR cR wR hR hgR hb1 hcR
   replace HBw := Lib.hid (HBw.out.trans (hb1.mono HBw.out.size))
   refine hK.out _ _ ((HBw.out.cell (p := ⟨g, 0, none⟩) Hgl.out).trans HBx.out) (fun hH => ?_)
   clear hK K hHeld
   have hHeld := hH
   clear hH
   have HR := Lib.hid hR
   try (replace HA := Lib.hid (yah HA.out hb1 (Nat.le_refl _)))
   try (replace HU := Lib.hid (HU.out.below hb1 HU.out.lt))
   try (replace HS := Lib.hid (HS.out.below hb1 HS.out.lt))
   clear hb1 hgR hcR hR
   try simp only [Act.put, List.setIfInBounds_toArray, List.set_cons_zero, List.set_cons_succ]
   refine wpAnyH_ready (rs := [8]) (by kernel_rfl) (by simp) ?_
   refine AllReadyH.cons (o := ⟨some 13, Op.call { callee := Callee.value (Operand.func 114), args := #[Operand.tmp 10, Operand.tmp 12], argTypes := #[28, 36] }, 28, _, #[{ on := 5, ground := Ground.data }, { on := 7, ground := Ground.data }, { on := 5, ground := Ground.chain }], none⟩) rfl (fun K hK => ?_) AllReadyH.nil
   go_simp
   go_at_call 114
   refine (yaL (List.range s.length) (ybf s) _ _ s.length _ _ _ _ (List.length_range ..) (by omega) Hkey.out (yat HU.out (by rw [yao, List.length_range])) (ybm HR.out)).mono ?_
   rintro e w8 ⟨gS, M, rfl, _, hM, hS, hb1⟩
   try (replace HA := Lib.hid (yah HA.out hb1 (Nat.le_refl _)))
   try (replace HU := Lib.hid (HU.out.below hb1 HU.out.lt))
   try (replace HR := Lib.hid (HR.out.below hb1 HR.out.lt))
   have HS := Lib.hid hS
   have HM := Lib.hid hM
   replace HBw := Lib.hid (HBw.out.trans (hb1.mono HBw.out.size))
   clear hS hM
   refine hK.out _ _ ((HBw.out.cell (p := ⟨g, 0, none⟩) Hgl.out).trans HBx.out) (fun hH => ?_)
   clear hHeld hK K hb1
   have hHeld := hH
   clear hH
   try simp only [Act.put, List.setIfInBounds_toArray, List.set_cons_zero, List.set_cons_succ]
   refine wpAnyH_ready (rs := [9]) (by kernel_rfl) (by simp) ?_
   refine AllReadyH.cons (o := ⟨some 14, Op.call { callee := Callee.builtin Builtin.append, args := #[Operand.tmp 7, Operand.tmp 13], argTypes := #[28, 28] }, 28, _, #[{ on := 2, ground := Ground.data }, { on := 8, ground := Ground.data }, { on := 8, ground := Ground.chain }], none⟩) rfl (fun K hK => ?_) AllReadyH.nil
   refine yac (by rfl) (.tmp 7) (.tmp 13) 28 (by rfl) w1.heap.size 3 i0 _ 1 8 Tryz.underlying28 hi hz0 hz1 hz9 rfl (by decide) _ 1 (ints [(s.length : Int)]) (by rfl) HA.out _ s.length s.length _ (ints (splc (bks (ybf s) (List.range s.length) M))) (by rfl) (yat HS.out (Hlen.out M HM.out)) (ya6 _) (by unfold maxLen; omega) (by omega) HBw.out.size (s.length + 1) (by omega) ?_
   intro A9 c9 w9 ho_ hg_ hs_
   replace HBw := Lib.hid (yaX HBw.out HA.out hg_)
   refine hK.out _ _ ((HBw.out.cell (p := ⟨g, 0, none⟩) Hgl.out).trans HBx.out) (fun hH => ?_)
   clear hK K hHeld
   have hHeld := hH
   clear hH
   have HF : Hid (w9.ownsRow w1.heap.size 3 1 (.slice A9 (s.length + 1) c9) (s.length + 1) (ints (splc (frow s M)))) := Lib.hid (by have := ho_; rw [← yax] at this; exact this)
   clear ho_ hg_ hs_ HA HU HR HS
   try simp only [Act.put, List.setIfInBounds_toArray, List.set_cons_zero, List.set_cons_succ]
   refine wpAnyH_take (i := 10) (oi := ⟨some 3, Op.assign (Operand.tmp 14), 28, _, #[{ on := 9, ground := Ground.data }, { on := 9, ground := Ground.chain }, { on := 0, ground := Ground.phase }, { on := 1, ground := Ground.phase }, { on := 2, ground := Ground.phase }, { on := 3, ground := Ground.phase }, { on := 4, ground := Ground.phase }, { on := 5, ground := Ground.phase }, { on := 6, ground := Ground.phase }, { on := 7, ground := Ground.phase }, { on := 8, ground := Ground.phase }, { on := 9, ground := Ground.phase }], none⟩) (v := ?_) rfl (by kernel_rfl) (by kernel_rfl) (by kernel_rfl) (fun _ _ _ h => h) (Or.inl ⟨by rfl, ?_⟩) hHeld ?_
   rotate_left
   ·(intro wz hSw; go_simp; try (with_reducible rfl))
   try simp only [Act.put, List.setIfInBounds_toArray, List.set_cons_zero, List.set_cons_succ]
   refine wpAnyH_done (by kernel_rfl) ?_ _
   obtain ⟨A8, c8, e8, hc9, hr9⟩ := yae HF.out
   injection e8 with e8 _ e9
   subst e8 e9
   have hse := yco s M HM.out
   have Hnum := Lib.hid (ya4 (frow s M) (ycM s) A9 (s.length + 1) c9 g 116 w9 (fun W hW k hk => yaK hse hs W k hk (((hW.cell (p := ⟨g, 0, none⟩) (Nat.lt_of_lt_of_le Hgl.out HBw.out.size)).trans ((HBw.out.cell (p := ⟨g, 0, none⟩) Hgl.out).trans HBx.out)))) hse.len (by omega) hse.nodup (fun p hp => by have := (hse.mem p).1 hp; omega) hr9 (enters_of Tryz.func116 (by kernel_rfl) rfl))
   have Hr9 := Lib.hid hr9
   have Hse := Lib.hid hse
   have Hc9 := Lib.hid hc9
   have HRs9 := Lib.hid (HRs.out.below HBw.out HRs.out.lt)
   clear hse hr9 hc9 hHeld
   go_wp2_with (go_at_call 117; refine Hnum.out.mono ?_; rintro e w10 ⟨gK, rfl, hgK, hK, hb10⟩; have HRs10 := Lib.hid (HRs9.out.below hb10 HRs9.out.lt); have x0 := HRs10.out.frozen 0; have x1 := HRs10.out.frozen 1; have x2 := HRs10.out.frozen 2; have y0 : w10.cell? ⟨g + 1, 0, none⟩ = some (.slice none 0 0) := HRs10.out.cell 0; have y1 : w10.cell? ⟨g + 1, 1, none⟩ = some (.slice none 0 0) := HRs10.out.cell 1; have y2 : w10.cell? ⟨g + 1, 2, none⟩ = some (.int .i64 0) := HRs10.out.cell 2; have HK := Lib.hid hK; have Hb10 := Lib.hid hb10; have HgK := Lib.hid hgK; clear hK hb10 hgK)
   have hE := yaU (u := .slice A9 (s.length + 1) c9) (v := .slice (some ⟨gK, 0, none⟩) (s.length + 1) (s.length + 1)) (k := .int .i64 1) HRs10.out
   have d0 := hE.cell 0
   have d1 := hE.cell 1
   have d2 := hE.cell 2
   simp only [List.getElem?_toArray, List.getElem?_cons_zero, List.getElem?_cons_succ] at d0 d1 d2
   refine bodyPost_ret (v := .agg #[.slice A9 (s.length + 1) c9, .slice (some ⟨gK, 0, none⟩) (s.length + 1) (s.length + 1), .int .i64 1]) (by simp [results, Tryz.results77, go_sem, d0, d1, d2]) rfl ?_
   exact yba hg Hse.out HF.out HK.out HgK.out Hb10.out HBw.out Hb1.out Hsz.out
  refine AllReadyH.cons (o := ⟨some 12, Op.convert 9 36 (Operand.tmp 11), 36, _, #[{ on := 6, ground := Ground.data }], none⟩) rfl (fun K hK => ?_) AllReadyH.nil
  refine ybZ (by rfl) (.tmp 11) _ _ 5 (by rfl) s Tryz.underlying9 Tryz.underlying36 Tryz.underlying5 (by rfl) ?_
  intro gR cR wR hR hgR hb1 hcR
  replace HBw := Lib.hid (HBw.out.trans (hb1.mono HBw.out.size))
  refine hK.out _ _ ((HBw.out.cell (p := ⟨g, 0, none⟩) Hgl.out).trans HBx.out) (fun hH => ?_)
  clear hK K hHeld
  have hHeld := hH
  clear hH
  have HR := Lib.hid hR
  try (replace HA := Lib.hid (yah HA.out hb1 (Nat.le_refl _)))
  try (replace HU := Lib.hid (HU.out.below hb1 HU.out.lt))
  try (replace HS := Lib.hid (HS.out.below hb1 HS.out.lt))
  clear hb1 hgR hcR hR
  try simp only [Act.put, List.setIfInBounds_toArray, List.set_cons_zero, List.set_cons_succ]
  refine wpAnyH_ready (rs := [5]) (by kernel_rfl) (by simp) ?_
  refine AllReadyH.cons (o := ⟨some 10, Op.call { callee := Callee.value (Operand.func 115), args := #[Operand.tmp 9], argTypes := #[3] }, 28, _, #[{ on := 4, ground := Ground.data }], none⟩) rfl (fun K hK => ?_) AllReadyH.nil
  go_simp
  go_at_call 115
  refine (ydl s.length _ (by omega)).mono ?_
  rintro e w5 ⟨gU, rfl, hU, hb1⟩
  try (replace HA := Lib.hid (yah HA.out hb1 (Nat.le_refl _)))
  try (replace HR := Lib.hid (HR.out.below hb1 HR.out.lt))
  have HU := Lib.hid hU
  replace HBw := Lib.hid (HBw.out.trans (hb1.mono HBw.out.size))
  clear hU
  refine hK.out _ _ ((HBw.out.cell (p := ⟨g, 0, none⟩) Hgl.out).trans HBx.out) (fun hH => ?_)
  clear hHeld hK K hb1
  have hHeld := hH
  clear hH
  try simp only [Act.put, List.setIfInBounds_toArray, List.set_cons_zero, List.set_cons_succ]
  refine wpAnyH_ready (rs := [8]) (by kernel_rfl) (by simp) ?_
  refine AllReadyH.cons (o := ⟨some 13, Op.call { callee := Callee.value (Operand.func 114), args := #[Operand.tmp 10, Operand.tmp 12], argTypes := #[28, 36] }, 28, _, #[{ on := 5, ground := Ground.data }, { on := 7, ground := Ground.data }, { on := 5, ground := Ground.chain }], none⟩) rfl (fun K hK => ?_) AllReadyH.nil
  go_simp
  go_at_call 114
  refine (yaL (List.range s.length) (ybf s) _ _ s.length _ _ _ _ (List.length_range ..) (by omega) Hkey.out (yat HU.out (by rw [yao, List.length_range])) (ybm HR.out)).mono ?_
  rintro e w8 ⟨gS, M, rfl, _, hM, hS, hb1⟩
  try (replace HA := Lib.hid (yah HA.out hb1 (Nat.le_refl _)))
  try (replace HU := Lib.hid (HU.out.below hb1 HU.out.lt))
  try (replace HR := Lib.hid (HR.out.below hb1 HR.out.lt))
  have HS := Lib.hid hS
  have HM := Lib.hid hM
  replace HBw := Lib.hid (HBw.out.trans (hb1.mono HBw.out.size))
  clear hS hM
  refine hK.out _ _ ((HBw.out.cell (p := ⟨g, 0, none⟩) Hgl.out).trans HBx.out) (fun hH => ?_)
  clear hHeld hK K hb1
  have hHeld := hH
  clear hH
  try simp only [Act.put, List.setIfInBounds_toArray, List.set_cons_zero, List.set_cons_succ]
  refine wpAnyH_ready (rs := [9]) (by kernel_rfl) (by simp) ?_
  refine AllReadyH.cons (o := ⟨some 14, Op.call { callee := Callee.builtin Builtin.append, args := #[Operand.tmp 7, Operand.tmp 13], argTypes := #[28, 28] }, 28, _, #[{ on := 2, ground := Ground.data }, { on := 8, ground := Ground.data }, { on := 8, ground := Ground.chain }], none⟩) rfl (fun K hK => ?_) AllReadyH.nil
  refine yac (by rfl) (.tmp 7) (.tmp 13) 28 (by rfl) w1.heap.size 3 i0 _ 1 8 Tryz.underlying28 hi hz0 hz1 hz9 rfl (by decide) _ 1 (ints [(s.length : Int)]) (by rfl) HA.out _ s.length s.length _ (ints (splc (bks (ybf s) (List.range s.length) M))) (by rfl) (yat HS.out (Hlen.out M HM.out)) (ya6 _) (by unfold maxLen; omega) (by omega) HBw.out.size (s.length + 1) (by omega) ?_
  intro A9 c9 w9 ho_ hg_ hs_
  replace HBw := Lib.hid (yaX HBw.out HA.out hg_)
  refine hK.out _ _ ((HBw.out.cell (p := ⟨g, 0, none⟩) Hgl.out).trans HBx.out) (fun hH => ?_)
  clear hK K hHeld
  have hHeld := hH
  clear hH
  have HF : Hid (w9.ownsRow w1.heap.size 3 1 (.slice A9 (s.length + 1) c9) (s.length + 1) (ints (splc (frow s M)))) := Lib.hid (by have := ho_; rw [← yax] at this; exact this)
  clear ho_ hg_ hs_ HA HU HR HS
  try simp only [Act.put, List.setIfInBounds_toArray, List.set_cons_zero, List.set_cons_succ]
  refine wpAnyH_take (i := 10) (oi := ⟨some 3, Op.assign (Operand.tmp 14), 28, _, #[{ on := 9, ground := Ground.data }, { on := 9, ground := Ground.chain }, { on := 0, ground := Ground.phase }, { on := 1, ground := Ground.phase }, { on := 2, ground := Ground.phase }, { on := 3, ground := Ground.phase }, { on := 4, ground := Ground.phase }, { on := 5, ground := Ground.phase }, { on := 6, ground := Ground.phase }, { on := 7, ground := Ground.phase }, { on := 8, ground := Ground.phase }, { on := 9, ground := Ground.phase }], none⟩) (v := ?_) rfl (by kernel_rfl) (by kernel_rfl) (by kernel_rfl) (fun _ _ _ h => h) (Or.inl ⟨by rfl, ?_⟩) hHeld ?_
  rotate_left
  ·(intro wz hSw; go_simp; try (with_reducible rfl))
  try simp only [Act.put, List.setIfInBounds_toArray, List.set_cons_zero, List.set_cons_succ]
  refine wpAnyH_done (by kernel_rfl) ?_ _
  obtain ⟨A8, c8, e8, hc9, hr9⟩ := yae HF.out
  injection e8 with e8 _ e9
  subst e8 e9
  have hse := yco s M HM.out
  have Hnum := Lib.hid (ya4 (frow s M) (ycM s) A9 (s.length + 1) c9 g 116 w9 (fun W hW k hk => yaK hse hs W k hk (((hW.cell (p := ⟨g, 0, none⟩) (Nat.lt_of_lt_of_le Hgl.out HBw.out.size)).trans ((HBw.out.cell (p := ⟨g, 0, none⟩) Hgl.out).trans HBx.out)))) hse.len (by omega) hse.nodup (fun p hp => by have := (hse.mem p).1 hp; omega) hr9 (enters_of Tryz.func116 (by kernel_rfl) rfl))
  have Hr9 := Lib.hid hr9
  have Hse := Lib.hid hse
  have Hc9 := Lib.hid hc9
  have HRs9 := Lib.hid (HRs.out.below HBw.out HRs.out.lt)
  clear hse hr9 hc9 hHeld
  go_wp2_with (go_at_call 117; refine Hnum.out.mono ?_; rintro e w10 ⟨gK, rfl, hgK, hK, hb10⟩; have HRs10 := Lib.hid (HRs9.out.below hb10 HRs9.out.lt); have x0 := HRs10.out.frozen 0; have x1 := HRs10.out.frozen 1; have x2 := HRs10.out.frozen 2; have y0 : w10.cell? ⟨g + 1, 0, none⟩ = some (.slice none 0 0) := HRs10.out.cell 0; have y1 : w10.cell? ⟨g + 1, 1, none⟩ = some (.slice none 0 0) := HRs10.out.cell 1; have y2 : w10.cell? ⟨g + 1, 2, none⟩ = some (.int .i64 0) := HRs10.out.cell 2; have HK := Lib.hid hK; have Hb10 := Lib.hid hb10; have HgK := Lib.hid hgK; clear hK hb10 hgK)
  have hE := yaU (u := .slice A9 (s.length + 1) c9) (v := .slice (some ⟨gK, 0, none⟩) (s.length + 1) (s.length + 1)) (k := .int .i64 1) HRs10.out
  have d0 := hE.cell 0
  have d1 := hE.cell 1
  have d2 := hE.cell 2
  simp only [List.getElem?_toArray, List.getElem?_cons_zero, List.getElem?_cons_succ] at d0 d1 d2
  refine bodyPost_ret (v := .agg #[.slice A9 (s.length + 1) c9, .slice (some ⟨gK, 0, none⟩) (s.length + 1) (s.length + 1), .int .i64 1]) (by simp [results, Tryz.results77, go_sem, d0, d1, d2]) rfl ?_
  exact yba hg Hse.out HF.out HK.out HgK.out Hb10.out HBw.out Hb1.out Hsz.out
 refine AllReadyH.cons (o := ⟨some 10, Op.call { callee := Callee.value (Operand.func 115), args := #[Operand.tmp 9], argTypes := #[3] }, 28, _, #[{ on := 4, ground := Ground.data }], none⟩) rfl (fun K hK => ?_) ?_
 ·skip
  go_simp
  go_at_call 115
  refine (ydl s.length _ (by omega)).mono ?_
  rintro e w5 ⟨gU, rfl, hU, hb1⟩
  try (replace HA := Lib.hid (yah HA.out hb1 (Nat.le_refl _)))
  try (replace HR := Lib.hid (HR.out.below hb1 HR.out.lt))
  have HU := Lib.hid hU
  replace HBw := Lib.hid (HBw.out.trans (hb1.mono HBw.out.size))
  clear hU
  refine hK.out _ _ ((HBw.out.cell (p := ⟨g, 0, none⟩) Hgl.out).trans HBx.out) (fun hH => ?_)
  clear hHeld hK K hb1
  have hHeld := hH
  clear hH
  try simp only [Act.put, List.setIfInBounds_toArray, List.set_cons_zero, List.set_cons_succ]
  refine wpAnyH_ready (rs := [2, 7]) (by kernel_rfl) (by simp) ?_
  refine AllReadyH.cons (o := ⟨some 7, Op.buildSlice 28 1 #[(0, Operand.tmp 6)], 28, _, #[{ on := 1, ground := Ground.data }], none⟩) rfl (fun K hK => ?_) ?_
  ·skip
   go_simp
   refine hK.out _ _ (((HBw.out.alloc HBw.out.size (.cells #[.int .i64 (s.length : Int)] 3)).cell (p := ⟨g, 0, none⟩) Hgl.out).trans HBx.out) (fun hH => ?_)
   clear hK K hHeld
   have hHeld := hH
   clear hH
   have HA := Lib.hid (ycd _ (s.length : Int) HBw.out.size)
   try rw [World.size_alloc] at HA
   try (replace HU := Lib.hid (HU.out.below ((Below.refl _ _).alloc (Nat.le_refl _) (.cells #[.int .i64 (s.length : Int)] 3)) HU.out.lt))
   try (replace HR := Lib.hid (HR.out.below ((Below.refl _ _).alloc (Nat.le_refl _) (.cells #[.int .i64 (s.length : Int)] 3)) HR.out.lt))
   try (replace HS := Lib.hid (HS.out.below ((Below.refl _ _).alloc (Nat.le_refl _) (.cells #[.int .i64 (s.length : Int)] 3)) HS.out.lt))
   replace HBw := Lib.hid (HBw.out.alloc HBw.out.size (.cells #[.int .i64 (s.length : Int)] 3))
   try simp only [Act.put, List.setIfInBounds_toArray, List.set_cons_zero, List.set_cons_succ]
   refine wpAnyH_ready (rs := [7]) (by kernel_rfl) (by simp) ?_
   refine AllReadyH.cons (o := ⟨some 12, Op.convert 9 36 (Operand.tmp 11), 36, _, #[{ on := 6, ground := Ground.data }], none⟩) rfl (fun K hK => ?_) AllReadyH.nil
   refine ybZ (by rfl) (.tmp 11) _ _ 5 (by rfl) s Tryz.underlying9 Tryz.underlying36 Tryz.underlying5 (by rfl) ?_
   intro gR cR wR hR hgR hb1 hcR
   replace HBw := Lib.hid (HBw.out.trans (hb1.mono HBw.out.size))
   refine hK.out _ _ ((HBw.out.cell (p := ⟨g, 0, none⟩) Hgl.out).trans HBx.out) (fun hH => ?_)
   clear hK K hHeld
   have hHeld := hH
   clear hH
   have HR := Lib.hid hR
   try (replace HA := Lib.hid (yah HA.out hb1 (Nat.le_refl _)))
   try (replace HU := Lib.hid (HU.out.below hb1 HU.out.lt))
   try (replace HS := Lib.hid (HS.out.below hb1 HS.out.lt))
   clear hb1 hgR hcR hR
   try simp only [Act.put, List.setIfInBounds_toArray, List.set_cons_zero, List.set_cons_succ]
   refine wpAnyH_ready (rs := [8]) (by kernel_rfl) (by simp) ?_
   refine AllReadyH.cons (o := ⟨some 13, Op.call { callee := Callee.value (Operand.func 114), args := #[Operand.tmp 10, Operand.tmp 12], argTypes := #[28, 36] }, 28, _, #[{ on := 5, ground := Ground.data }, { on := 7, ground := Ground.data }, { on := 5, ground := Ground.chain }], none⟩) rfl (fun K hK => ?_) AllReadyH.nil
   go_simp
   go_at_call 114
   refine (yaL (List.range s.length) (ybf s) _ _ s.length _ _ _ _ (List.length_range ..) (by omega) Hkey.out (yat HU.out (by rw [yao, List.length_range])) (ybm HR.out)).mono ?_
   rintro e w8 ⟨gS, M, rfl, _, hM, hS, hb1⟩
   try (replace HA := Lib.hid (yah HA.out hb1 (Nat.le_refl _)))
   try (replace HU := Lib.hid (HU.out.below hb1 HU.out.lt))
   try (replace HR := Lib.hid (HR.out.below hb1 HR.out.lt))
   have HS := Lib.hid hS
   have HM := Lib.hid hM
   replace HBw := Lib.hid (HBw.out.trans (hb1.mono HBw.out.size))
   clear hS hM
   refine hK.out _ _ ((HBw.out.cell (p := ⟨g, 0, none⟩) Hgl.out).trans HBx.out) (fun hH => ?_)
   clear hHeld hK K hb1
   have hHeld := hH
   clear hH
   try simp only [Act.put, List.setIfInBounds_toArray, List.set_cons_zero, List.set_cons_succ]
   refine wpAnyH_ready (rs := [9]) (by kernel_rfl) (by simp) ?_
   refine AllReadyH.cons (o := ⟨some 14, Op.call { callee := Callee.builtin Builtin.append, args := #[Operand.tmp 7, Operand.tmp 13], argTypes := #[28, 28] }, 28, _, #[{ on := 2, ground := Ground.data }, { on := 8, ground := Ground.data }, { on := 8, ground := Ground.chain }], none⟩) rfl (fun K hK => ?_) AllReadyH.nil
   refine yac (by rfl) (.tmp 7) (.tmp 13) 28 (by rfl) w1.heap.size 3 i0 _ 1 8 Tryz.underlying28 hi hz0 hz1 hz9 rfl (by decide) _ 1 (ints [(s.length : Int)]) (by rfl) HA.out _ s.length s.length _ (ints (splc (bks (ybf s) (List.range s.length) M))) (by rfl) (yat HS.out (Hlen.out M HM.out)) (ya6 _) (by unfold maxLen; omega) (by omega) HBw.out.size (s.length + 1) (by omega) ?_
   intro A9 c9 w9 ho_ hg_ hs_
   replace HBw := Lib.hid (yaX HBw.out HA.out hg_)
   refine hK.out _ _ ((HBw.out.cell (p := ⟨g, 0, none⟩) Hgl.out).trans HBx.out) (fun hH => ?_)
   clear hK K hHeld
   have hHeld := hH
   clear hH
   have HF : Hid (w9.ownsRow w1.heap.size 3 1 (.slice A9 (s.length + 1) c9) (s.length + 1) (ints (splc (frow s M)))) := Lib.hid (by have := ho_; rw [← yax] at this; exact this)
   clear ho_ hg_ hs_ HA HU HR HS
   try simp only [Act.put, List.setIfInBounds_toArray, List.set_cons_zero, List.set_cons_succ]
   refine wpAnyH_take (i := 10) (oi := ⟨some 3, Op.assign (Operand.tmp 14), 28, _, #[{ on := 9, ground := Ground.data }, { on := 9, ground := Ground.chain }, { on := 0, ground := Ground.phase }, { on := 1, ground := Ground.phase }, { on := 2, ground := Ground.phase }, { on := 3, ground := Ground.phase }, { on := 4, ground := Ground.phase }, { on := 5, ground := Ground.phase }, { on := 6, ground := Ground.phase }, { on := 7, ground := Ground.phase }, { on := 8, ground := Ground.phase }, { on := 9, ground := Ground.phase }], none⟩) (v := ?_) rfl (by kernel_rfl) (by kernel_rfl) (by kernel_rfl) (fun _ _ _ h => h) (Or.inl ⟨by rfl, ?_⟩) hHeld ?_
   rotate_left
   ·(intro wz hSw; go_simp; try (with_reducible rfl))
   try simp only [Act.put, List.setIfInBounds_toArray, List.set_cons_zero, List.set_cons_succ]
   refine wpAnyH_done (by kernel_rfl) ?_ _
   obtain ⟨A8, c8, e8, hc9, hr9⟩ := yae HF.out
   injection e8 with e8 _ e9
   subst e8 e9
   have hse := yco s M HM.out
   have Hnum := Lib.hid (ya4 (frow s M) (ycM s) A9 (s.length + 1) c9 g 116 w9 (fun W hW k hk => yaK hse hs W k hk (((hW.cell (p := ⟨g, 0, none⟩) (Nat.lt_of_lt_of_le Hgl.out HBw.out.size)).trans ((HBw.out.cell (p := ⟨g, 0, none⟩) Hgl.out).trans HBx.out)))) hse.len (by omega) hse.nodup (fun p hp => by have := (hse.mem p).1 hp; omega) hr9 (enters_of Tryz.func116 (by kernel_rfl) rfl))
   have Hr9 := Lib.hid hr9
   have Hse := Lib.hid hse
   have Hc9 := Lib.hid hc9
   have HRs9 := Lib.hid (HRs.out.below HBw.out HRs.out.lt)
   clear hse hr9 hc9 hHeld
   go_wp2_with (go_at_call 117; refine Hnum.out.mono ?_; rintro e w10 ⟨gK, rfl, hgK, hK, hb10⟩; have HRs10 := Lib.hid (HRs9.out.below hb10 HRs9.out.lt); have x0 := HRs10.out.frozen 0; have x1 := HRs10.out.frozen 1; have x2 := HRs10.out.frozen 2; have y0 : w10.cell? ⟨g + 1, 0, none⟩ = some (.slice none 0 0) := HRs10.out.cell 0; have y1 : w10.cell? ⟨g + 1, 1, none⟩ = some (.slice none 0 0) := HRs10.out.cell 1; have y2 : w10.cell? ⟨g + 1, 2, none⟩ = some (.int .i64 0) := HRs10.out.cell 2; have HK := Lib.hid hK; have Hb10 := Lib.hid hb10; have HgK := Lib.hid hgK; clear hK hb10 hgK)
   have hE := yaU (u := .slice A9 (s.length + 1) c9) (v := .slice (some ⟨gK, 0, none⟩) (s.length + 1) (s.length + 1)) (k := .int .i64 1) HRs10.out
   have d0 := hE.cell 0
   have d1 := hE.cell 1
   have d2 := hE.cell 2
   simp only [List.getElem?_toArray, List.getElem?_cons_zero, List.getElem?_cons_succ] at d0 d1 d2
   refine bodyPost_ret (v := .agg #[.slice A9 (s.length + 1) c9, .slice (some ⟨gK, 0, none⟩) (s.length + 1) (s.length + 1), .int .i64 1]) (by simp [results, Tryz.results77, go_sem, d0, d1, d2]) rfl ?_
   exact yba hg Hse.out HF.out HK.out HgK.out Hb10.out HBw.out Hb1.out Hsz.out
  refine AllReadyH.cons (o := ⟨some 12, Op.convert 9 36 (Operand.tmp 11), 36, _, #[{ on := 6, ground := Ground.data }], none⟩) rfl (fun K hK => ?_) AllReadyH.nil
  refine ybZ (by rfl) (.tmp 11) _ _ 5 (by rfl) s Tryz.underlying9 Tryz.underlying36 Tryz.underlying5 (by rfl) ?_
  intro gR cR wR hR hgR hb1 hcR
  replace HBw := Lib.hid (HBw.out.trans (hb1.mono HBw.out.size))
  refine hK.out _ _ ((HBw.out.cell (p := ⟨g, 0, none⟩) Hgl.out).trans HBx.out) (fun hH => ?_)
  clear hK K hHeld
  have hHeld := hH
  clear hH
  have HR := Lib.hid hR
  try (replace HA := Lib.hid (yah HA.out hb1 (Nat.le_refl _)))
  try (replace HU := Lib.hid (HU.out.below hb1 HU.out.lt))
  try (replace HS := Lib.hid (HS.out.below hb1 HS.out.lt))
  clear hb1 hgR hcR hR
  try simp only [Act.put, List.setIfInBounds_toArray, List.set_cons_zero, List.set_cons_succ]
  refine wpAnyH_ready (rs := [2, 8]) (by kernel_rfl) (by simp) ?_
  refine AllReadyH.cons (o := ⟨some 7, Op.buildSlice 28 1 #[(0, Operand.tmp 6)], 28, _, #[{ on := 1, ground := Ground.data }], none⟩) rfl (fun K hK => ?_) ?_
  ·skip
   go_simp
   refine hK.out _ _ (((HBw.out.alloc HBw.out.size (.cells #[.int .i64 (s.length : Int)] 3)).cell (p := ⟨g, 0, none⟩) Hgl.out).trans HBx.out) (fun hH => ?_)
   clear hK K hHeld
   have hHeld := hH
   clear hH
   have HA := Lib.hid (ycd _ (s.length : Int) HBw.out.size)
   try rw [World.size_alloc] at HA
   try (replace HU := Lib.hid (HU.out.below ((Below.refl _ _).alloc (Nat.le_refl _) (.cells #[.int .i64 (s.length : Int)] 3)) HU.out.lt))
   try (replace HR := Lib.hid (HR.out.below ((Below.refl _ _).alloc (Nat.le_refl _) (.cells #[.int .i64 (s.length : Int)] 3)) HR.out.lt))
   try (replace HS := Lib.hid (HS.out.below ((Below.refl _ _).alloc (Nat.le_refl _) (.cells #[.int .i64 (s.length : Int)] 3)) HS.out.lt))
   replace HBw := Lib.hid (HBw.out.alloc HBw.out.size (.cells #[.int .i64 (s.length : Int)] 3))
   try simp only [Act.put, List.setIfInBounds_toArray, List.set_cons_zero, List.set_cons_succ]
   refine wpAnyH_ready (rs := [8]) (by kernel_rfl) (by simp) ?_
   refine AllReadyH.cons (o := ⟨some 13, Op.call { callee := Callee.value (Operand.func 114), args := #[Operand.tmp 10, Operand.tmp 12], argTypes := #[28, 36] }, 28, _, #[{ on := 5, ground := Ground.data }, { on := 7, ground := Ground.data }, { on := 5, ground := Ground.chain }], none⟩) rfl (fun K hK => ?_) AllReadyH.nil
   go_simp
   go_at_call 114
   refine (yaL (List.range s.length) (ybf s) _ _ s.length _ _ _ _ (List.length_range ..) (by omega) Hkey.out (yat HU.out (by rw [yao, List.length_range])) (ybm HR.out)).mono ?_
   rintro e w8 ⟨gS, M, rfl, _, hM, hS, hb1⟩
   try (replace HA := Lib.hid (yah HA.out hb1 (Nat.le_refl _)))
   try (replace HU := Lib.hid (HU.out.below hb1 HU.out.lt))
   try (replace HR := Lib.hid (HR.out.below hb1 HR.out.lt))
   have HS := Lib.hid hS
   have HM := Lib.hid hM
   replace HBw := Lib.hid (HBw.out.trans (hb1.mono HBw.out.size))
   clear hS hM
   refine hK.out _ _ ((HBw.out.cell (p := ⟨g, 0, none⟩) Hgl.out).trans HBx.out) (fun hH => ?_)
   clear hHeld hK K hb1
   have hHeld := hH
   clear hH
   try simp only [Act.put, List.setIfInBounds_toArray, List.set_cons_zero, List.set_cons_succ]
   refine wpAnyH_ready (rs := [9]) (by kernel_rfl) (by simp) ?_
   refine AllReadyH.cons (o := ⟨some 14, Op.call { callee := Callee.builtin Builtin.append, args := #[Operand.tmp 7, Operand.tmp 13], argTypes := #[28, 28] }, 28, _, #[{ on := 2, ground := Ground.data }, { on := 8, ground := Ground.data }, { on := 8, ground := Ground.chain }], none⟩) rfl (fun K hK => ?_) AllReadyH.nil
   refine yac (by rfl) (.tmp 7) (.tmp 13) 28 (by rfl) w1.heap.size 3 i0 _ 1 8 Tryz.underlying28 hi hz0 hz1 hz9 rfl (by decide) _ 1 (ints [(s.length : Int)]) (by rfl) HA.out _ s.length s.length _ (ints (splc (bks (ybf s) (List.range s.length) M))) (by rfl) (yat HS.out (Hlen.out M HM.out)) (ya6 _) (by unfold maxLen; omega) (by omega) HBw.out.size (s.length + 1) (by omega) ?_
   intro A9 c9 w9 ho_ hg_ hs_
   replace HBw := Lib.hid (yaX HBw.out HA.out hg_)
   refine hK.out _ _ ((HBw.out.cell (p := ⟨g, 0, none⟩) Hgl.out).trans HBx.out) (fun hH => ?_)
   clear hK K hHeld
   have hHeld := hH
   clear hH
   have HF : Hid (w9.ownsRow w1.heap.size 3 1 (.slice A9 (s.length + 1) c9) (s.length + 1) (ints (splc (frow s M)))) := Lib.hid (by have := ho_; rw [← yax] at this; exact this)
   clear ho_ hg_ hs_ HA HU HR HS
   try simp only [Act.put, List.setIfInBounds_toArray, List.set_cons_zero, List.set_cons_succ]
   refine wpAnyH_take (i := 10) (oi := ⟨some 3, Op.assign (Operand.tmp 14), 28, _, #[{ on := 9, ground := Ground.data }, { on := 9, ground := Ground.chain }, { on := 0, ground := Ground.phase }, { on := 1, ground := Ground.phase }, { on := 2, ground := Ground.phase }, { on := 3, ground := Ground.phase }, { on := 4, ground := Ground.phase }, { on := 5, ground := Ground.phase }, { on := 6, ground := Ground.phase }, { on := 7, ground := Ground.phase }, { on := 8, ground := Ground.phase }, { on := 9, ground := Ground.phase }], none⟩) (v := ?_) rfl (by kernel_rfl) (by kernel_rfl) (by kernel_rfl) (fun _ _ _ h => h) (Or.inl ⟨by rfl, ?_⟩) hHeld ?_
   rotate_left
   ·(intro wz hSw; go_simp; try (with_reducible rfl))
   try simp only [Act.put, List.setIfInBounds_toArray, List.set_cons_zero, List.set_cons_succ]
   refine wpAnyH_done (by kernel_rfl) ?_ _
   obtain ⟨A8, c8, e8, hc9, hr9⟩ := yae HF.out
   injection e8 with e8 _ e9
   subst e8 e9
   have hse := yco s M HM.out
   have Hnum := Lib.hid (ya4 (frow s M) (ycM s) A9 (s.length + 1) c9 g 116 w9 (fun W hW k hk => yaK hse hs W k hk (((hW.cell (p := ⟨g, 0, none⟩) (Nat.lt_of_lt_of_le Hgl.out HBw.out.size)).trans ((HBw.out.cell (p := ⟨g, 0, none⟩) Hgl.out).trans HBx.out)))) hse.len (by omega) hse.nodup (fun p hp => by have := (hse.mem p).1 hp; omega) hr9 (enters_of Tryz.func116 (by kernel_rfl) rfl))
   have Hr9 := Lib.hid hr9
   have Hse := Lib.hid hse
   have Hc9 := Lib.hid hc9
   have HRs9 := Lib.hid (HRs.out.below HBw.out HRs.out.lt)
   clear hse hr9 hc9 hHeld
   go_wp2_with (go_at_call 117; refine Hnum.out.mono ?_; rintro e w10 ⟨gK, rfl, hgK, hK, hb10⟩; have HRs10 := Lib.hid (HRs9.out.below hb10 HRs9.out.lt); have x0 := HRs10.out.frozen 0; have x1 := HRs10.out.frozen 1; have x2 := HRs10.out.frozen 2; have y0 : w10.cell? ⟨g + 1, 0, none⟩ = some (.slice none 0 0) := HRs10.out.cell 0; have y1 : w10.cell? ⟨g + 1, 1, none⟩ = some (.slice none 0 0) := HRs10.out.cell 1; have y2 : w10.cell? ⟨g + 1, 2, none⟩ = some (.int .i64 0) := HRs10.out.cell 2; have HK := Lib.hid hK; have Hb10 := Lib.hid hb10; have HgK := Lib.hid hgK; clear hK hb10 hgK)
   have hE := yaU (u := .slice A9 (s.length + 1) c9) (v := .slice (some ⟨gK, 0, none⟩) (s.length + 1) (s.length + 1)) (k := .int .i64 1) HRs10.out
   have d0 := hE.cell 0
   have d1 := hE.cell 1
   have d2 := hE.cell 2
   simp only [List.getElem?_toArray, List.getElem?_cons_zero, List.getElem?_cons_succ] at d0 d1 d2
   refine bodyPost_ret (v := .agg #[.slice A9 (s.length + 1) c9, .slice (some ⟨gK, 0, none⟩) (s.length + 1) (s.length + 1), .int .i64 1]) (by simp [results, Tryz.results77, go_sem, d0, d1, d2]) rfl ?_
   exact yba hg Hse.out HF.out HK.out HgK.out Hb10.out HBw.out Hb1.out Hsz.out
  refine AllReadyH.cons (o := ⟨some 13, Op.call { callee := Callee.value (Operand.func 114), args := #[Operand.tmp 10, Operand.tmp 12], argTypes := #[28, 36] }, 28, _, #[{ on := 5, ground := Ground.data }, { on := 7, ground := Ground.data }, { on := 5, ground := Ground.chain }], none⟩) rfl (fun K hK => ?_) AllReadyH.nil
  go_simp
  go_at_call 114
  refine (yaL (List.range s.length) (ybf s) _ _ s.length _ _ _ _ (List.length_range ..) (by omega) Hkey.out (yat HU.out (by rw [yao, List.length_range])) (ybm HR.out)).mono ?_
  rintro e w8 ⟨gS, M, rfl, _, hM, hS, hb1⟩
  try (replace HA := Lib.hid (yah HA.out hb1 (Nat.le_refl _)))
  try (replace HU := Lib.hid (HU.out.below hb1 HU.out.lt))
  try (replace HR := Lib.hid (HR.out.below hb1 HR.out.lt))
  have HS := Lib.hid hS
  have HM := Lib.hid hM
  replace HBw := Lib.hid (HBw.out.trans (hb1.mono HBw.out.size))
  clear hS hM
  refine hK.out _ _ ((HBw.out.cell (p := ⟨g, 0, none⟩) Hgl.out).trans HBx.out) (fun hH => ?_)
  clear hHeld hK K hb1
  have hHeld := hH
  clear hH
  try simp only [Act.put, List.setIfInBounds_toArray, List.set_cons_zero, List.set_cons_succ]
  refine wpAnyH_ready (rs := [2]) (by kernel_rfl) (by simp) ?_
  refine AllReadyH.cons (o := ⟨some 7, Op.buildSlice 28 1 #[(0, Operand.tmp 6)], 28, _, #[{ on := 1, ground := Ground.data }], none⟩) rfl (fun K hK => ?_) AllReadyH.nil
  go_simp
  refine hK.out _ _ (((HBw.out.alloc HBw.out.size (.cells #[.int .i64 (s.length : Int)] 3)).cell (p := ⟨g, 0, none⟩) Hgl.out).trans HBx.out) (fun hH => ?_)
  clear hK K hHeld
  have hHeld := hH
  clear hH
  have HA := Lib.hid (ycd _ (s.length : Int) HBw.out.size)
  try rw [World.size_alloc] at HA
  try (replace HU := Lib.hid (HU.out.below ((Below.refl _ _).alloc (Nat.le_refl _) (.cells #[.int .i64 (s.length : Int)] 3)) HU.out.lt))
  try (replace HR := Lib.hid (HR.out.below ((Below.refl _ _).alloc (Nat.le_refl _) (.cells #[.int .i64 (s.length : Int)] 3)) HR.out.lt))
  try (replace HS := Lib.hid (HS.out.below ((Below.refl _ _).alloc (Nat.le_refl _) (.cells #[.int .i64 (s.length : Int)] 3)) HS.out.lt))
  replace HBw := Lib.hid (HBw.out.alloc HBw.out.size (.cells #[.int .i64 (s.length : Int)] 3))
  try simp only [Act.put, List.setIfInBounds_toArray, List.set_cons_zero, List.set_cons_succ]
  refine wpAnyH_ready (rs := [9]) (by kernel_rfl) (by simp) ?_
  refine AllReadyH.cons (o := ⟨some 14, Op.call { callee := Callee.builtin Builtin.append, args := #[Operand.tmp 7, Operand.tmp 13], argTypes := #[28, 28] }, 28, _, #[{ on := 2, ground := Ground.data }, { on := 8, ground := Ground.data }, { on := 8, ground := Ground.chain }], none⟩) rfl (fun K hK => ?_) AllReadyH.nil
  refine yac (by rfl) (.tmp 7) (.tmp 13) 28 (by rfl) w1.heap.size 3 i0 _ 1 8 Tryz.underlying28 hi hz0 hz1 hz9 rfl (by decide) _ 1 (ints [(s.length : Int)]) (by rfl) HA.out _ s.length s.length _ (ints (splc (bks (ybf s) (List.range s.length) M))) (by rfl) (yat HS.out (Hlen.out M HM.out)) (ya6 _) (by unfold maxLen; omega) (by omega) HBw.out.size (s.length + 1) (by omega) ?_
  intro A9 c9 w9 ho_ hg_ hs_
  replace HBw := Lib.hid (yaX HBw.out HA.out hg_)
  refine hK.out _ _ ((HBw.out.cell (p := ⟨g, 0, none⟩) Hgl.out).trans HBx.out) (fun hH => ?_)
  clear hK K hHeld
  have hHeld := hH
  clear hH
  have HF : Hid (w9.ownsRow w1.heap.size 3 1 (.slice A9 (s.length + 1) c9) (s.length + 1) (ints (splc (frow s M)))) := Lib.hid (by have := ho_; rw [← yax] at this; exact this)
  clear ho_ hg_ hs_ HA HU HR HS
  try simp only [Act.put, List.setIfInBounds_toArray, List.set_cons_zero, List.set_cons_succ]
  refine wpAnyH_take (i := 10) (oi := ⟨some 3, Op.assign (Operand.tmp 14), 28, _, #[{ on := 9, ground := Ground.data }, { on := 9, ground := Ground.chain }, { on := 0, ground := Ground.phase }, { on := 1, ground := Ground.phase }, { on := 2, ground := Ground.phase }, { on := 3, ground := Ground.phase }, { on := 4, ground := Ground.phase }, { on := 5, ground := Ground.phase }, { on := 6, ground := Ground.phase }, { on := 7, ground := Ground.phase }, { on := 8, ground := Ground.phase }, { on := 9, ground := Ground.phase }], none⟩) (v := ?_) rfl (by kernel_rfl) (by kernel_rfl) (by kernel_rfl) (fun _ _ _ h => h) (Or.inl ⟨by rfl, ?_⟩) hHeld ?_
  rotate_left
  ·(intro wz hSw; go_simp; try (with_reducible rfl))
  try simp only [Act.put, List.setIfInBounds_toArray, List.set_cons_zero, List.set_cons_succ]
  refine wpAnyH_done (by kernel_rfl) ?_ _
  obtain ⟨A8, c8, e8, hc9, hr9⟩ := yae HF.out
  injection e8 with e8 _ e9
  subst e8 e9
  have hse := yco s M HM.out
  have Hnum := Lib.hid (ya4 (frow s M) (ycM s) A9 (s.length + 1) c9 g 116 w9 (fun W hW k hk => yaK hse hs W k hk (((hW.cell (p := ⟨g, 0, none⟩) (Nat.lt_of_lt_of_le Hgl.out HBw.out.size)).trans ((HBw.out.cell (p := ⟨g, 0, none⟩) Hgl.out).trans HBx.out)))) hse.len (by omega) hse.nodup (fun p hp => by have := (hse.mem p).1 hp; omega) hr9 (enters_of Tryz.func116 (by kernel_rfl) rfl))
  have Hr9 := Lib.hid hr9
  have Hse := Lib.hid hse
  have Hc9 := Lib.hid hc9
  have HRs9 := Lib.hid (HRs.out.below HBw.out HRs.out.lt)
  clear hse hr9 hc9 hHeld
  go_wp2_with (go_at_call 117; refine Hnum.out.mono ?_; rintro e w10 ⟨gK, rfl, hgK, hK, hb10⟩; have HRs10 := Lib.hid (HRs9.out.below hb10 HRs9.out.lt); have x0 := HRs10.out.frozen 0; have x1 := HRs10.out.frozen 1; have x2 := HRs10.out.frozen 2; have y0 : w10.cell? ⟨g + 1, 0, none⟩ = some (.slice none 0 0) := HRs10.out.cell 0; have y1 : w10.cell? ⟨g + 1, 1, none⟩ = some (.slice none 0 0) := HRs10.out.cell 1; have y2 : w10.cell? ⟨g + 1, 2, none⟩ = some (.int .i64 0) := HRs10.out.cell 2; have HK := Lib.hid hK; have Hb10 := Lib.hid hb10; have HgK := Lib.hid hgK; clear hK hb10 hgK)
  have hE := yaU (u := .slice A9 (s.length + 1) c9) (v := .slice (some ⟨gK, 0, none⟩) (s.length + 1) (s.length + 1)) (k := .int .i64 1) HRs10.out
  have d0 := hE.cell 0
  have d1 := hE.cell 1
  have d2 := hE.cell 2
  simp only [List.getElem?_toArray, List.getElem?_cons_zero, List.getElem?_cons_succ] at d0 d1 d2
  refine bodyPost_ret (v := .agg #[.slice A9 (s.length + 1) c9, .slice (some ⟨gK, 0, none⟩) (s.length + 1) (s.length + 1), .int .i64 1]) (by simp [results, Tryz.results77, go_sem, d0, d1, d2]) rfl ?_
  exact yba hg Hse.out HF.out HK.out HgK.out Hb10.out HBw.out Hb1.out Hsz.out
 refine AllReadyH.cons (o := ⟨some 12, Op.convert 9 36 (Operand.tmp 11), 36, _, #[{ on := 6, ground := Ground.data }], none⟩) rfl (fun K hK => ?_) AllReadyH.nil
 refine ybZ (by rfl) (.tmp 11) _ _ 5 (by rfl) s Tryz.underlying9 Tryz.underlying36 Tryz.underlying5 (by rfl) ?_
 intro gR cR wR hR hgR hb1 hcR
 replace HBw := Lib.hid (HBw.out.trans (hb1.mono HBw.out.size))
 refine hK.out _ _ ((HBw.out.cell (p := ⟨g, 0, none⟩) Hgl.out).trans HBx.out) (fun hH => ?_)
 clear hK K hHeld
 have hHeld := hH
 clear hH
 have HR := Lib.hid hR
 try (replace HA := Lib.hid (yah HA.out hb1 (Nat.le_refl _)))
 try (replace HU := Lib.hid (HU.out.below hb1 HU.out.lt))
 try (replace HS := Lib.hid (HS.out.below hb1 HS.out.lt))
 clear hb1 hgR hcR hR
 try simp only [Act.put, List.setIfInBounds_toArray, List.set_cons_zero, List.set_cons_succ]
 refine wpAnyH_ready (rs := [2, 5]) (by kernel_rfl) (by simp) ?_
 refine AllReadyH.cons (o := ⟨some 7, Op.buildSlice 28 1 #[(0, Operand.tmp 6)], 28, _, #[{ on := 1, ground := Ground.data }], none⟩) rfl (fun K hK => ?_) ?_
 ·skip
  go_simp
  refine hK.out _ _ (((HBw.out.alloc HBw.out.size (.cells #[.int .i64 (s.length : Int)] 3)).cell (p := ⟨g, 0, none⟩) Hgl.out).trans HBx.out) (fun hH => ?_)
  clear hK K hHeld
  have hHeld := hH
  clear hH
  have HA := Lib.hid (ycd _ (s.length : Int) HBw.out.size)
  try rw [World.size_alloc] at HA
  try (replace HU := Lib.hid (HU.out.below ((Below.refl _ _).alloc (Nat.le_refl _) (.cells #[.int .i64 (s.length : Int)] 3)) HU.out.lt))
  try (replace HR := Lib.hid (HR.out.below ((Below.refl _ _).alloc (Nat.le_refl _) (.cells #[.int .i64 (s.length : Int)] 3)) HR.out.lt))
  try (replace HS := Lib.hid (HS.out.below ((Below.refl _ _).alloc (Nat.le_refl _) (.cells #[.int .i64 (s.length : Int)] 3)) HS.out.lt))
  replace HBw := Lib.hid (HBw.out.alloc HBw.out.size (.cells #[.int .i64 (s.length : Int)] 3))
  try simp only [Act.put, List.setIfInBounds_toArray, List.set_cons_zero, List.set_cons_succ]
  refine wpAnyH_ready (rs := [5]) (by kernel_rfl) (by simp) ?_
  refine AllReadyH.cons (o := ⟨some 10, Op.call { callee := Callee.value (Operand.func 115), args := #[Operand.tmp 9], argTypes := #[3] }, 28, _, #[{ on := 4, ground := Ground.data }], none⟩) rfl (fun K hK => ?_) AllReadyH.nil
  go_simp
  go_at_call 115
  refine (ydl s.length _ (by omega)).mono ?_
  rintro e w5 ⟨gU, rfl, hU, hb1⟩
  try (replace HA := Lib.hid (yah HA.out hb1 (Nat.le_refl _)))
  try (replace HR := Lib.hid (HR.out.below hb1 HR.out.lt))
  have HU := Lib.hid hU
  replace HBw := Lib.hid (HBw.out.trans (hb1.mono HBw.out.size))
  clear hU
  refine hK.out _ _ ((HBw.out.cell (p := ⟨g, 0, none⟩) Hgl.out).trans HBx.out) (fun hH => ?_)
  clear hHeld hK K hb1
  have hHeld := hH
  clear hH
  try simp only [Act.put, List.setIfInBounds_toArray, List.set_cons_zero, List.set_cons_succ]
  refine wpAnyH_ready (rs := [8]) (by kernel_rfl) (by simp) ?_
  refine AllReadyH.cons (o := ⟨some 13, Op.call { callee := Callee.value (Operand.func 114), args := #[Operand.tmp 10, Operand.tmp 12], argTypes := #[28, 36] }, 28, _, #[{ on := 5, ground := Ground.data }, { on := 7, ground := Ground.data }, { on := 5, ground := Ground.chain }], none⟩) rfl (fun K hK => ?_) AllReadyH.nil
  go_simp
  go_at_call 114
  refine (yaL (List.range s.length) (ybf s) _ _ s.length _ _ _ _ (List.length_range ..) (by omega) Hkey.out (yat HU.out (by rw [yao, List.length_range])) (ybm HR.out)).mono ?_
  rintro e w8 ⟨gS, M, rfl, _, hM, hS, hb1⟩
  try (replace HA := Lib.hid (yah HA.out hb1 (Nat.le_refl _)))
  try (replace HU := Lib.hid (HU.out.below hb1 HU.out.lt))
  try (replace HR := Lib.hid (HR.out.below hb1 HR.out.lt))
  have HS := Lib.hid hS
  have HM := Lib.hid hM
  replace HBw := Lib.hid (HBw.out.trans (hb1.mono HBw.out.size))
  clear hS hM
  refine hK.out _ _ ((HBw.out.cell (p := ⟨g, 0, none⟩) Hgl.out).trans HBx.out) (fun hH => ?_)
  clear hHeld hK K hb1
  have hHeld := hH
  clear hH
  try simp only [Act.put, List.setIfInBounds_toArray, List.set_cons_zero, List.set_cons_succ]
  refine wpAnyH_ready (rs := [9]) (by kernel_rfl) (by simp) ?_
  refine AllReadyH.cons (o := ⟨some 14, Op.call { callee := Callee.builtin Builtin.append, args := #[Operand.tmp 7, Operand.tmp 13], argTypes := #[28, 28] }, 28, _, #[{ on := 2, ground := Ground.data }, { on := 8, ground := Ground.data }, { on := 8, ground := Ground.chain }], none⟩) rfl (fun K hK => ?_) AllReadyH.nil
  refine yac (by rfl) (.tmp 7) (.tmp 13) 28 (by rfl) w1.heap.size 3 i0 _ 1 8 Tryz.underlying28 hi hz0 hz1 hz9 rfl (by decide) _ 1 (ints [(s.length : Int)]) (by rfl) HA.out _ s.length s.length _ (ints (splc (bks (ybf s) (List.range s.length) M))) (by rfl) (yat HS.out (Hlen.out M HM.out)) (ya6 _) (by unfold maxLen; omega) (by omega) HBw.out.size (s.length + 1) (by omega) ?_
  intro A9 c9 w9 ho_ hg_ hs_
  replace HBw := Lib.hid (yaX HBw.out HA.out hg_)
  refine hK.out _ _ ((HBw.out.cell (p := ⟨g, 0, none⟩) Hgl.out).trans HBx.out) (fun hH => ?_)
  clear hK K hHeld
  have hHeld := hH
  clear hH
  have HF : Hid (w9.ownsRow w1.heap.size 3 1 (.slice A9 (s.length + 1) c9) (s.length + 1) (ints (splc (frow s M)))) := Lib.hid (by have := ho_; rw [← yax] at this; exact this)
  clear ho_ hg_ hs_ HA HU HR HS
  try simp only [Act.put, List.setIfInBounds_toArray, List.set_cons_zero, List.set_cons_succ]
  refine wpAnyH_take (i := 10) (oi := ⟨some 3, Op.assign (Operand.tmp 14), 28, _, #[{ on := 9, ground := Ground.data }, { on := 9, ground := Ground.chain }, { on := 0, ground := Ground.phase }, { on := 1, ground := Ground.phase }, { on := 2, ground := Ground.phase }, { on := 3, ground := Ground.phase }, { on := 4, ground := Ground.phase }, { on := 5, ground := Ground.phase }, { on := 6, ground := Ground.phase }, { on := 7, ground := Ground.phase }, { on := 8, ground := Ground.phase }, { on := 9, ground := Ground.phase }], none⟩) (v := ?_) rfl (by kernel_rfl) (by kernel_rfl) (by kernel_rfl) (fun _ _ _ h => h) (Or.inl ⟨by rfl, ?_⟩) hHeld ?_
  rotate_left
  ·(intro wz hSw; go_simp; try (with_reducible rfl))
  try simp only [Act.put, List.setIfInBounds_toArray, List.set_cons_zero, List.set_cons_succ]
  refine wpAnyH_done (by kernel_rfl) ?_ _
  obtain ⟨A8, c8, e8, hc9, hr9⟩ := yae HF.out
  injection e8 with e8 _ e9
  subst e8 e9
  have hse := yco s M HM.out
  have Hnum := Lib.hid (ya4 (frow s M) (ycM s) A9 (s.length + 1) c9 g 116 w9 (fun W hW k hk => yaK hse hs W k hk (((hW.cell (p := ⟨g, 0, none⟩) (Nat.lt_of_lt_of_le Hgl.out HBw.out.size)).trans ((HBw.out.cell (p := ⟨g, 0, none⟩) Hgl.out).trans HBx.out)))) hse.len (by omega) hse.nodup (fun p hp => by have := (hse.mem p).1 hp; omega) hr9 (enters_of Tryz.func116 (by kernel_rfl) rfl))
  have Hr9 := Lib.hid hr9
  have Hse := Lib.hid hse
  have Hc9 := Lib.hid hc9
  have HRs9 := Lib.hid (HRs.out.below HBw.out HRs.out.lt)
  clear hse hr9 hc9 hHeld
  go_wp2_with (go_at_call 117; refine Hnum.out.mono ?_; rintro e w10 ⟨gK, rfl, hgK, hK, hb10⟩; have HRs10 := Lib.hid (HRs9.out.below hb10 HRs9.out.lt); have x0 := HRs10.out.frozen 0; have x1 := HRs10.out.frozen 1; have x2 := HRs10.out.frozen 2; have y0 : w10.cell? ⟨g + 1, 0, none⟩ = some (.slice none 0 0) := HRs10.out.cell 0; have y1 : w10.cell? ⟨g + 1, 1, none⟩ = some (.slice none 0 0) := HRs10.out.cell 1; have y2 : w10.cell? ⟨g + 1, 2, none⟩ = some (.int .i64 0) := HRs10.out.cell 2; have HK := Lib.hid hK; have Hb10 := Lib.hid hb10; have HgK := Lib.hid hgK; clear hK hb10 hgK)
  have hE := yaU (u := .slice A9 (s.length + 1) c9) (v := .slice (some ⟨gK, 0, none⟩) (s.length + 1) (s.length + 1)) (k := .int .i64 1) HRs10.out
  have d0 := hE.cell 0
  have d1 := hE.cell 1
  have d2 := hE.cell 2
  simp only [List.getElem?_toArray, List.getElem?_cons_zero, List.getElem?_cons_succ] at d0 d1 d2
  refine bodyPost_ret (v := .agg #[.slice A9 (s.length + 1) c9, .slice (some ⟨gK, 0, none⟩) (s.length + 1) (s.length + 1), .int .i64 1]) (by simp [results, Tryz.results77, go_sem, d0, d1, d2]) rfl ?_
  exact yba hg Hse.out HF.out HK.out HgK.out Hb10.out HBw.out Hb1.out Hsz.out
 refine AllReadyH.cons (o := ⟨some 10, Op.call { callee := Callee.value (Operand.func 115), args := #[Operand.tmp 9], argTypes := #[3] }, 28, _, #[{ on := 4, ground := Ground.data }], none⟩) rfl (fun K hK => ?_) AllReadyH.nil
 go_simp
 go_at_call 115
 refine (ydl s.length _ (by omega)).mono ?_
 rintro e w5 ⟨gU, rfl, hU, hb1⟩
 try (replace HA := Lib.hid (yah HA.out hb1 (Nat.le_refl _)))
 try (replace HR := Lib.hid (HR.out.below hb1 HR.out.lt))
 have HU := Lib.hid hU
 replace HBw := Lib.hid (HBw.out.trans (hb1.mono HBw.out.size))
 clear hU
 refine hK.out _ _ ((HBw.out.cell (p := ⟨g, 0, none⟩) Hgl.out).trans HBx.out) (fun hH => ?_)
 clear hHeld hK K hb1
 have hHeld := hH
 clear hH
 try simp only [Act.put, List.setIfInBounds_toArray, List.set_cons_zero, List.set_cons_succ]
 refine wpAnyH_ready (rs := [2, 8]) (by kernel_rfl) (by simp) ?_
 refine AllReadyH.cons (o := ⟨some 7, Op.buildSlice 28 1 #[(0, Operand.tmp 6)], 28, _, #[{ on := 1, ground := Ground.data }], none⟩) rfl (fun K hK => ?_) ?_
 ·skip
  go_simp
  refine hK.out _ _ (((HBw.out.alloc HBw.out.size (.cells #[.int .i64 (s.length : Int)] 3)).cell (p := ⟨g, 0, none⟩) Hgl.out).trans HBx.out) (fun hH => ?_)
  clear hK K hHeld
  have hHeld := hH
  clear hH
  have HA := Lib.hid (ycd _ (s.length : Int) HBw.out.size)
  try rw [World.size_alloc] at HA
  try (replace HU := Lib.hid (HU.out.below ((Below.refl _ _).alloc (Nat.le_refl _) (.cells #[.int .i64 (s.length : Int)] 3)) HU.out.lt))
  try (replace HR := Lib.hid (HR.out.below ((Below.refl _ _).alloc (Nat.le_refl _) (.cells #[.int .i64 (s.length : Int)] 3)) HR.out.lt))
  try (replace HS := Lib.hid (HS.out.below ((Below.refl _ _).alloc (Nat.le_refl _) (.cells #[.int .i64 (s.length : Int)] 3)) HS.out.lt))
  replace HBw := Lib.hid (HBw.out.alloc HBw.out.size (.cells #[.int .i64 (s.length : Int)] 3))
  try simp only [Act.put, List.setIfInBounds_toArray, List.set_cons_zero, List.set_cons_succ]
  refine wpAnyH_ready (rs := [8]) (by kernel_rfl) (by simp) ?_
  refine AllReadyH.cons (o := ⟨some 13, Op.call { callee := Callee.value (Operand.func 114), args := #[Operand.tmp 10, Operand.tmp 12], argTypes := #[28, 36] }, 28, _, #[{ on := 5, ground := Ground.data }, { on := 7, ground := Ground.data }, { on := 5, ground := Ground.chain }], none⟩) rfl (fun K hK => ?_) AllReadyH.nil
  go_simp
  go_at_call 114
  refine (yaL (List.range s.length) (ybf s) _ _ s.length _ _ _ _ (List.length_range ..) (by omega) Hkey.out (yat HU.out (by rw [yao, List.length_range])) (ybm HR.out)).mono ?_
  rintro e w8 ⟨gS, M, rfl, _, hM, hS, hb1⟩
  try (replace HA := Lib.hid (yah HA.out hb1 (Nat.le_refl _)))
  try (replace HU := Lib.hid (HU.out.below hb1 HU.out.lt))
  try (replace HR := Lib.hid (HR.out.below hb1 HR.out.lt))
  have HS := Lib.hid hS
  have HM := Lib.hid hM
  replace HBw := Lib.hid (HBw.out.trans (hb1.mono HBw.out.size))
  clear hS hM
  refine hK.out _ _ ((HBw.out.cell (p := ⟨g, 0, none⟩) Hgl.out).trans HBx.out) (fun hH => ?_)
  clear hHeld hK K hb1
  have hHeld := hH
  clear hH
  try simp only [Act.put, List.setIfInBounds_toArray, List.set_cons_zero, List.set_cons_succ]
  refine wpAnyH_ready (rs := [9]) (by kernel_rfl) (by simp) ?_
  refine AllReadyH.cons (o := ⟨some 14, Op.call { callee := Callee.builtin Builtin.append, args := #[Operand.tmp 7, Operand.tmp 13], argTypes := #[28, 28] }, 28, _, #[{ on := 2, ground := Ground.data }, { on := 8, ground := Ground.data }, { on := 8, ground := Ground.chain }], none⟩) rfl (fun K hK => ?_) AllReadyH.nil
  refine yac (by rfl) (.tmp 7) (.tmp 13) 28 (by rfl) w1.heap.size 3 i0 _ 1 8 Tryz.underlying28 hi hz0 hz1 hz9 rfl (by decide) _ 1 (ints [(s.length : Int)]) (by rfl) HA.out _ s.length s.length _ (ints (splc (bks (ybf s) (List.range s.length) M))) (by rfl) (yat HS.out (Hlen.out M HM.out)) (ya6 _) (by unfold maxLen; omega) (by omega) HBw.out.size (s.length + 1) (by omega) ?_
  intro A9 c9 w9 ho_ hg_ hs_
  replace HBw := Lib.hid (yaX HBw.out HA.out hg_)
  refine hK.out _ _ ((HBw.out.cell (p := ⟨g, 0, none⟩) Hgl.out).trans HBx.out) (fun hH => ?_)
  clear hK K hHeld
  have hHeld := hH
  clear hH
  have HF : Hid (w9.ownsRow w1.heap.size 3 1 (.slice A9 (s.length + 1) c9) (s.length + 1) (ints (splc (frow s M)))) := Lib.hid (by have := ho_; rw [← yax] at this; exact this)
  clear ho_ hg_ hs_ HA HU HR HS
  try simp only [Act.put, List.setIfInBounds_toArray, List.set_cons_zero, List.set_cons_succ]
  refine wpAnyH_take (i := 10) (oi := ⟨some 3, Op.assign (Operand.tmp 14), 28, _, #[{ on := 9, ground := Ground.data }, { on := 9, ground := Ground.chain }, { on := 0, ground := Ground.phase }, { on := 1, ground := Ground.phase }, { on := 2, ground := Ground.phase }, { on := 3, ground := Ground.phase }, { on := 4, ground := Ground.phase }, { on := 5, ground := Ground.phase }, { on := 6, ground := Ground.phase }, { on := 7, ground := Ground.phase }, { on := 8, ground := Ground.phase }, { on := 9, ground := Ground.phase }], none⟩) (v := ?_) rfl (by kernel_rfl) (by kernel_rfl) (by kernel_rfl) (fun _ _ _ h => h) (Or.inl ⟨by rfl, ?_⟩) hHeld ?_
  rotate_left
  ·(intro wz hSw; go_simp; try (with_reducible rfl))
  try simp only [Act.put, List.setIfInBounds_toArray, List.set_cons_zero, List.set_cons_succ]
  refine wpAnyH_done (by kernel_rfl) ?_ _
  obtain ⟨A8, c8, e8, hc9, hr9⟩ := yae HF.out
  injection e8 with e8 _ e9
  subst e8 e9
  have hse := yco s M HM.out
  have Hnum := Lib.hid (ya4 (frow s M) (ycM s) A9 (s.length + 1) c9 g 116 w9 (fun W hW k hk => yaK hse hs W k hk (((hW.cell (p := ⟨g, 0, none⟩) (Nat.lt_of_lt_of_le Hgl.out HBw.out.size)).trans ((HBw.out.cell (p := ⟨g, 0, none⟩) Hgl.out).trans HBx.out)))) hse.len (by omega) hse.nodup (fun p hp => by have := (hse.mem p).1 hp; omega) hr9 (enters_of Tryz.func116 (by kernel_rfl) rfl))
  have Hr9 := Lib.hid hr9
  have Hse := Lib.hid hse
  have Hc9 := Lib.hid hc9
  have HRs9 := Lib.hid (HRs.out.below HBw.out HRs.out.lt)
  clear hse hr9 hc9 hHeld
  go_wp2_with (go_at_call 117; refine Hnum.out.mono ?_; rintro e w10 ⟨gK, rfl, hgK, hK, hb10⟩; have HRs10 := Lib.hid (HRs9.out.below hb10 HRs9.out.lt); have x0 := HRs10.out.frozen 0; have x1 := HRs10.out.frozen 1; have x2 := HRs10.out.frozen 2; have y0 : w10.cell? ⟨g + 1, 0, none⟩ = some (.slice none 0 0) := HRs10.out.cell 0; have y1 : w10.cell? ⟨g + 1, 1, none⟩ = some (.slice none 0 0) := HRs10.out.cell 1; have y2 : w10.cell? ⟨g + 1, 2, none⟩ = some (.int .i64 0) := HRs10.out.cell 2; have HK := Lib.hid hK; have Hb10 := Lib.hid hb10; have HgK := Lib.hid hgK; clear hK hb10 hgK)
  have hE := yaU (u := .slice A9 (s.length + 1) c9) (v := .slice (some ⟨gK, 0, none⟩) (s.length + 1) (s.length + 1)) (k := .int .i64 1) HRs10.out
  have d0 := hE.cell 0
  have d1 := hE.cell 1
  have d2 := hE.cell 2
  simp only [List.getElem?_toArray, List.getElem?_cons_zero, List.getElem?_cons_succ] at d0 d1 d2
  refine bodyPost_ret (v := .agg #[.slice A9 (s.length + 1) c9, .slice (some ⟨gK, 0, none⟩) (s.length + 1) (s.length + 1), .int .i64 1]) (by simp [results, Tryz.results77, go_sem, d0, d1, d2]) rfl ?_
  exact yba hg Hse.out HF.out HK.out HgK.out Hb10.out HBw.out Hb1.out Hsz.out
 refine AllReadyH.cons (o := ⟨some 13, Op.call { callee := Callee.value (Operand.func 114), args := #[Operand.tmp 10, Operand.tmp 12], argTypes := #[28, 36] }, 28, _, #[{ on := 5, ground := Ground.data }, { on := 7, ground := Ground.data }, { on := 5, ground := Ground.chain }], none⟩) rfl (fun K hK => ?_) AllReadyH.nil
 go_simp
 go_at_call 114
 refine (yaL (List.range s.length) (ybf s) _ _ s.length _ _ _ _ (List.length_range ..) (by omega) Hkey.out (yat HU.out (by rw [yao, List.length_range])) (ybm HR.out)).mono ?_
 rintro e w8 ⟨gS, M, rfl, _, hM, hS, hb1⟩
 try (replace HA := Lib.hid (yah HA.out hb1 (Nat.le_refl _)))
 try (replace HU := Lib.hid (HU.out.below hb1 HU.out.lt))
 try (replace HR := Lib.hid (HR.out.below hb1 HR.out.lt))
 have HS := Lib.hid hS
 have HM := Lib.hid hM
 replace HBw := Lib.hid (HBw.out.trans (hb1.mono HBw.out.size))
 clear hS hM
 refine hK.out _ _ ((HBw.out.cell (p := ⟨g, 0, none⟩) Hgl.out).trans HBx.out) (fun hH => ?_)
 clear hHeld hK K hb1
 have hHeld := hH
 clear hH
 try simp only [Act.put, List.setIfInBounds_toArray, List.set_cons_zero, List.set_cons_succ]
 refine wpAnyH_ready (rs := [2]) (by kernel_rfl) (by simp) ?_
 refine AllReadyH.cons (o := ⟨some 7, Op.buildSlice 28 1 #[(0, Operand.tmp 6)], 28, _, #[{ on := 1, ground := Ground.data }], none⟩) rfl (fun K hK => ?_) AllReadyH.nil
 go_simp
 refine hK.out _ _ (((HBw.out.alloc HBw.out.size (.cells #[.int .i64 (s.length : Int)] 3)).cell (p := ⟨g, 0, none⟩) Hgl.out).trans HBx.out) (fun hH => ?_)
 clear hK K hHeld
 have hHeld := hH
 clear hH
 have HA := Lib.hid (ycd _ (s.length : Int) HBw.out.size)
 try rw [World.size_alloc] at HA
 try (replace HU := Lib.hid (HU.out.below ((Below.refl _ _).alloc (Nat.le_refl _) (.cells #[.int .i64 (s.length : Int)] 3)) HU.out.lt))
 try (replace HR := Lib.hid (HR.out.below ((Below.refl _ _).alloc (Nat.le_refl _) (.cells #[.int .i64 (s.length : Int)] 3)) HR.out.lt))
 try (replace HS := Lib.hid (HS.out.below ((Below.refl _ _).alloc (Nat.le_refl _) (.cells #[.int .i64 (s.length : Int)] 3)) HS.out.lt))
 replace HBw := Lib.hid (HBw.out.alloc HBw.out.size (.cells #[.int .i64 (s.length : Int)] 3))
 try simp only [Act.put, List.setIfInBounds_toArray, List.set_cons_zero, List.set_cons_succ]
 refine wpAnyH_ready (rs := [9]) (by kernel_rfl) (by simp) ?_
 refine AllReadyH.cons (o := ⟨some 14, Op.call { callee := Callee.builtin Builtin.append, args := #[Operand.tmp 7, Operand.tmp 13], argTypes := #[28, 28] }, 28, _, #[{ on := 2, ground := Ground.data }, { on := 8, ground := Ground.data }, { on := 8, ground := Ground.chain }], none⟩) rfl (fun K hK => ?_) AllReadyH.nil
 refine yac (by rfl) (.tmp 7) (.tmp 13) 28 (by rfl) w1.heap.size 3 i0 _ 1 8 Tryz.underlying28 hi hz0 hz1 hz9 rfl (by decide) _ 1 (ints [(s.length : Int)]) (by rfl) HA.out _ s.length s.length _ (ints (splc (bks (ybf s) (List.range s.length) M))) (by rfl) (yat HS.out (Hlen.out M HM.out)) (ya6 _) (by unfold maxLen; omega) (by omega) HBw.out.size (s.length + 1) (by omega) ?_
 intro A9 c9 w9 ho_ hg_ hs_
 replace HBw := Lib.hid (yaX HBw.out HA.out hg_)
 refine hK.out _ _ ((HBw.out.cell (p := ⟨g, 0, none⟩) Hgl.out).trans HBx.out) (fun hH => ?_)
 clear hK K hHeld
 have hHeld := hH
 clear hH
 have HF : Hid (w9.ownsRow w1.heap.size 3 1 (.slice A9 (s.length + 1) c9) (s.length + 1) (ints (splc (frow s M)))) := Lib.hid (by have := ho_; rw [← yax] at this; exact this)
 clear ho_ hg_ hs_ HA HU HR HS
 try simp only [Act.put, List.setIfInBounds_toArray, List.set_cons_zero, List.set_cons_succ]
 refine wpAnyH_take (i := 10) (oi := ⟨some 3, Op.assign (Operand.tmp 14), 28, _, #[{ on := 9, ground := Ground.data }, { on := 9, ground := Ground.chain }, { on := 0, ground := Ground.phase }, { on := 1, ground := Ground.phase }, { on := 2, ground := Ground.phase }, { on := 3, ground := Ground.phase }, { on := 4, ground := Ground.phase }, { on := 5, ground := Ground.phase }, { on := 6, ground := Ground.phase }, { on := 7, ground := Ground.phase }, { on := 8, ground := Ground.phase }, { on := 9, ground := Ground.phase }], none⟩) (v := ?_) rfl (by kernel_rfl) (by kernel_rfl) (by kernel_rfl) (fun _ _ _ h => h) (Or.inl ⟨by rfl, ?_⟩) hHeld ?_
 rotate_left
 ·(intro wz hSw; go_simp; try (with_reducible rfl))
 try simp only [Act.put, List.setIfInBounds_toArray, List.set_cons_zero, List.set_cons_succ]
 refine wpAnyH_done (by kernel_rfl) ?_ _
 obtain ⟨A8, c8, e8, hc9, hr9⟩ := yae HF.out
 injection e8 with e8 _ e9
 subst e8 e9
 have hse := yco s M HM.out
 have Hnum := Lib.hid (ya4 (frow s M) (ycM s) A9 (s.length + 1) c9 g 116 w9 (fun W hW k hk => yaK hse hs W k hk (((hW.cell (p := ⟨g, 0, none⟩) (Nat.lt_of_lt_of_le Hgl.out HBw.out.size)).trans ((HBw.out.cell (p := ⟨g, 0, none⟩) Hgl.out).trans HBx.out)))) hse.len (by omega) hse.nodup (fun p hp => by have := (hse.mem p).1 hp; omega) hr9 (enters_of Tryz.func116 (by kernel_rfl) rfl))
 have Hr9 := Lib.hid hr9
 have Hse := Lib.hid hse
 have Hc9 := Lib.hid hc9
 have HRs9 := Lib.hid (HRs.out.below HBw.out HRs.out.lt)
 clear hse hr9 hc9 hHeld
 go_wp2_with (go_at_call 117; refine Hnum.out.mono ?_; rintro e w10 ⟨gK, rfl, hgK, hK, hb10⟩; have HRs10 := Lib.hid (HRs9.out.below hb10 HRs9.out.lt); have x0 := HRs10.out.frozen 0; have x1 := HRs10.out.frozen 1; have x2 := HRs10.out.frozen 2; have y0 : w10.cell? ⟨g + 1, 0, none⟩ = some (.slice none 0 0) := HRs10.out.cell 0; have y1 : w10.cell? ⟨g + 1, 1, none⟩ = some (.slice none 0 0) := HRs10.out.cell 1; have y2 : w10.cell? ⟨g + 1, 2, none⟩ = some (.int .i64 0) := HRs10.out.cell 2; have HK := Lib.hid hK; have Hb10 := Lib.hid hb10; have HgK := Lib.hid hgK; clear hK hb10 hgK)
 have hE := yaU (u := .slice A9 (s.length + 1) c9) (v := .slice (some ⟨gK, 0, none⟩) (s.length + 1) (s.length + 1)) (k := .int .i64 1) HRs10.out
 have d0 := hE.cell 0
 have d1 := hE.cell 1
 have d2 := hE.cell 2
 simp only [List.getElem?_toArray, List.getElem?_cons_zero, List.getElem?_cons_succ] at d0 d1 d2
 refine bodyPost_ret (v := .agg #[.slice A9 (s.length + 1) c9, .slice (some ⟨gK, 0, none⟩) (s.length + 1) (s.length + 1), .int .i64 1]) (by simp [results, Tryz.results77, go_sem, d0, d1, d2]) rfl ?_
 exact yba hg Hse.out HF.out HK.out HgK.out Hb10.out HBw.out Hb1.out Hsz.out
end Go.Proofs.YtoinjdmlembgeaaGreat
