/-
 What the law of the last of these texts stands on, part 10.
-/
import Derived.Test.YtanjhbkbpalnaaaGreatMa07
import Derived.Test.YtanjhbkbpalnaaaGreatMa08
import Derived.Shelf.Abstract
set_option maxRecDepth 100000
set_option maxHeartbeats 8000000
open Go.Proofs.Tryz
namespace Go.Proofs.YtanjhbkbpalnaaaGreat
set_option linter.unusedSimpArgs false
set_option linter.unusedVariables false
open Go.ChangeShapes Go.WideShapes Go.ChangeAt Go.RowKit Go.Joins Go.Deep Go.Shelf
theorem ybN {P : Program} {w : World} {ops : Array Oper} {o : Oper} {a : Act} {K : Act → World → Prop} {Q : Exit → Act → World → Prop} {E : Prop} (hgd : o.guard = none) (x : Operand) (src dst e : TypeId)
  (ho : o.op = .convert src dst x) (l : List UInt8) (hs : P.underlying src = some .string) (hd : P.underlying dst = some (.slice e)) (he : P.underlying e = some (.int .u8)) (hx : a.eval x = .string ⟨l.toArray⟩)
  (h : ∀ g cap w', BRow w' g l → w.heap.size ≤ g → Below w.heap.size w w' → l.length ≤ cap → K (a.put o.dst (.slice (some ⟨g, 0, none⟩) l.length cap)) w') :
  if Region.wanted o (yielded ops a.tmps) = true then Oper.wp P o a w K Q else E := by
 have hw : Region.wanted o (yielded ops a.tmps) = true := by simp [Region.wanted, hgd]
 rw [qag hw]
 obtain ⟨cap, w', hrun, h2, h3, h4⟩ := run_bytes_row (P := P) w src dst e l hs hd he
 unfold Oper.wp execOp
 simp only [ho, Sem.run_bind, Sem.run_pure, Result.andThen_ok, hx, hrun]
 exact h _ cap w' h2 (qad _) h3 h4
theorem ydj (n : Nat) (w : World) (hm : n ≤ 1000001) :
  Calls prog 159 #[.int .i64 (n : Int)] w fun e w' => ∃ g, e = .returned (.slice (some ⟨g, 0, none⟩) n n) ∧ Blk w' g 3 (ints (splc (List.range n))).toArray ∧ Below w.heap.size w w' :=
 (s_upto_any n w hm).mono fun _ _ ⟨a, b, c⟩ => ⟨_, a, b, c⟩
theorem ybk {w : World} {g : Nat} {s : List UInt8} (h : BRow w g s) : KRow w .u8 (yba s) (some ⟨g, 0, none⟩) s.length (List.range s.length) := fun p hp => by
 have hp' := qaS.1 hp
 refine ⟨hp', g, 0, rfl, h.lt, fun W hW => ?_⟩
 rw [qaz, (h.below hW h.lt).cell p s[p] (qah hp'), fkey_at hp']
theorem bks_all_len (key : Nat → Nat) (row : List Nat) (M : Nat) (h : ∀ p ∈ row, key p < M) : (splc (bks key row M)).length = row.length := by rw [yao, bks_len, ydy key row M h]
theorem s_mkfunc (fn : Fn) (first cap : Array Value) (w : World) : (Instr.makeFunc fn first cap).run prog w = .ok (.func fn first cap) w := rfl
structure EH (W : World) (s : List UInt8) (h : Nat) (row : List Nat) (kd : Nat → Nat) (A : Option Addr) (c g : Nat) : Prop where
 se : SE s h row kd
 cap : s.length + 1 ≤ c
 row : Reads W W.heap.size 1 A (s.length + 1) (ints (splc row))
 kinds : Blk W g 3 (ints (kL kd (s.length + 1))).toArray
theorem EH.below {W W' : World} {s : List UInt8} {h : Nat} {row : List Nat} {kd : Nat → Nat} {A : Option Addr} {c g : Nat} (H : EH W s h row kd A c g) (hb : Below W.heap.size W W') : EH W' s h row kd A c g :=
 ⟨H.se, H.cap, H.row.upto hb, H.kinds.below hb H.kinds.lt⟩
def EF (N : Nat) (A : Option Addr) (g : Nat) : Prop := (∀ ad, A = some ad → N ≤ ad.block) ∧ N ≤ g
theorem EH.set {W : World} {s : List UInt8} {h : Nat} {row : List Nat} {kd : Nat → Nat} {A : Option Addr} {c g N gx : Nat} (H : EH W s h row kd A c g) (hN : EF N A g) (hx : gx < N) (i : Nat) (u : Value) : EH (W.setCell ⟨gx, i, none⟩ u) s h row kd A c g := by
 refine ⟨H.se, H.cap, ⟨H.row.1, fun hn => ?_⟩, H.kinds.far (p := ⟨gx, i, none⟩) (by show g ≠ gx; have := hN.2; omega) u⟩
 obtain ⟨b, off, e, hb, hc⟩ := H.row.2 hn
 have h1 := hN.1 _ e
 refine ⟨b, off, e, by simpa [World.setCell] using hb, fun j v hv => ?_⟩
 rw [qc4 _ _ _ _ (by intro e2; injection e2 with e3 _; simp only at h1; omega)]
 exact hc j v hv
theorem s_first_holds {s : List UInt8} {M pb : Nat} (hse : SE s 1 (frow s M) (knum (frow s M) (yfP s) s.length)) (hs : s.length ≤ 1000000) (W : World) (k : Nat) (hk : k + 1 < (frow s M).length) (hP : W.cell? ⟨pb, 0, none⟩ = some (.string ⟨s.toArray⟩)) :
  Calls prog 160 #[.int .i64 (((frow s M)[k] : Nat) : Int), .int .i64 (((frow s M)[k + 1] : Nat) : Int), .pointer (some ⟨pb, 0, none⟩)] W fun e W' => e = .returned (.bool (yfP s (frow s M)[k] (frow s M)[k + 1])) ∧ ∃ m, W' = W.drewN m := by
 have h1 := (hse.mem _).1 (qaq (show k < (frow s M).length by omega))
 have h2 := (hse.mem _).1 (qaq hk)
 have hne : (frow s M)[k + 1] ≠ s.length := fun e => by
  have h0 : (frow s M)[0]'(by omega) = s.length := rfl
  have := ybj hse.nodup hk (show 0 < (frow s M).length by omega) (e.trans h0.symm)
  omega
 exact s_same1_any s _ _ pb W h1 (by omega) hs hP
theorem yfd {w10 : World} {g : Nat} {x y z : Value} {u v k : Value} (h : Blk w10 g 155 #[x, y, z]) :
  Blk (((w10.setCell ⟨g, 0, none⟩ u).setCell ⟨g, 1, none⟩ v).setCell ⟨g, 2, none⟩ k) g 155 #[u, v, k] := ((h.set_ 0 u).set_ 1 v).set_ 2 k
theorem s_first_end {w w1 w9 w10 : World} {g gK c : Nat} {A : Option Addr} {s : List UInt8} {h : Nat} {row : List Nat} {kd : Nat → Nat} {u v k : Value} (hg : w.heap.size = g) (hse : SE s h row kd)
  (hF : w9.ownsRow w1.heap.size 3 1 (.slice A (s.length + 1) c) (s.length + 1) (ints (splc row))) (hK : Blk w10 gK 3 (ints (kL kd (s.length + 1))).toArray) (hgK : w9.heap.size ≤ gK) (hb10 : Below w9.heap.size w9 w10)
  (hBw : Below w1.heap.size w1 w9) (hb1 : Below g w w1) (hsz : w1.heap.size = g + 2) :
  ∃ A' c' g' row' kd', Ending.returned (.agg #[.slice A (s.length + 1) c, .slice (some ⟨gK, 0, none⟩) (s.length + 1) (s.length + 1), k]) = Ending.returned (.agg #[.slice A' (s.length + 1) c', .slice (some ⟨g', 0, none⟩) (s.length + 1) (s.length + 1), k]) ∧
   EF w.heap.size A' g' ∧ EH (((w10.setCell ⟨g + 1, 0, none⟩ u).setCell ⟨g + 1, 1, none⟩ v).setCell ⟨g + 1, 2, none⟩ k) s h row' kd' A' c' g' ∧ Below w.heap.size w (((w10.setCell ⟨g + 1, 0, none⟩ u).setCell ⟨g + 1, 1, none⟩ v).setCell ⟨g + 1, 2, none⟩ k) := by
 have hsw := hBw.size
 have h1 := ((ownsRow_setCell_below (ownsRow_setCell_below (ownsRow_setCell_below (yah hF hb10 (qad _)) (a := ⟨g + 1, 0, none⟩) (by show g + 1 < w1.heap.size; omega) u) (a := ⟨g + 1, 1, none⟩) (by show g + 1 < w1.heap.size; omega) v) (a := ⟨g + 1, 2, none⟩) (by show g + 1 < w1.heap.size; omega) k))
 obtain ⟨A8, c8, e8, hc, hr⟩ := yae h1
 injection e8 with e8 _ e9
 subst e8 e9
 refine ⟨_, _, _, row, kd, rfl, ⟨fun ad e => by subst e; have := (h1.lt _ rfl).1; omega, by omega⟩, ⟨hse, hc, hr, ((hK.far (p := ⟨g + 1, 0, none⟩) (by show gK ≠ g + 1; omega) u).far (p := ⟨g + 1, 1, none⟩) (by show gK ≠ g + 1; omega) v).far (p := ⟨g + 1, 2, none⟩) (by show gK ≠ g + 1; omega) k⟩, ?_⟩
 rw [hg]
 have h2 : Below g w w10 := hb1.trans ((hBw.mono (by omega)).trans (hb10.mono (by omega)))
 exact ((h2.setCell (p := ⟨g + 1, 0, none⟩) (by show g ≤ g + 1; omega) u).setCell (p := ⟨g + 1, 1, none⟩) (by show g ≤ g + 1; omega) v).setCell (p := ⟨g + 1, 2, none⟩) (by show g ≤ g + 1; omega) k
theorem cut_region1 {ι : Type} {P : Program} {id : Nat} {ops : Array Oper} {Q : Exit → Act → World → Prop} {T : Array Value} {ds : List Deferred} {w : World} (f : Array Value → ι → Array Value) (R : ι → World → Prop)
  (h1 : (Code.region id ops true).wp P (Exit.then (fun a' w' => ∃ x, a' = { tmps := f T x, defers := ds } ∧ R x w') (fun _ _ _ => False)) { tmps := T, defers := ds } w)
  (h2 : ∀ x w', R x w' → Q .normal { tmps := f T x, defers := ds } w') : (Code.region id ops true).wp P Q { tmps := T, defers := ds } w :=
 wp_mono h1 fun e a' w' h => by
  cases e with
  | normal =>
   obtain ⟨x, e2, h⟩ := h
   subst e2
   exact h2 x w' h
  | _ => exact h.elim
theorem s_first_any (s : List UInt8) (w : World) (hs : s.length ≤ 1000000) :
  Calls prog 115 #[.string ⟨s.toArray⟩] w fun e w' => ∃ A c g row kd, e = .returned (.agg #[.slice A (s.length + 1) c, .slice (some ⟨g, 0, none⟩) (s.length + 1) (s.length + 1), .int .i64 1]) ∧ EF w.heap.size A g ∧ EH w' s 1 row kd A c g ∧ Below w.heap.size w w' := by
 obtain ⟨i0, hi, hz0, hz1, hz9⟩ := qb1 ydc
 have hmf := s_mkfunc
 have hni : (s.length : Int) ≤ 1000000 := by omega
 have Hlen : Hid (∀ M, (∀ p ∈ List.range s.length, yba s p < M) → (splc (bks (yba s) (List.range s.length) M)).length = s.length) := qaa fun M h => by rw [bks_all_len _ _ M h, qa7]
 have Hkey : Hid (∀ p ∈ List.range s.length, yba s p ≤ 255) := qaa fun p _ => by
  have := u8_lt (s.getD p 0)
  unfold yba
  omega
 have hBx : Blk ((w.alloc (.cells #[.string ⟨s.toArray⟩] 9)).alloc (.cells #[.slice none 0 0, .slice none 0 0, .int .i64 0] 155)) w.heap.size 9 #[.string ⟨s.toArray⟩] := (Blk.new w _ _).alloc _
 have hRs : Blk ((w.alloc (.cells #[.string ⟨s.toArray⟩] 9)).alloc (.cells #[.slice none 0 0, .slice none 0 0, .int .i64 0] 155)) (w.heap.size + 1) 155 #[.slice none 0 0, .slice none 0 0, .int .i64 0] := by
  have := Blk.new (w.alloc (.cells #[.string ⟨s.toArray⟩] 9)) 155 #[.slice none 0 0, .slice none 0 0, .int .i64 0]
  rwa [qaw] at this
 have hB1 : Below w.heap.size w ((w.alloc (.cells #[.string ⟨s.toArray⟩] 9)).alloc (.cells #[.slice none 0 0, .slice none 0 0, .int .i64 0] 155)) := ((qak _ w).alloc (qad _) _).alloc (by simp) _
 have hsz : ((w.alloc (.cells #[.string ⟨s.toArray⟩] 9)).alloc (.cells #[.slice none 0 0, .slice none 0 0, .int .i64 0] 155)).heap.size = w.heap.size + 2 := by simp
 go_enter func115, ntmps115
 go_wp2
 generalize (w.alloc (.cells #[.string ⟨s.toArray⟩] 9)).alloc (.cells #[.slice none 0 0, .slice none 0 0, .int .i64 0] 155) = w1 at *
 generalize hg : w.heap.size = g at *
 have HBx : Hid (w1.cell? ⟨g, 0, none⟩ = some (.string ⟨s.toArray⟩)) := qaa (hBx.cell 0)
 have HRs := qaa hRs
 have Hgl := qaa hBx.lt
 have Hb1 := qaa hB1
 have Hsz := qaa hsz
 clear hBx hRs hB1 hsz
 refine cut_region1 (fun _ (x : Value × Value × Value × Value × Option Addr × Nat) => #[.string ⟨s.toArray⟩, .pointer (some ⟨g, 0, none⟩), .pointer (some ⟨g + 1, 0, none⟩), .slice x.2.2.2.2.1 (s.length + 1) x.2.2.2.2.2, undef, .string ⟨s.toArray⟩, .int .i64 s.length, x.1, .string ⟨s.toArray⟩, .int .i64 s.length, x.2.1, .string ⟨s.toArray⟩, x.2.2.1, x.2.2.2.1, .slice x.2.2.2.2.1 (s.length + 1) x.2.2.2.2.2, undef, undef, undef, undef, undef, undef]) (fun x w9 => ∃ M, w9.ownsRow w1.heap.size 3 1 (.slice x.2.2.2.2.1 (s.length + 1) x.2.2.2.2.2) (s.length + 1) (ints (splc (frow s M))) ∧ Below w1.heap.size w1 w9 ∧ ∀ p ∈ List.range s.length, yba s p < M) ?cutA ?cutB
 case cutA =>
  have HBw := qaa (qak w1.heap.size w1).drew
  refine wp_region_held_drew (S := (fun W => W.cell? ⟨g, 0, none⟩ = some (.string ⟨s.toArray⟩))) (by kernel_rfl) ((HBx.out)) (fun hHeld => ?_)
  refine qaU (i := 0) (oi := _) (v := ?_) rfl (by kernel_rfl) (by kernel_rfl) (by kernel_rfl) (fun _ _ _ h => h) (qay ⟨by rfl, ?_⟩) hHeld ?_
  rotate_left
  ·(intro wz hSw; go_simp; try (with_reducible rfl))
  try simp only [Act.put, qac, qai, qaf]
  refine qaU (i := 1) (oi := _) (v := ?_) rfl (by kernel_rfl) (by kernel_rfl) (by kernel_rfl) (fun _ _ _ h => h) (qay ⟨by rfl, ?_⟩) hHeld ?_
  rotate_left
  ·(intro wz hSw; go_simp; try (with_reducible rfl))
  try simp only [Act.put, qac, qai, qaf]
  refine qaU (i := 3) (oi := _) (v := ?_) rfl (by kernel_rfl) (by kernel_rfl) (by kernel_rfl) (fun _ _ _ h => h) (qay ⟨by rfl, ?_⟩) hHeld ?_
  rotate_left
  ·(intro wz hSw; go_simp; try (with_reducible rfl))
  try simp only [Act.put, qac, qai, qaf]
  refine qaU (i := 4) (oi := _) (v := ?_) rfl (by kernel_rfl) (by kernel_rfl) (by kernel_rfl) (fun _ _ _ h => h) (qay ⟨by rfl, ?_⟩) hHeld ?_
  rotate_left
  ·(intro wz hSw; go_simp; try (with_reducible rfl))
  try simp only [Act.put, qac, qai, qaf]
  refine qaU (i := 6) (oi := _) (v := ?_) rfl (by kernel_rfl) (by kernel_rfl) (by kernel_rfl) (fun _ _ _ h => h) (qay ⟨by rfl, ?_⟩) hHeld ?_
  rotate_left
  ·(intro wz hSw; go_simp; try (with_reducible rfl))
  try simp only [Act.put, qac, qai, qaf]
  refine qaO (rs := [2, 5, 7]) (by kernel_rfl) (by simp) ?_
  refine qa6 (o := _) rfl (fun K hK => ?_) ?_
  ·skip
   go_simp
   refine hK.out _ _ (((HBw.out.alloc HBw.out.size (.cells #[.int .i64 (s.length : Int)] 3)).cell (p := ⟨g, 0, none⟩) Hgl.out).trans HBx.out) (fun hH => ?_)
   clear hK K hHeld
   have hHeld := hH
   clear hH
   have HA := qaa (yca _ (s.length : Int) HBw.out.size)
   try rw [qaw] at HA
   try (replace HU := qaa (HU.out.below ((qak _ _).alloc (qad _) (.cells #[.int .i64 (s.length : Int)] 3)) HU.out.lt))
   try (replace HR := qaa (HR.out.below ((qak _ _).alloc (qad _) (.cells #[.int .i64 (s.length : Int)] 3)) HR.out.lt))
   try (replace HS := qaa (HS.out.below ((qak _ _).alloc (qad _) (.cells #[.int .i64 (s.length : Int)] 3)) HS.out.lt))
   replace HBw := qaa (HBw.out.alloc HBw.out.size (.cells #[.int .i64 (s.length : Int)] 3))
   try simp only [Act.put, qac, qai, qaf]
   refine qaO (rs := [5, 7]) (by kernel_rfl) (by simp) ?_
   refine qa6 (o := _) rfl (fun K hK => ?_) ?_
   ·skip
    go_simp
    go_at_call 159
    refine (ydj s.length _ (by omega)).mono ?_
    rintro e w5 ⟨gU, rfl, hU, hb1⟩
    try (replace HA := qaa (yah HA.out hb1 (qad _)))
    try (replace HR := qaa (HR.out.below hb1 HR.out.lt))
    have HU := qaa hU
    replace HBw := qaa (HBw.out.trans (hb1.mono HBw.out.size))
    clear hU
    refine hK.out _ _ ((HBw.out.cell (p := ⟨g, 0, none⟩) Hgl.out).trans HBx.out) (fun hH => ?_)
    clear hHeld hK K hb1
    have hHeld := hH
    clear hH
    try simp only [Act.put, qac, qai, qaf]
    refine qaO (rs := [7]) (by kernel_rfl) (by simp) ?_
    refine qa6 (o := _) rfl (fun K hK => ?_) qaK
    refine ybN (by rfl) (.tmp 11) _ _ 5 (by rfl) s underlying9 underlying36 underlying5 (by rfl) ?_
    intro gR cR wR hR hgR hb1 hcR
    replace HBw := qaa (HBw.out.trans (hb1.mono HBw.out.size))
    refine hK.out _ _ ((HBw.out.cell (p := ⟨g, 0, none⟩) Hgl.out).trans HBx.out) (fun hH => ?_)
    clear hK K hHeld
    have hHeld := hH
    clear hH
    have HR := qaa hR
    try (replace HA := qaa (yah HA.out hb1 (qad _)))
    try (replace HU := qaa (HU.out.below hb1 HU.out.lt))
    try (replace HS := qaa (HS.out.below hb1 HS.out.lt))
    clear hb1 hgR hcR hR
    try simp only [Act.put, qac, qai, qaf]
    refine qaO (rs := [8]) (by kernel_rfl) (by simp) ?_
    refine qa6 (o := _) rfl (fun K hK => ?_) qaK
    go_simp
    go_at_call 158
    refine (yaK (List.range s.length) (yba s) _ _ s.length _ _ _ _ (qa7 ..) (by omega) Hkey.out (yar HU.out (by rw [yao, qa7])) (ybk HR.out)).mono ?_
    rintro e w8 ⟨gS, M, rfl, _, hM, hS, hb1⟩
    try (replace HA := qaa (yah HA.out hb1 (qad _)))
    try (replace HU := qaa (HU.out.below hb1 HU.out.lt))
    try (replace HR := qaa (HR.out.below hb1 HR.out.lt))
    have HS := qaa hS
    have HM := qaa hM
    replace HBw := qaa (HBw.out.trans (hb1.mono HBw.out.size))
    clear hS hM
    refine hK.out _ _ ((HBw.out.cell (p := ⟨g, 0, none⟩) Hgl.out).trans HBx.out) (fun hH => ?_)
    clear hHeld hK K hb1
    have hHeld := hH
    clear hH
    try simp only [Act.put, qac, qai, qaf]
    refine qaO (rs := [9]) (by kernel_rfl) (by simp) ?_
    refine qa6 (o := _) rfl (fun K hK => ?_) qaK
    refine yac (by rfl) (.tmp 7) (.tmp 13) 28 (by rfl) w1.heap.size 3 i0 _ 1 8 underlying28 hi hz0 hz1 hz9 rfl (by decide) _ 1 (ints [(s.length : Int)]) (by rfl) HA.out _ s.length s.length _ (ints (splc (bks (yba s) (List.range s.length) M))) (by rfl) (yar HS.out (Hlen.out M HM.out)) (ya4 _) (by unfold maxLen; omega) (by omega) HBw.out.size (s.length + 1) (by omega) ?_
    intro A9 c9 w9 ho_ hg_ hs_
    replace HBw := qaa (yaU HBw.out HA.out hg_)
    refine hK.out _ _ ((HBw.out.cell (p := ⟨g, 0, none⟩) Hgl.out).trans HBx.out) (fun hH => ?_)
    clear hK K hHeld
    have hHeld := hH
    clear hH
    have HF : Hid (w9.ownsRow w1.heap.size 3 1 (.slice A9 (s.length + 1) c9) (s.length + 1) (ints (splc (frow s M)))) := qaa (by have := ho_; rw [← yav] at this; exact this)
    clear ho_ hg_ hs_ HA HU HR HS
    try simp only [Act.put, qac, qai, qaf]
    refine qaU (i := 10) (oi := _) (v := ?_) rfl (by kernel_rfl) (by kernel_rfl) (by kernel_rfl) (fun _ _ _ h => h) (qay ⟨by rfl, ?_⟩) hHeld ?_
    rotate_left
    ·(intro wz hSw; go_simp; try (with_reducible rfl))
    try simp only [Act.put, qac, qai, qaf]
    refine qcr (by kernel_rfl) ?_ _
    exact ⟨(_, _, _, _, A9, c9), rfl, M, HF.out, HBw.out, HM.out⟩
   refine qa6 (o := _) rfl (fun K hK => ?_) qaK
   refine ybN (by rfl) (.tmp 11) _ _ 5 (by rfl) s underlying9 underlying36 underlying5 (by rfl) ?_
   intro gR cR wR hR hgR hb1 hcR
   replace HBw := qaa (HBw.out.trans (hb1.mono HBw.out.size))
   refine hK.out _ _ ((HBw.out.cell (p := ⟨g, 0, none⟩) Hgl.out).trans HBx.out) (fun hH => ?_)
   clear hK K hHeld
   have hHeld := hH
   clear hH
   have HR := qaa hR
   try (replace HA := qaa (yah HA.out hb1 (qad _)))
   try (replace HU := qaa (HU.out.below hb1 HU.out.lt))
   try (replace HS := qaa (HS.out.below hb1 HS.out.lt))
   clear hb1 hgR hcR hR
   try simp only [Act.put, qac, qai, qaf]
   refine qaO (rs := [5]) (by kernel_rfl) (by simp) ?_
   refine qa6 (o := _) rfl (fun K hK => ?_) qaK
   go_simp
   go_at_call 159
   refine (ydj s.length _ (by omega)).mono ?_
   rintro e w5 ⟨gU, rfl, hU, hb1⟩
   try (replace HA := qaa (yah HA.out hb1 (qad _)))
   try (replace HR := qaa (HR.out.below hb1 HR.out.lt))
   have HU := qaa hU
   replace HBw := qaa (HBw.out.trans (hb1.mono HBw.out.size))
   clear hU
   refine hK.out _ _ ((HBw.out.cell (p := ⟨g, 0, none⟩) Hgl.out).trans HBx.out) (fun hH => ?_)
   clear hHeld hK K hb1
   have hHeld := hH
   clear hH
   try simp only [Act.put, qac, qai, qaf]
   refine qaO (rs := [8]) (by kernel_rfl) (by simp) ?_
   refine qa6 (o := _) rfl (fun K hK => ?_) qaK
   go_simp
   go_at_call 158
   refine (yaK (List.range s.length) (yba s) _ _ s.length _ _ _ _ (qa7 ..) (by omega) Hkey.out (yar HU.out (by rw [yao, qa7])) (ybk HR.out)).mono ?_
   rintro e w8 ⟨gS, M, rfl, _, hM, hS, hb1⟩
   try (replace HA := qaa (yah HA.out hb1 (qad _)))
   try (replace HU := qaa (HU.out.below hb1 HU.out.lt))
   try (replace HR := qaa (HR.out.below hb1 HR.out.lt))
   have HS := qaa hS
   have HM := qaa hM
   replace HBw := qaa (HBw.out.trans (hb1.mono HBw.out.size))
   clear hS hM
   refine hK.out _ _ ((HBw.out.cell (p := ⟨g, 0, none⟩) Hgl.out).trans HBx.out) (fun hH => ?_)
   clear hHeld hK K hb1
   have hHeld := hH
   clear hH
   try simp only [Act.put, qac, qai, qaf]
   refine qaO (rs := [9]) (by kernel_rfl) (by simp) ?_
   refine qa6 (o := _) rfl (fun K hK => ?_) qaK
   refine yac (by rfl) (.tmp 7) (.tmp 13) 28 (by rfl) w1.heap.size 3 i0 _ 1 8 underlying28 hi hz0 hz1 hz9 rfl (by decide) _ 1 (ints [(s.length : Int)]) (by rfl) HA.out _ s.length s.length _ (ints (splc (bks (yba s) (List.range s.length) M))) (by rfl) (yar HS.out (Hlen.out M HM.out)) (ya4 _) (by unfold maxLen; omega) (by omega) HBw.out.size (s.length + 1) (by omega) ?_
   intro A9 c9 w9 ho_ hg_ hs_
   replace HBw := qaa (yaU HBw.out HA.out hg_)
   refine hK.out _ _ ((HBw.out.cell (p := ⟨g, 0, none⟩) Hgl.out).trans HBx.out) (fun hH => ?_)
   clear hK K hHeld
   have hHeld := hH
   clear hH
   have HF : Hid (w9.ownsRow w1.heap.size 3 1 (.slice A9 (s.length + 1) c9) (s.length + 1) (ints (splc (frow s M)))) := qaa (by have := ho_; rw [← yav] at this; exact this)
   clear ho_ hg_ hs_ HA HU HR HS
   try simp only [Act.put, qac, qai, qaf]
   refine qaU (i := 10) (oi := _) (v := ?_) rfl (by kernel_rfl) (by kernel_rfl) (by kernel_rfl) (fun _ _ _ h => h) (qay ⟨by rfl, ?_⟩) hHeld ?_
   rotate_left
   ·(intro wz hSw; go_simp; try (with_reducible rfl))
   try simp only [Act.put, qac, qai, qaf]
   refine qcr (by kernel_rfl) ?_ _
   exact ⟨(_, _, _, _, A9, c9), rfl, M, HF.out, HBw.out, HM.out⟩
  refine qa6 (o := _) rfl (fun K hK => ?_) ?_
  ·skip
   go_simp
   go_at_call 159
   refine (ydj s.length _ (by omega)).mono ?_
   rintro e w5 ⟨gU, rfl, hU, hb1⟩
   try (replace HA := qaa (yah HA.out hb1 (qad _)))
   try (replace HR := qaa (HR.out.below hb1 HR.out.lt))
   have HU := qaa hU
   replace HBw := qaa (HBw.out.trans (hb1.mono HBw.out.size))
   clear hU
   refine hK.out _ _ ((HBw.out.cell (p := ⟨g, 0, none⟩) Hgl.out).trans HBx.out) (fun hH => ?_)
   clear hHeld hK K hb1
   have hHeld := hH
   clear hH
   try simp only [Act.put, qac, qai, qaf]
   refine qaO (rs := [2, 7]) (by kernel_rfl) (by simp) ?_
   refine qa6 (o := _) rfl (fun K hK => ?_) ?_
   ·skip
    go_simp
    refine hK.out _ _ (((HBw.out.alloc HBw.out.size (.cells #[.int .i64 (s.length : Int)] 3)).cell (p := ⟨g, 0, none⟩) Hgl.out).trans HBx.out) (fun hH => ?_)
    clear hK K hHeld
    have hHeld := hH
    clear hH
    have HA := qaa (yca _ (s.length : Int) HBw.out.size)
    try rw [qaw] at HA
    try (replace HU := qaa (HU.out.below ((qak _ _).alloc (qad _) (.cells #[.int .i64 (s.length : Int)] 3)) HU.out.lt))
    try (replace HR := qaa (HR.out.below ((qak _ _).alloc (qad _) (.cells #[.int .i64 (s.length : Int)] 3)) HR.out.lt))
    try (replace HS := qaa (HS.out.below ((qak _ _).alloc (qad _) (.cells #[.int .i64 (s.length : Int)] 3)) HS.out.lt))
    replace HBw := qaa (HBw.out.alloc HBw.out.size (.cells #[.int .i64 (s.length : Int)] 3))
    try simp only [Act.put, qac, qai, qaf]
    refine qaO (rs := [7]) (by kernel_rfl) (by simp) ?_
    refine qa6 (o := _) rfl (fun K hK => ?_) qaK
    refine ybN (by rfl) (.tmp 11) _ _ 5 (by rfl) s underlying9 underlying36 underlying5 (by rfl) ?_
    intro gR cR wR hR hgR hb1 hcR
    replace HBw := qaa (HBw.out.trans (hb1.mono HBw.out.size))
    refine hK.out _ _ ((HBw.out.cell (p := ⟨g, 0, none⟩) Hgl.out).trans HBx.out) (fun hH => ?_)
    clear hK K hHeld
    have hHeld := hH
    clear hH
    have HR := qaa hR
    try (replace HA := qaa (yah HA.out hb1 (qad _)))
    try (replace HU := qaa (HU.out.below hb1 HU.out.lt))
    try (replace HS := qaa (HS.out.below hb1 HS.out.lt))
    clear hb1 hgR hcR hR
    try simp only [Act.put, qac, qai, qaf]
    refine qaO (rs := [8]) (by kernel_rfl) (by simp) ?_
    refine qa6 (o := _) rfl (fun K hK => ?_) qaK
    go_simp
    go_at_call 158
    refine (yaK (List.range s.length) (yba s) _ _ s.length _ _ _ _ (qa7 ..) (by omega) Hkey.out (yar HU.out (by rw [yao, qa7])) (ybk HR.out)).mono ?_
    rintro e w8 ⟨gS, M, rfl, _, hM, hS, hb1⟩
    try (replace HA := qaa (yah HA.out hb1 (qad _)))
    try (replace HU := qaa (HU.out.below hb1 HU.out.lt))
    try (replace HR := qaa (HR.out.below hb1 HR.out.lt))
    have HS := qaa hS
    have HM := qaa hM
    replace HBw := qaa (HBw.out.trans (hb1.mono HBw.out.size))
    clear hS hM
    refine hK.out _ _ ((HBw.out.cell (p := ⟨g, 0, none⟩) Hgl.out).trans HBx.out) (fun hH => ?_)
    clear hHeld hK K hb1
    have hHeld := hH
    clear hH
    try simp only [Act.put, qac, qai, qaf]
    refine qaO (rs := [9]) (by kernel_rfl) (by simp) ?_
    refine qa6 (o := _) rfl (fun K hK => ?_) qaK
    refine yac (by rfl) (.tmp 7) (.tmp 13) 28 (by rfl) w1.heap.size 3 i0 _ 1 8 underlying28 hi hz0 hz1 hz9 rfl (by decide) _ 1 (ints [(s.length : Int)]) (by rfl) HA.out _ s.length s.length _ (ints (splc (bks (yba s) (List.range s.length) M))) (by rfl) (yar HS.out (Hlen.out M HM.out)) (ya4 _) (by unfold maxLen; omega) (by omega) HBw.out.size (s.length + 1) (by omega) ?_
    intro A9 c9 w9 ho_ hg_ hs_
    replace HBw := qaa (yaU HBw.out HA.out hg_)
    refine hK.out _ _ ((HBw.out.cell (p := ⟨g, 0, none⟩) Hgl.out).trans HBx.out) (fun hH => ?_)
    clear hK K hHeld
    have hHeld := hH
    clear hH
    have HF : Hid (w9.ownsRow w1.heap.size 3 1 (.slice A9 (s.length + 1) c9) (s.length + 1) (ints (splc (frow s M)))) := qaa (by have := ho_; rw [← yav] at this; exact this)
    clear ho_ hg_ hs_ HA HU HR HS
    try simp only [Act.put, qac, qai, qaf]
    refine qaU (i := 10) (oi := _) (v := ?_) rfl (by kernel_rfl) (by kernel_rfl) (by kernel_rfl) (fun _ _ _ h => h) (qay ⟨by rfl, ?_⟩) hHeld ?_
    rotate_left
    ·(intro wz hSw; go_simp; try (with_reducible rfl))
    try simp only [Act.put, qac, qai, qaf]
    refine qcr (by kernel_rfl) ?_ _
    exact ⟨(_, _, _, _, A9, c9), rfl, M, HF.out, HBw.out, HM.out⟩
   refine qa6 (o := _) rfl (fun K hK => ?_) qaK
   refine ybN (by rfl) (.tmp 11) _ _ 5 (by rfl) s underlying9 underlying36 underlying5 (by rfl) ?_
   intro gR cR wR hR hgR hb1 hcR
   replace HBw := qaa (HBw.out.trans (hb1.mono HBw.out.size))
   refine hK.out _ _ ((HBw.out.cell (p := ⟨g, 0, none⟩) Hgl.out).trans HBx.out) (fun hH => ?_)
   clear hK K hHeld
   have hHeld := hH
   clear hH
   have HR := qaa hR
   try (replace HA := qaa (yah HA.out hb1 (qad _)))
   try (replace HU := qaa (HU.out.below hb1 HU.out.lt))
   try (replace HS := qaa (HS.out.below hb1 HS.out.lt))
   clear hb1 hgR hcR hR
   try simp only [Act.put, qac, qai, qaf]
   refine qaO (rs := [2, 8]) (by kernel_rfl) (by simp) ?_
   refine qa6 (o := _) rfl (fun K hK => ?_) ?_
   ·skip
    go_simp
    refine hK.out _ _ (((HBw.out.alloc HBw.out.size (.cells #[.int .i64 (s.length : Int)] 3)).cell (p := ⟨g, 0, none⟩) Hgl.out).trans HBx.out) (fun hH => ?_)
    clear hK K hHeld
    have hHeld := hH
    clear hH
    have HA := qaa (yca _ (s.length : Int) HBw.out.size)
    try rw [qaw] at HA
    try (replace HU := qaa (HU.out.below ((qak _ _).alloc (qad _) (.cells #[.int .i64 (s.length : Int)] 3)) HU.out.lt))
    try (replace HR := qaa (HR.out.below ((qak _ _).alloc (qad _) (.cells #[.int .i64 (s.length : Int)] 3)) HR.out.lt))
    try (replace HS := qaa (HS.out.below ((qak _ _).alloc (qad _) (.cells #[.int .i64 (s.length : Int)] 3)) HS.out.lt))
    replace HBw := qaa (HBw.out.alloc HBw.out.size (.cells #[.int .i64 (s.length : Int)] 3))
    try simp only [Act.put, qac, qai, qaf]
    refine qaO (rs := [8]) (by kernel_rfl) (by simp) ?_
    refine qa6 (o := _) rfl (fun K hK => ?_) qaK
    go_simp
    go_at_call 158
    refine (yaK (List.range s.length) (yba s) _ _ s.length _ _ _ _ (qa7 ..) (by omega) Hkey.out (yar HU.out (by rw [yao, qa7])) (ybk HR.out)).mono ?_
    rintro e w8 ⟨gS, M, rfl, _, hM, hS, hb1⟩
    try (replace HA := qaa (yah HA.out hb1 (qad _)))
    try (replace HU := qaa (HU.out.below hb1 HU.out.lt))
    try (replace HR := qaa (HR.out.below hb1 HR.out.lt))
    have HS := qaa hS
    have HM := qaa hM
    replace HBw := qaa (HBw.out.trans (hb1.mono HBw.out.size))
    clear hS hM
    refine hK.out _ _ ((HBw.out.cell (p := ⟨g, 0, none⟩) Hgl.out).trans HBx.out) (fun hH => ?_)
    clear hHeld hK K hb1
    have hHeld := hH
    clear hH
    try simp only [Act.put, qac, qai, qaf]
    refine qaO (rs := [9]) (by kernel_rfl) (by simp) ?_
    refine qa6 (o := _) rfl (fun K hK => ?_) qaK
    refine yac (by rfl) (.tmp 7) (.tmp 13) 28 (by rfl) w1.heap.size 3 i0 _ 1 8 underlying28 hi hz0 hz1 hz9 rfl (by decide) _ 1 (ints [(s.length : Int)]) (by rfl) HA.out _ s.length s.length _ (ints (splc (bks (yba s) (List.range s.length) M))) (by rfl) (yar HS.out (Hlen.out M HM.out)) (ya4 _) (by unfold maxLen; omega) (by omega) HBw.out.size (s.length + 1) (by omega) ?_
    intro A9 c9 w9 ho_ hg_ hs_
    replace HBw := qaa (yaU HBw.out HA.out hg_)
    refine hK.out _ _ ((HBw.out.cell (p := ⟨g, 0, none⟩) Hgl.out).trans HBx.out) (fun hH => ?_)
    clear hK K hHeld
    have hHeld := hH
    clear hH
    have HF : Hid (w9.ownsRow w1.heap.size 3 1 (.slice A9 (s.length + 1) c9) (s.length + 1) (ints (splc (frow s M)))) := qaa (by have := ho_; rw [← yav] at this; exact this)
    clear ho_ hg_ hs_ HA HU HR HS
    try simp only [Act.put, qac, qai, qaf]
    refine qaU (i := 10) (oi := _) (v := ?_) rfl (by kernel_rfl) (by kernel_rfl) (by kernel_rfl) (fun _ _ _ h => h) (qay ⟨by rfl, ?_⟩) hHeld ?_
    rotate_left
    ·(intro wz hSw; go_simp; try (with_reducible rfl))
    try simp only [Act.put, qac, qai, qaf]
    refine qcr (by kernel_rfl) ?_ _
    exact ⟨(_, _, _, _, A9, c9), rfl, M, HF.out, HBw.out, HM.out⟩
   refine qa6 (o := _) rfl (fun K hK => ?_) qaK
   go_simp
   go_at_call 158
   refine (yaK (List.range s.length) (yba s) _ _ s.length _ _ _ _ (qa7 ..) (by omega) Hkey.out (yar HU.out (by rw [yao, qa7])) (ybk HR.out)).mono ?_
   rintro e w8 ⟨gS, M, rfl, _, hM, hS, hb1⟩
   try (replace HA := qaa (yah HA.out hb1 (qad _)))
   try (replace HU := qaa (HU.out.below hb1 HU.out.lt))
   try (replace HR := qaa (HR.out.below hb1 HR.out.lt))
   have HS := qaa hS
   have HM := qaa hM
   replace HBw := qaa (HBw.out.trans (hb1.mono HBw.out.size))
   clear hS hM
   refine hK.out _ _ ((HBw.out.cell (p := ⟨g, 0, none⟩) Hgl.out).trans HBx.out) (fun hH => ?_)
   clear hHeld hK K hb1
   have hHeld := hH
   clear hH
   try simp only [Act.put, qac, qai, qaf]
   refine qaO (rs := [2]) (by kernel_rfl) (by simp) ?_
   refine qa6 (o := _) rfl (fun K hK => ?_) qaK
   go_simp
   refine hK.out _ _ (((HBw.out.alloc HBw.out.size (.cells #[.int .i64 (s.length : Int)] 3)).cell (p := ⟨g, 0, none⟩) Hgl.out).trans HBx.out) (fun hH => ?_)
   clear hK K hHeld
   have hHeld := hH
   clear hH
   have HA := qaa (yca _ (s.length : Int) HBw.out.size)
   try rw [qaw] at HA
   try (replace HU := qaa (HU.out.below ((qak _ _).alloc (qad _) (.cells #[.int .i64 (s.length : Int)] 3)) HU.out.lt))
   try (replace HR := qaa (HR.out.below ((qak _ _).alloc (qad _) (.cells #[.int .i64 (s.length : Int)] 3)) HR.out.lt))
   try (replace HS := qaa (HS.out.below ((qak _ _).alloc (qad _) (.cells #[.int .i64 (s.length : Int)] 3)) HS.out.lt))
   replace HBw := qaa (HBw.out.alloc HBw.out.size (.cells #[.int .i64 (s.length : Int)] 3))
   try simp only [Act.put, qac, qai, qaf]
   refine qaO (rs := [9]) (by kernel_rfl) (by simp) ?_
   refine qa6 (o := _) rfl (fun K hK => ?_) qaK
   refine yac (by rfl) (.tmp 7) (.tmp 13) 28 (by rfl) w1.heap.size 3 i0 _ 1 8 underlying28 hi hz0 hz1 hz9 rfl (by decide) _ 1 (ints [(s.length : Int)]) (by rfl) HA.out _ s.length s.length _ (ints (splc (bks (yba s) (List.range s.length) M))) (by rfl) (yar HS.out (Hlen.out M HM.out)) (ya4 _) (by unfold maxLen; omega) (by omega) HBw.out.size (s.length + 1) (by omega) ?_
   intro A9 c9 w9 ho_ hg_ hs_
   replace HBw := qaa (yaU HBw.out HA.out hg_)
   refine hK.out _ _ ((HBw.out.cell (p := ⟨g, 0, none⟩) Hgl.out).trans HBx.out) (fun hH => ?_)
   clear hK K hHeld
   have hHeld := hH
   clear hH
   have HF : Hid (w9.ownsRow w1.heap.size 3 1 (.slice A9 (s.length + 1) c9) (s.length + 1) (ints (splc (frow s M)))) := qaa (by have := ho_; rw [← yav] at this; exact this)
   clear ho_ hg_ hs_ HA HU HR HS
   try simp only [Act.put, qac, qai, qaf]
   refine qaU (i := 10) (oi := _) (v := ?_) rfl (by kernel_rfl) (by kernel_rfl) (by kernel_rfl) (fun _ _ _ h => h) (qay ⟨by rfl, ?_⟩) hHeld ?_
   rotate_left
   ·(intro wz hSw; go_simp; try (with_reducible rfl))
   try simp only [Act.put, qac, qai, qaf]
   refine qcr (by kernel_rfl) ?_ _
   exact ⟨(_, _, _, _, A9, c9), rfl, M, HF.out, HBw.out, HM.out⟩
  refine qa6 (o := _) rfl (fun K hK => ?_) qaK
  refine ybN (by rfl) (.tmp 11) _ _ 5 (by rfl) s underlying9 underlying36 underlying5 (by rfl) ?_
  intro gR cR wR hR hgR hb1 hcR
  replace HBw := qaa (HBw.out.trans (hb1.mono HBw.out.size))
  refine hK.out _ _ ((HBw.out.cell (p := ⟨g, 0, none⟩) Hgl.out).trans HBx.out) (fun hH => ?_)
  clear hK K hHeld
  have hHeld := hH
  clear hH
  have HR := qaa hR
  try (replace HA := qaa (yah HA.out hb1 (qad _)))
  try (replace HU := qaa (HU.out.below hb1 HU.out.lt))
  try (replace HS := qaa (HS.out.below hb1 HS.out.lt))
  clear hb1 hgR hcR hR
  try simp only [Act.put, qac, qai, qaf]
  refine qaO (rs := [2, 5]) (by kernel_rfl) (by simp) ?_
  refine qa6 (o := _) rfl (fun K hK => ?_) ?_
  ·skip
   go_simp
   refine hK.out _ _ (((HBw.out.alloc HBw.out.size (.cells #[.int .i64 (s.length : Int)] 3)).cell (p := ⟨g, 0, none⟩) Hgl.out).trans HBx.out) (fun hH => ?_)
   clear hK K hHeld
   have hHeld := hH
   clear hH
   have HA := qaa (yca _ (s.length : Int) HBw.out.size)
   try rw [qaw] at HA
   try (replace HU := qaa (HU.out.below ((qak _ _).alloc (qad _) (.cells #[.int .i64 (s.length : Int)] 3)) HU.out.lt))
   try (replace HR := qaa (HR.out.below ((qak _ _).alloc (qad _) (.cells #[.int .i64 (s.length : Int)] 3)) HR.out.lt))
   try (replace HS := qaa (HS.out.below ((qak _ _).alloc (qad _) (.cells #[.int .i64 (s.length : Int)] 3)) HS.out.lt))
   replace HBw := qaa (HBw.out.alloc HBw.out.size (.cells #[.int .i64 (s.length : Int)] 3))
   try simp only [Act.put, qac, qai, qaf]
   refine qaO (rs := [5]) (by kernel_rfl) (by simp) ?_
   refine qa6 (o := _) rfl (fun K hK => ?_) qaK
   go_simp
   go_at_call 159
   refine (ydj s.length _ (by omega)).mono ?_
   rintro e w5 ⟨gU, rfl, hU, hb1⟩
   try (replace HA := qaa (yah HA.out hb1 (qad _)))
   try (replace HR := qaa (HR.out.below hb1 HR.out.lt))
   have HU := qaa hU
   replace HBw := qaa (HBw.out.trans (hb1.mono HBw.out.size))
   clear hU
   refine hK.out _ _ ((HBw.out.cell (p := ⟨g, 0, none⟩) Hgl.out).trans HBx.out) (fun hH => ?_)
   clear hHeld hK K hb1
   have hHeld := hH
   clear hH
   try simp only [Act.put, qac, qai, qaf]
   refine qaO (rs := [8]) (by kernel_rfl) (by simp) ?_
   refine qa6 (o := _) rfl (fun K hK => ?_) qaK
   go_simp
   go_at_call 158
   refine (yaK (List.range s.length) (yba s) _ _ s.length _ _ _ _ (qa7 ..) (by omega) Hkey.out (yar HU.out (by rw [yao, qa7])) (ybk HR.out)).mono ?_
   rintro e w8 ⟨gS, M, rfl, _, hM, hS, hb1⟩
   try (replace HA := qaa (yah HA.out hb1 (qad _)))
   try (replace HU := qaa (HU.out.below hb1 HU.out.lt))
   try (replace HR := qaa (HR.out.below hb1 HR.out.lt))
   have HS := qaa hS
   have HM := qaa hM
   replace HBw := qaa (HBw.out.trans (hb1.mono HBw.out.size))
   clear hS hM
   refine hK.out _ _ ((HBw.out.cell (p := ⟨g, 0, none⟩) Hgl.out).trans HBx.out) (fun hH => ?_)
   clear hHeld hK K hb1
   have hHeld := hH
   clear hH
   try simp only [Act.put, qac, qai, qaf]
   refine qaO (rs := [9]) (by kernel_rfl) (by simp) ?_
   refine qa6 (o := _) rfl (fun K hK => ?_) qaK
   refine yac (by rfl) (.tmp 7) (.tmp 13) 28 (by rfl) w1.heap.size 3 i0 _ 1 8 underlying28 hi hz0 hz1 hz9 rfl (by decide) _ 1 (ints [(s.length : Int)]) (by rfl) HA.out _ s.length s.length _ (ints (splc (bks (yba s) (List.range s.length) M))) (by rfl) (yar HS.out (Hlen.out M HM.out)) (ya4 _) (by unfold maxLen; omega) (by omega) HBw.out.size (s.length + 1) (by omega) ?_
   intro A9 c9 w9 ho_ hg_ hs_
   replace HBw := qaa (yaU HBw.out HA.out hg_)
   refine hK.out _ _ ((HBw.out.cell (p := ⟨g, 0, none⟩) Hgl.out).trans HBx.out) (fun hH => ?_)
   clear hK K hHeld
   have hHeld := hH
   clear hH
   have HF : Hid (w9.ownsRow w1.heap.size 3 1 (.slice A9 (s.length + 1) c9) (s.length + 1) (ints (splc (frow s M)))) := qaa (by have := ho_; rw [← yav] at this; exact this)
   clear ho_ hg_ hs_ HA HU HR HS
   try simp only [Act.put, qac, qai, qaf]
   refine qaU (i := 10) (oi := _) (v := ?_) rfl (by kernel_rfl) (by kernel_rfl) (by kernel_rfl) (fun _ _ _ h => h) (qay ⟨by rfl, ?_⟩) hHeld ?_
   rotate_left
   ·(intro wz hSw; go_simp; try (with_reducible rfl))
   try simp only [Act.put, qac, qai, qaf]
   refine qcr (by kernel_rfl) ?_ _
   exact ⟨(_, _, _, _, A9, c9), rfl, M, HF.out, HBw.out, HM.out⟩
  refine qa6 (o := _) rfl (fun K hK => ?_) qaK
  go_simp
  go_at_call 159
  refine (ydj s.length _ (by omega)).mono ?_
  rintro e w5 ⟨gU, rfl, hU, hb1⟩
  try (replace HA := qaa (yah HA.out hb1 (qad _)))
  try (replace HR := qaa (HR.out.below hb1 HR.out.lt))
  have HU := qaa hU
  replace HBw := qaa (HBw.out.trans (hb1.mono HBw.out.size))
  clear hU
  refine hK.out _ _ ((HBw.out.cell (p := ⟨g, 0, none⟩) Hgl.out).trans HBx.out) (fun hH => ?_)
  clear hHeld hK K hb1
  have hHeld := hH
  clear hH
  try simp only [Act.put, qac, qai, qaf]
  refine qaO (rs := [2, 8]) (by kernel_rfl) (by simp) ?_
  refine qa6 (o := _) rfl (fun K hK => ?_) ?_
  ·skip
   go_simp
   refine hK.out _ _ (((HBw.out.alloc HBw.out.size (.cells #[.int .i64 (s.length : Int)] 3)).cell (p := ⟨g, 0, none⟩) Hgl.out).trans HBx.out) (fun hH => ?_)
   clear hK K hHeld
   have hHeld := hH
   clear hH
   have HA := qaa (yca _ (s.length : Int) HBw.out.size)
   try rw [qaw] at HA
   try (replace HU := qaa (HU.out.below ((qak _ _).alloc (qad _) (.cells #[.int .i64 (s.length : Int)] 3)) HU.out.lt))
   try (replace HR := qaa (HR.out.below ((qak _ _).alloc (qad _) (.cells #[.int .i64 (s.length : Int)] 3)) HR.out.lt))
   try (replace HS := qaa (HS.out.below ((qak _ _).alloc (qad _) (.cells #[.int .i64 (s.length : Int)] 3)) HS.out.lt))
   replace HBw := qaa (HBw.out.alloc HBw.out.size (.cells #[.int .i64 (s.length : Int)] 3))
   try simp only [Act.put, qac, qai, qaf]
   refine qaO (rs := [8]) (by kernel_rfl) (by simp) ?_
   refine qa6 (o := _) rfl (fun K hK => ?_) qaK
   go_simp
   go_at_call 158
   refine (yaK (List.range s.length) (yba s) _ _ s.length _ _ _ _ (qa7 ..) (by omega) Hkey.out (yar HU.out (by rw [yao, qa7])) (ybk HR.out)).mono ?_
   rintro e w8 ⟨gS, M, rfl, _, hM, hS, hb1⟩
   try (replace HA := qaa (yah HA.out hb1 (qad _)))
   try (replace HU := qaa (HU.out.below hb1 HU.out.lt))
   try (replace HR := qaa (HR.out.below hb1 HR.out.lt))
   have HS := qaa hS
   have HM := qaa hM
   replace HBw := qaa (HBw.out.trans (hb1.mono HBw.out.size))
   clear hS hM
   refine hK.out _ _ ((HBw.out.cell (p := ⟨g, 0, none⟩) Hgl.out).trans HBx.out) (fun hH => ?_)
   clear hHeld hK K hb1
   have hHeld := hH
   clear hH
   try simp only [Act.put, qac, qai, qaf]
   refine qaO (rs := [9]) (by kernel_rfl) (by simp) ?_
   refine qa6 (o := _) rfl (fun K hK => ?_) qaK
   refine yac (by rfl) (.tmp 7) (.tmp 13) 28 (by rfl) w1.heap.size 3 i0 _ 1 8 underlying28 hi hz0 hz1 hz9 rfl (by decide) _ 1 (ints [(s.length : Int)]) (by rfl) HA.out _ s.length s.length _ (ints (splc (bks (yba s) (List.range s.length) M))) (by rfl) (yar HS.out (Hlen.out M HM.out)) (ya4 _) (by unfold maxLen; omega) (by omega) HBw.out.size (s.length + 1) (by omega) ?_
   intro A9 c9 w9 ho_ hg_ hs_
   replace HBw := qaa (yaU HBw.out HA.out hg_)
   refine hK.out _ _ ((HBw.out.cell (p := ⟨g, 0, none⟩) Hgl.out).trans HBx.out) (fun hH => ?_)
   clear hK K hHeld
   have hHeld := hH
   clear hH
   have HF : Hid (w9.ownsRow w1.heap.size 3 1 (.slice A9 (s.length + 1) c9) (s.length + 1) (ints (splc (frow s M)))) := qaa (by have := ho_; rw [← yav] at this; exact this)
   clear ho_ hg_ hs_ HA HU HR HS
   try simp only [Act.put, qac, qai, qaf]
   refine qaU (i := 10) (oi := _) (v := ?_) rfl (by kernel_rfl) (by kernel_rfl) (by kernel_rfl) (fun _ _ _ h => h) (qay ⟨by rfl, ?_⟩) hHeld ?_
   rotate_left
   ·(intro wz hSw; go_simp; try (with_reducible rfl))
   try simp only [Act.put, qac, qai, qaf]
   refine qcr (by kernel_rfl) ?_ _
   exact ⟨(_, _, _, _, A9, c9), rfl, M, HF.out, HBw.out, HM.out⟩
  refine qa6 (o := _) rfl (fun K hK => ?_) qaK
  go_simp
  go_at_call 158
  refine (yaK (List.range s.length) (yba s) _ _ s.length _ _ _ _ (qa7 ..) (by omega) Hkey.out (yar HU.out (by rw [yao, qa7])) (ybk HR.out)).mono ?_
  rintro e w8 ⟨gS, M, rfl, _, hM, hS, hb1⟩
  try (replace HA := qaa (yah HA.out hb1 (qad _)))
  try (replace HU := qaa (HU.out.below hb1 HU.out.lt))
  try (replace HR := qaa (HR.out.below hb1 HR.out.lt))
  have HS := qaa hS
  have HM := qaa hM
  replace HBw := qaa (HBw.out.trans (hb1.mono HBw.out.size))
  clear hS hM
  refine hK.out _ _ ((HBw.out.cell (p := ⟨g, 0, none⟩) Hgl.out).trans HBx.out) (fun hH => ?_)
  clear hHeld hK K hb1
  have hHeld := hH
  clear hH
  try simp only [Act.put, qac, qai, qaf]
  refine qaO (rs := [2]) (by kernel_rfl) (by simp) ?_
  refine qa6 (o := _) rfl (fun K hK => ?_) qaK
  go_simp
  refine hK.out _ _ (((HBw.out.alloc HBw.out.size (.cells #[.int .i64 (s.length : Int)] 3)).cell (p := ⟨g, 0, none⟩) Hgl.out).trans HBx.out) (fun hH => ?_)
  clear hK K hHeld
  have hHeld := hH
  clear hH
  have HA := qaa (yca _ (s.length : Int) HBw.out.size)
  try rw [qaw] at HA
  try (replace HU := qaa (HU.out.below ((qak _ _).alloc (qad _) (.cells #[.int .i64 (s.length : Int)] 3)) HU.out.lt))
  try (replace HR := qaa (HR.out.below ((qak _ _).alloc (qad _) (.cells #[.int .i64 (s.length : Int)] 3)) HR.out.lt))
  try (replace HS := qaa (HS.out.below ((qak _ _).alloc (qad _) (.cells #[.int .i64 (s.length : Int)] 3)) HS.out.lt))
  replace HBw := qaa (HBw.out.alloc HBw.out.size (.cells #[.int .i64 (s.length : Int)] 3))
  try simp only [Act.put, qac, qai, qaf]
  refine qaO (rs := [9]) (by kernel_rfl) (by simp) ?_
  refine qa6 (o := _) rfl (fun K hK => ?_) qaK
  refine yac (by rfl) (.tmp 7) (.tmp 13) 28 (by rfl) w1.heap.size 3 i0 _ 1 8 underlying28 hi hz0 hz1 hz9 rfl (by decide) _ 1 (ints [(s.length : Int)]) (by rfl) HA.out _ s.length s.length _ (ints (splc (bks (yba s) (List.range s.length) M))) (by rfl) (yar HS.out (Hlen.out M HM.out)) (ya4 _) (by unfold maxLen; omega) (by omega) HBw.out.size (s.length + 1) (by omega) ?_
  intro A9 c9 w9 ho_ hg_ hs_
  replace HBw := qaa (yaU HBw.out HA.out hg_)
  refine hK.out _ _ ((HBw.out.cell (p := ⟨g, 0, none⟩) Hgl.out).trans HBx.out) (fun hH => ?_)
  clear hK K hHeld
  have hHeld := hH
  clear hH
  have HF : Hid (w9.ownsRow w1.heap.size 3 1 (.slice A9 (s.length + 1) c9) (s.length + 1) (ints (splc (frow s M)))) := qaa (by have := ho_; rw [← yav] at this; exact this)
  clear ho_ hg_ hs_ HA HU HR HS
  try simp only [Act.put, qac, qai, qaf]
  refine qaU (i := 10) (oi := _) (v := ?_) rfl (by kernel_rfl) (by kernel_rfl) (by kernel_rfl) (fun _ _ _ h => h) (qay ⟨by rfl, ?_⟩) hHeld ?_
  rotate_left
  ·(intro wz hSw; go_simp; try (with_reducible rfl))
  try simp only [Act.put, qac, qai, qaf]
  refine qcr (by kernel_rfl) ?_ _
  exact ⟨(_, _, _, _, A9, c9), rfl, M, HF.out, HBw.out, HM.out⟩
 case cutB =>
  rintro ⟨v7, v10, v12, v13, A9, c9⟩ w9 ⟨M, hF, hBw, hM⟩
  have HF := qaa hF
  have HBw := qaa hBw
  have HM := qaa hM
  clear hF hBw hM
  dsimp only
  obtain ⟨A8, c8, e8, hc9, hr9⟩ := yae HF.out
  injection e8 with e8 _ e9
  subst e8 e9
  have hse := se_first s M HM.out
  have Hnum := qaa (ydK (frow s M) (yfP s) A9 (s.length + 1) c9 g 160 w9 (fun W hW k hk => s_first_holds hse hs W k hk (((hW.cell (p := ⟨g, 0, none⟩) (qaZ Hgl.out HBw.out.size)).trans ((HBw.out.cell (p := ⟨g, 0, none⟩) Hgl.out).trans HBx.out)))) hse.len (by omega) hse.nodup (fun p hp => by have := (hse.mem p).1 hp; omega) hr9 (enters_of func160 (by kernel_rfl) rfl))
  have Hr9 := qaa hr9
  have Hse := qaa hse
  have Hc9 := qaa hc9
  have HRs9 := qaa (HRs.out.below HBw.out HRs.out.lt)
  clear hse hr9 hc9
  go_wp2_with (go_at_call 161; refine Hnum.out.mono ?_; rintro e w10 ⟨gK, rfl, hgK, hK, hb10⟩; have HRs10 := qaa (HRs9.out.below hb10 HRs9.out.lt); have x0 := HRs10.out.frozen 0; have x1 := HRs10.out.frozen 1; have x2 := HRs10.out.frozen 2; have y0 : w10.cell? ⟨g + 1, 0, none⟩ = some (.slice none 0 0) := HRs10.out.cell 0; have y1 : w10.cell? ⟨g + 1, 1, none⟩ = some (.slice none 0 0) := HRs10.out.cell 1; have y2 : w10.cell? ⟨g + 1, 2, none⟩ = some (.int .i64 0) := HRs10.out.cell 2; have HK := qaa hK; have Hb10 := qaa hb10; have HgK := qaa hgK; clear hK hb10 hgK)
  have hE := yfd (u := .slice A9 (s.length + 1) c9) (v := .slice (some ⟨gK, 0, none⟩) (s.length + 1) (s.length + 1)) (k := .int .i64 1) HRs10.out
  have d0 := hE.cell 0
  have d1 := hE.cell 1
  have d2 := hE.cell 2
  simp only [qaB, List.getElem?_cons_zero, qb4] at d0 d1 d2
  refine qbw (v := .agg #[.slice A9 (s.length + 1) c9, .slice (some ⟨gK, 0, none⟩) (s.length + 1) (s.length + 1), .int .i64 1]) (by simp [results, results115, go_sem, d0, d1, d2]) rfl ?_
  exact s_first_end hg Hse.out HF.out HK.out HgK.out Hb10.out HBw.out Hb1.out Hsz.out
end Go.Proofs.YtanjhbkbpalnaaaGreat
