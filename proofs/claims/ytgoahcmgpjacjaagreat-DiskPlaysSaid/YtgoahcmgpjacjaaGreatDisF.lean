/-
  Layer 20, the document's: change (ahead of the code's landing).
-/
import Derived.Test.YtgoahcmgpjacjaaGreatDisE
namespace Go.Proofs.YtgoahcmgpjacjaaGreat
set_option linter.unusedSimpArgs false
set_option linter.unusedVariables false
open Go.ChangeShapes Go.WideShapes Go.ChangeAt Go.RowKit Go.Joins Go.Deep
theorem dc_reads0 {W : World} {g : Nat} {c : Chg} (h : Blk W g 96 #[.string ⟨c.1.toArray⟩, .string ⟨c.2.1.toArray⟩, .int .i64 c.2.2]) : Reads W W.heap.size 3 (some ⟨g, 0, none⟩) 1 (dcs cfc [c]) := by
  refine ⟨rfl, fun _ => ⟨g, 0, rfl, h.lt, fun j u hj => ?_⟩⟩
  rw [Nat.zero_add, h.cell j]
  simpa [dcs] using hj
def DCNew (N : Nat) (W : World) (g : Nat) (z x : List UInt8) (y : Int) : Prop := Blk W g 96 #[.string ⟨z.toArray⟩, .string ⟨x.toArray⟩, .int .i64 y] ∧ N ≤ g
theorem DCNew.alloc {N g : Nat} {W : World} {z x : List UInt8} {y : Int} (h : DCNew N W g z x y) (o : Obj) : DCNew N (W.alloc o) g z x y := ⟨h.1.alloc o, h.2⟩
theorem dc_new {N : Nat} (W : World) (z x : List UInt8) (y : Int) (h : N ≤ W.heap.size) : DCNew N (W.alloc (.cells #[.string ⟨z.toArray⟩, .string ⟨x.toArray⟩, .int .i64 y] 96)) W.heap.size z x y := ⟨Blk.new W _ _, h⟩
theorem dc_reads {N g : Nat} {W : World} {z x : List UInt8} {y : Int} (h : DCNew N W g z x y) : Reads W W.heap.size 3 (some ⟨g, 0, none⟩) 1 (dcs cfc [((z, (x, y)) : Chg)]) := dc_reads0 (c := (z, (x, y))) h.1
theorem dc_sepA {N g : Nat} {W : World} {z x : List UInt8} {y : Int} (h : DCNew N W g z x y) (o : Obj) : (Value.slice (some ⟨W.heap.size, 0, none⟩) 0 0).ownBlock ≠ some g := fun e => by
  have := h.1.lt
  injection e with e
  simp only at e
  omega
theorem dc_sepC {N g : Nat} {W : World} {z x : List UInt8} {y : Int} {v v' : Value} (h : DCNew N W g z x y) (hv : v.ownBlock ≠ some g) (hs : Sep W v v') : v'.ownBlock ≠ some g := fun e => by
  have := h.1.lt
  rcases hs g e with e2 | e2
  · exact hv e2
  · omega
theorem dc_keep {N g : Nat} {W W' : World} {z x : List UInt8} {y : Int} {v : Value} (h : DCNew N W g z x y) (hv : v.ownBlock ≠ some g) (hg : W.grownBy W' v.ownBlock) : DCNew N W' g z x y := ⟨h.1.grow' hg hv, h.2⟩
theorem blk_reads_m {W : World} {g m n : Nat} {t : TypeId} {cur : Array Value} {xs : List Value} (h : Blk W g t cur) (hc : cur.toList.take (n * m) = xs) (hs : n * m ≤ cur.size) : Reads W W.heap.size m (some ⟨g, 0, none⟩) n xs := by
  refine ⟨by rw [← hc, List.length_take, Array.length_toList]; omega, fun _ => ⟨g, 0, rfl, h.lt, fun j u hj => ?_⟩⟩
  rw [Nat.zero_add, h.cell j, ← Array.getElem?_toList]
  rw [← hc, List.getElem?_take] at hj
  split at hj
  · exact hj
  · cases hj
theorem dc_row {W : World} {N n c : Nat} {A : Option Addr} {xs : List Value} {p : Addr} {u : Value} (h : W.ownsRow N 96 3 (.slice A n c) n xs) (hn : 0 < n) (hp : p.block < N) : Reads (W.setCell p u) (W.setCell p u).heap.size 3 A n xs ∧ n ≤ c := by
  obtain ⟨g, cur, rfl, h1, h2, h3, h4, h5⟩ := owns_blk h hn
  exact ⟨blk_reads_m (h2.far (by omega) u) h5 (by rw [h4]; exact Nat.mul_le_mul_right 3 h3), h3⟩
theorem dtouch_set (W : World) {p : Addr} (u : Value) : Touch W (W.setCell p u) (fun k => k = p.block) := (Touch.refl W (fun k => k = p.block)).set (p := p) (.inl rfl) u
theorem ent_off {W W' : World} {A : Option Addr} {n g : Nat} {t : TypeId} {cs : Array Value} {l : List Ent} (h : Reads W W.heap.size 2 A n (dcs efc l)) (hb : Blk W g t cs) (hs : ∀ u ∈ cs.toList, ∀ s, u ≠ .string s) (ht : Touch W W' (fun k => k = g)) : Reads W' W'.heap.size 2 A n (dcs efc l) := by
  refine ⟨h.1, fun hn => ?_⟩
  obtain ⟨b, off, e, h1, h2⟩ := h.2 hn
  have hl : 0 < l.length := by
    have := h.1
    rw [dcs_length efc 2 efc_len] at this
    omega
  have h3 := h2 0 (.string ⟨l[0].1.toArray⟩) (by have := dcs_at efc 2 efc_len l 0 hl 0 (by omega); simpa using this)
  have hbg : b ≠ g := fun e2 => by
    subst e2
    rw [Nat.add_zero, hb.cell] at h3
    rw [← Array.getElem?_toList] at h3
    exact hs _ (List.mem_of_getElem? h3) _ rfl
  refine ⟨b, off, e, Nat.lt_of_lt_of_le h1 ht.size, fun j u hj => ?_⟩
  rw [← h2 j u hj]
  exact World.cell?_of_block (w := W) (ht.block b h1 hbg)
theorem chg_off {W W' : World} {A : Option Addr} {n g : Nat} {t : TypeId} {cs : Array Value} {l : List Chg} (h : Reads W W.heap.size 3 A n (dcs cfc l)) (hb : Blk W g t cs) (hs : ∀ u ∈ cs.toList, ∀ s, u ≠ .string s) (ht : Touch W W' (fun k => k = g)) : Reads W' W'.heap.size 3 A n (dcs cfc l) := by
  refine ⟨h.1, fun hn => ?_⟩
  obtain ⟨b, off, e, h1, h2⟩ := h.2 hn
  have hl : 0 < l.length := by
    have := h.1
    rw [dcs_length cfc 3 cfc_len] at this
    omega
  have h3 := h2 0 (.string ⟨l[0].1.toArray⟩) (by have := dcs_at cfc 3 cfc_len l 0 hl 0 (by omega); simpa using this)
  have hbg : b ≠ g := fun e2 => by
    subst e2
    rw [Nat.add_zero, hb.cell] at h3
    rw [← Array.getElem?_toList] at h3
    exact hs _ (List.mem_of_getElem? h3) _ rfl
  refine ⟨b, off, e, Nat.lt_of_lt_of_le h1 ht.size, fun j u hj => ?_⟩
  rw [← h2 j u hj]
  exact World.cell?_of_block (w := W) (ht.block b h1 hbg)
section
variable (D : Dk) (a : DAd) (z x : List UInt8) (y : Int) (w : World) (hM : DkMem w D a) (hd : D.dir.length ≤ 1000000) (hc : D.chg.length ≤ 1000000) (ho : 0 ≤ D.ops ∧ D.ops ≤ 1000000) (ha : -9223372036854775808 ≤ D.armed ∧ D.armed < 9223372036854775808)
include hM hd hc ho ha
set_option maxRecDepth 100000 in
set_option maxHeartbeats 8000000 in
theorem dref_change_any : Calls Tryz.prog 56 #[.agg (dkc D a), .agg #[.string ⟨z.toArray⟩, .string ⟨x.toArray⟩, .int .i64 y]] w fun e w' => DPost a w w' e (D.change (z, (x, y)), D.told) := by
  obtain ⟨i0, hi, hz0, hz1, hz9⟩ := info_parts chg_info
  have hcn := fun W => dref_counted_any D a W ho ha
  have hch := fun A n c W hl hn hc hr => dref_chgd_any D.dir z x y A n c W hl hn hc hr
  have Hmem := Lib.hid hM
  have Hcg : Hid (∀ W, Below w.heap.size w W → Reads W w.heap.size 3 a.a4 D.chg.length (dcs cfc D.chg)) := Lib.hid fun W h => hM.chg.below h
  have Hdr : Hid (∀ W, Below w.heap.size w W → Reads W W.heap.size 2 a.a2 D.dir.length (dcs efc D.dir)) := Lib.hid fun W h => (hM.dir.below h).more h.size
  have hk2 := hM.k2
  unfold DPost Dk.change Dk.told
  unfold dkc at hcn ⊢
  unfold Dk.counted at hcn ⊢
  unfold DRow at hch
  clear hM ho ha
  obtain ⟨fs, dr, sf, cg, cap, ops, arm, dd⟩ := D
  obtain ⟨a1, a2, a3, a4, c1, c2, c3, c4⟩ := a
  dsimp only at *
  obtain ⟨o2, ho2⟩ : ∃ o2 : Int, ops + 1 = o2 := ⟨_, rfl⟩
  obtain ⟨r2, hr2⟩ : ∃ r2 : Int, (if 0 < arm then arm - 1 else arm) = r2 := ⟨_, rfl⟩
  obtain ⟨lst, hls⟩ : ∃ lst : Bool, (Dk.last ⟨fs, dr, sf, cg, cap, ops, arm, dd⟩) = lst := ⟨_, rfl⟩
  obtain ⟨d2, hd2⟩ : ∃ d2 : Bool, (dd || lst) = d2 := ⟨_, rfl⟩
  rw [hls, hd2, ho2, hr2] at hcn
  simp only [hls, hd2, ho2, hr2]
  clear hls hd2 ho2 hr2
  obtain ⟨tn, htn⟩ : ∃ tn : Int, (if lst = true then 200 else 0) = tn := ⟨_, rfl⟩
  have Htold : Hid (∀ W, Calls Tryz.prog 61 #[.bool lst] W fun e w' => e = .returned (.int .i64 tn) ∧ Below W.heap.size W w') := Lib.hid fun W => by rw [← htn]; exact dref_told_any lst W
  simp only [htn]
  obtain ⟨n1, hn1⟩ : ∃ n, fs.length = n := ⟨_, rfl⟩
  obtain ⟨n2, hn2⟩ : ∃ n, dr.length = n := ⟨_, rfl⟩
  obtain ⟨n3, hn3⟩ : ∃ n, sf.length = n := ⟨_, rfl⟩
  obtain ⟨n4, hn4⟩ : ∃ n, cg.length = n := ⟨_, rfl⟩
  obtain ⟨ND, hND⟩ : ∃ ND, dchgd dr (z, (x, y)) = ND := ⟨_, rfl⟩
  obtain ⟨n6, hn6⟩ : ∃ n, ND.length = n := ⟨_, rfl⟩
  simp only [hND] at hch ⊢
  simp only [hn6] at hch ⊢
  rw [List.length_append, List.length_singleton, hn1, hn2, hn3, hn4]
  rw [hn1, hn2, hn3, hn4] at hcn
  rw [hn2] at Hdr hd hk2
  rw [hn4] at Hcg hc
  have HL2 := Lib.hid hn2
  have HL4 := Lib.hid hn4
  have HL6 := Lib.hid hn6
  have HL1 := Lib.hid hn1
  have HL3 := Lib.hid hn3
  have Hcn := Lib.hid hcn
  have Hch := Lib.hid fun A c W (hc : n2 ≤ c) hr => hch A n2 c W hn2 hd hc hr
  clear htn hn1 hn2 hn3 hn4 hn6 hND hcn hch
  have h1 := Blk.new w 33 #[.slice a1 n1 c1, .slice a2 n2 c2, .slice a3 n3 c3, .slice a4 n4 c4, .int .i64 cap, .int .i64 ops, .int .i64 arm, .bool dd]
  have h2 := Blk.new (w.alloc (.cells #[.slice a1 n1 c1, .slice a2 n2 c2, .slice a3 n3 c3, .slice a4 n4 c4, .int .i64 cap, .int .i64 ops, .int .i64 arm, .bool dd] 33)) 96 #[.string ⟨z.toArray⟩, .string ⟨x.toArray⟩, .int .i64 y]
  have h3 := Blk.new ((w.alloc (.cells #[.slice a1 n1 c1, .slice a2 n2 c2, .slice a3 n3 c3, .slice a4 n4 c4, .int .i64 cap, .int .i64 ops, .int .i64 arm, .bool dd] 33)).alloc (.cells #[.string ⟨z.toArray⟩, .string ⟨x.toArray⟩, .int .i64 y] 96)) 33 #[.slice none 0 0, .slice none 0 0, .slice none 0 0, .slice none 0 0, .int .i64 0, .int .i64 0, .int .i64 0, .bool false]
  simp only [World.size_alloc] at h2 h3
  replace h1 := (h1.alloc (.cells #[.string ⟨z.toArray⟩, .string ⟨x.toArray⟩, .int .i64 y] 96)).alloc (.cells #[.slice none 0 0, .slice none 0 0, .slice none 0 0, .slice none 0 0, .int .i64 0, .int .i64 0, .int .i64 0, .bool false] 33)
  replace h2 := h2.alloc (.cells #[.slice none 0 0, .slice none 0 0, .slice none 0 0, .slice none 0 0, .int .i64 0, .int .i64 0, .int .i64 0, .bool false] 33)
  have H1 := Lib.hid h1
  have H2 := Lib.hid h2
  have H3 : Hid (Blk (((w.alloc (.cells #[.slice a1 n1 c1, .slice a2 n2 c2, .slice a3 n3 c3, .slice a4 n4 c4, .int .i64 cap, .int .i64 ops, .int .i64 arm, .bool dd] 33)).alloc (.cells #[.string ⟨z.toArray⟩, .string ⟨x.toArray⟩, .int .i64 y] 96)).alloc (.cells #[.slice none 0 0, .slice none 0 0, .slice none 0 0, .slice none 0 0, .int .i64 0, .int .i64 0, .int .i64 0, .bool false] 33)) (w.heap.size + 2) 33 #[.slice none 0 0, .slice none 0 0, .slice none 0 0, .slice none 0 0, .int .i64 0, .int .i64 0, .int .i64 0, .bool false]) := Lib.hid h3
  have HB0 : Hid (Below w.heap.size w (((w.alloc (.cells #[.slice a1 n1 c1, .slice a2 n2 c2, .slice a3 n3 c3, .slice a4 n4 c4, .int .i64 cap, .int .i64 ops, .int .i64 arm, .bool dd] 33)).alloc (.cells #[.string ⟨z.toArray⟩, .string ⟨x.toArray⟩, .int .i64 y] 96)).alloc (.cells #[.slice none 0 0, .slice none 0 0, .slice none 0 0, .slice none 0 0, .int .i64 0, .int .i64 0, .int .i64 0, .bool false] 33))) := Lib.hid (by go_grown)
  clear h1 h2 h3
  go_enter Tryz.func56, Tryz.ntmps56
  go_wp2_with (first
    | (go_at_call 59; (with_reducible refine (Hcn.out _).mono ?_); rintro e w1 ⟨rfl, hb1⟩; replace H1 := Lib.hid (H1.out.below hb1 H1.out.lt); replace H2 := Lib.hid (H2.out.below hb1 H2.out.lt); replace H3 := Lib.hid (H3.out.below hb1 H3.out.lt); replace HB0 := Lib.hid (HB0.out.trans (hb1.mono HB0.out.size)); clear hb1; have p0 := H1.out.cell 0; have p1 := H1.out.cell 1; have p2 := H1.out.cell 2; have p3 := H1.out.cell 3; have p4 := H1.out.cell 4; have p5 := H1.out.cell 5; have p6 := H1.out.cell 6; have p7 := H1.out.cell 7; simp only [List.getElem?_toArray, List.getElem?_cons_zero, List.getElem?_cons_succ] at p0 p1 p2 p3 p4 p5 p6 p7; have p8 := H2.out.cell 0; have p9 := H2.out.cell 1; have pa := H2.out.cell 2; simp only [List.getElem?_toArray, List.getElem?_cons_zero, List.getElem?_cons_succ] at p8 p9 pa; have v0 := H1.out.frozen 0; have v1 := H1.out.frozen 1; have v2 := H1.out.frozen 2; have v3 := H1.out.frozen 3; have v4 := H1.out.frozen 4; have v5 := H1.out.frozen 5; have v6 := H1.out.frozen 6; have v7 := H1.out.frozen 7)
    | (go_at_call 64; generalize hX : ((((((((w1.setCell ⟨w.heap.size, 0, none⟩ (.slice a1 n1 c1)).setCell ⟨w.heap.size, 1, none⟩ (.slice a2 n2 c2)).setCell ⟨w.heap.size, 2, none⟩ (.slice a3 n3 c3)).setCell ⟨w.heap.size, 3, none⟩ (.slice a4 n4 c4)).setCell ⟨w.heap.size, 4, none⟩ (.int .i64 cap)).setCell ⟨w.heap.size, 5, none⟩ (.int .i64 o2)).setCell ⟨w.heap.size, 6, none⟩ (.int .i64 r2)).setCell ⟨w.heap.size, 7, none⟩ (.bool d2)) = X1; obtain ⟨y1, y2⟩ := oset8 H1.out hX; have HB1 := Lib.hid (HB0.out.trans (y2.below (fun k _ e => by omega) HB0.out.size)); replace H1 := Lib.hid y1; replace H2 := Lib.hid (H2.out.touch y2 (by omega)); replace H3 := Lib.hid (H3.out.touch y2 (by omega)); clear y1 y2 hX HB0 p0 v0 p1 v1 p2 v2 p3 v3 p4 v4 p5 v5 p6 v6 p7 v7 p8 p9 pa; (with_reducible refine (Hch.out _ _ _ hk2 (Hdr.out _ HB1.out)).mono ?_); rintro e w2 ⟨A6, c6, rfl, hc6, hr6, hb2, hn6⟩; have HN6 := Lib.hid (AN.mono (w := w) hn6 HB1.out.size (Nat.le_refl _)); clear hn6; replace H1 := Lib.hid (H1.out.below hb2 H1.out.lt); replace H2 := Lib.hid (H2.out.below hb2 H2.out.lt); replace H3 := Lib.hid (H3.out.below hb2 H3.out.lt); replace HB1 := Lib.hid (HB1.out.trans (hb2.mono HB1.out.size)); have HR6 := Lib.hid hr6; have HC6 := Lib.hid hc6; clear hb2 hr6 hc6; have s1 := H1.out.cell 1; have s2 := H1.out.frozen 1; have s3 := H2.out.cell 0; have s4 := H2.out.cell 1; have s5 := H2.out.cell 2; simp only [List.getElem?_toArray, List.getElem?_cons_zero, List.getElem?_cons_succ] at s1 s3 s4 s5))
  have HDd : Hid (Blk (w2.setCell ⟨w.heap.size, 1, none⟩ (.slice A6 n6 c6)) w.heap.size 33 #[.slice a1 n1 c1, (.slice A6 n6 c6), .slice a3 n3 c3, (.slice a4 n4 c4), .int .i64 cap, .int .i64 o2, .int .i64 r2, .bool d2]) := Lib.hid (by simpa using H1.out.set_ 1 (.slice A6 n6 c6))
  have HX := Lib.hid (H2.out.far (p := ⟨w.heap.size, 1, none⟩) (by show w.heap.size + 1 ≠ w.heap.size; omega) (.slice A6 n6 c6))
  have HR := Lib.hid (H3.out.far (p := ⟨w.heap.size, 1, none⟩) (by show w.heap.size + 2 ≠ w.heap.size; omega) (.slice A6 n6 c6))
  have HY := Lib.hid (HB1.out.setCell (p := ⟨w.heap.size, 1, none⟩) (Nat.le_refl _) (.slice A6 n6 c6))
  have HDir := Lib.hid (ent_off HR6.out H1.out (by simp) (dtouch_set w2 (p := ⟨w.heap.size, 1, none⟩) (.slice A6 n6 c6)))
  replace HN6 := Lib.hid (AN.mono (w3 := w2.setCell ⟨w.heap.size, 1, none⟩ (.slice A6 n6 c6)) HN6.out (Nat.le_refl _) (by rw [World.size_setCell]; exact Nat.le_refl _))
  clear H1 H2 H3 HB1 HR6 s1 s2 s3 s4 s5
  generalize w2.setCell ⟨w.heap.size, 1, none⟩ (.slice A6 n6 c6) = Y at *
  have hlY := HR.out.lt
  have HDY := HDd
  have HCg : Hid (∀ W, Below Y.heap.size Y W → Reads W w.heap.size 3 a4 n4 (dcs cfc cg)) := Lib.hid fun W h => Hcg.out W (HY.out.trans (h.mono HY.out.size))
  have HBw : Hid (Below Y.heap.size Y Y.drew) := Lib.hid (Below.refl _ _).drew
  replace HX := Lib.hid HX.out.drew
  replace HR := Lib.hid HR.out.drew
  replace HDd := Lib.hid HDd.out.drew
  clear Hch Hcn
  refine wp_region_held_drew (S := (fun W => Blk W (w.heap.size + 1) 96 #[.string ⟨z.toArray⟩, .string ⟨x.toArray⟩, .int .i64 y])) (by kernel_rfl) (HX.out) (fun hHeld => ?_)
  refine wpAnyH_take (i := 4) (oi := _) (v := ?_) rfl (by kernel_rfl) (by kernel_rfl) (by kernel_rfl) (fun _ _ _ h => h) (Or.inl ⟨by rfl, ?_⟩) hHeld ?_
  rotate_left
  · (intro wz hSw; have k0 := hSw.cell 0; have k1 := hSw.cell 1; have k2 := hSw.cell 2; simp only [List.getElem?_toArray, List.getElem?_cons_zero, List.getElem?_cons_succ] at k0 k1 k2; go_simp; try (with_reducible rfl))
  (try dsimp only [List.getElem_toArray, List.getElem_cons_zero, List.getElem_cons_succ]); (try simp only [Act.put, List.setIfInBounds_toArray, List.set_cons_zero, List.set_cons_succ])
  refine wpAnyH_take (i := 1) (oi := _) (v := ?_) rfl (by kernel_rfl) (by kernel_rfl) (by kernel_rfl) (fun _ _ _ h => h) (Or.inl ⟨by rfl, ?_⟩) hHeld ?_
  rotate_left
  · (intro wz hSw; go_simp; try (with_reducible rfl))
  (try dsimp only [List.getElem_toArray, List.getElem_cons_zero, List.getElem_cons_succ]); (try simp only [Act.put, List.setIfInBounds_toArray, List.set_cons_zero, List.set_cons_succ])
  refine wpAnyH_ready (rs := [0, 2, 5]) (by kernel_rfl) (by simp) ?_
  refine AllReadyH.cons (o := _) rfl (fun K hK => ?_) ?_
  · skip
    go_simp
    refine hK.out _ _ (hHeld.alloc _) (fun hH => ?_)
    clear hK K hHeld
    have hHeld := hH
    clear hH
    have HA := Lib.hid (d_nothing (t := 96) (m := 3) _ HBw.out.size)
    try (have HS := Lib.hid (dc_sepA HO.out (.cells #[] 96)))
    try (replace HO := Lib.hid (HO.out.alloc (.cells #[] 96)))
    replace HBw := Lib.hid (HBw.out.alloc HBw.out.size (.cells #[] 96)); replace HR := Lib.hid (HR.out.alloc (.cells #[] 96)); replace HDd := Lib.hid (HDd.out.alloc (.cells #[] 96))
    try rw [World.size_alloc] at HA
    try rw [World.size_alloc] at HS
    (try dsimp only [List.getElem_toArray, List.getElem_cons_zero, List.getElem_cons_succ]); (try simp only [Act.put, List.setIfInBounds_toArray, List.set_cons_zero, List.set_cons_succ])
    refine wpAnyH_ready (rs := [2, 5]) (by kernel_rfl) (by simp) ?_
    refine AllReadyH.cons (o := _) rfl (fun K hK => ?_) ?_
    · skip
      have k3 := HDd.out.cell 3
      have k4 := HDY.out.cell 3
      simp only [List.getElem?_toArray, List.getElem?_cons_zero, List.getElem?_cons_succ] at k3 k4
      go_simp
      try simp only [World.cell?_alloc_some, k4, Option.isSome_some]
      try go_simp
      refine hK.out _ _ (hHeld) (fun hH => ?_)
      clear hK K hHeld
      have hHeld := hH
      clear hH
      clear k3 k4
      (try dsimp only [List.getElem_toArray, List.getElem_cons_zero, List.getElem_cons_succ]); (try simp only [Act.put, List.setIfInBounds_toArray, List.set_cons_zero, List.set_cons_succ])
      refine wpAnyH_ready (rs := [3, 5]) (by kernel_rfl) (by simp) ?_
      refine AllReadyH.cons (o := _) rfl (fun K hK => ?_) ?_
      · skip
        refine lstep_append (by rfl) (.tmp 17) (.tmp 19) 31 (by rfl) Y.heap.size 96 i0 (.agg #[.string ⟨#[]⟩, .string ⟨#[]⟩, .int .i64 0]) 3 40 Tryz.underlying31 hi hz0 hz1 hz9 rfl (by decide) _ 0 ([]) (by rfl) HA.out a4 n4 c4 _ (dcs cfc cg) (by rfl) (HCg.out _ HBw.out) (cfc_cell _) (by unfold maxLen; omega) (by omega) HBw.out.size (n4) (Nat.zero_add n4) ?_
        intro A_HA1 c_HA1 w_HA1 ho_ hg_ hs_
        refine hK.out _ _ (hHeld.grow' hg_ (d_old HA.out (by omega))) (fun hH => ?_)
        clear hK K hHeld
        have hHeld := hH
        clear hH
        try (have HS2 := Lib.hid (dc_sepC HO.out HS.out hs_))
        try (replace HO := Lib.hid (dc_keep HO.out HS.out hg_))
        try (replace HS := HS2)
        have HA1 : Hid (w_HA1.ownsRow Y.heap.size 96 3 (.slice A_HA1 (n4) c_HA1) (n4) (dcs cfc cg)) := Lib.hid (by first | exact ho_ | (simpa [dcs_app] using ho_))
        replace HR := Lib.hid (HR.out.grow' hg_ (d_old HA.out (by omega)))
        replace HDd := Lib.hid (HDd.out.grow' hg_ (d_old HA.out (by omega)))
        replace HBw := Lib.hid (d_grown HBw.out HA.out hg_)
        clear ho_ hg_ hs_
        (try dsimp only [List.getElem_toArray, List.getElem_cons_zero, List.getElem_cons_succ]); (try simp only [Act.put, List.setIfInBounds_toArray, List.set_cons_zero, List.set_cons_succ])
        refine wpAnyH_ready (rs := [5]) (by kernel_rfl) (by simp) ?_
        refine AllReadyH.cons (o := _) rfl (fun K hK => ?_) AllReadyH.nil
        go_simp
        refine hK.out _ _ (hHeld.alloc _) (fun hH => ?_)
        clear hK K hHeld
        have hHeld := hH
        clear hH
        have HO := Lib.hid (dc_new _ z x y HBw.out.size)
        try (have HS := Lib.hid (d_sepB HA.out))
        try (have HS := Lib.hid (d_sepB HA1.out))
        try (replace HA := Lib.hid (HA.out.alloc (.cells #[.string ⟨z.toArray⟩, .string ⟨x.toArray⟩, .int .i64 y] 96)))
        try (replace HA1 := Lib.hid (HA1.out.alloc (.cells #[.string ⟨z.toArray⟩, .string ⟨x.toArray⟩, .int .i64 y] 96)))
        replace HBw := Lib.hid (HBw.out.alloc HBw.out.size (.cells #[.string ⟨z.toArray⟩, .string ⟨x.toArray⟩, .int .i64 y] 96)); replace HR := Lib.hid (HR.out.alloc (.cells #[.string ⟨z.toArray⟩, .string ⟨x.toArray⟩, .int .i64 y] 96)); replace HDd := Lib.hid (HDd.out.alloc (.cells #[.string ⟨z.toArray⟩, .string ⟨x.toArray⟩, .int .i64 y] 96))
        try rw [World.size_alloc] at HO
        try rw [World.size_alloc] at HS
        (try dsimp only [List.getElem_toArray, List.getElem_cons_zero, List.getElem_cons_succ]); (try simp only [Act.put, List.setIfInBounds_toArray, List.set_cons_zero, List.set_cons_succ])
        refine wpAnyH_ready (rs := [6]) (by kernel_rfl) (by simp) ?_
        refine AllReadyH.cons (o := _) rfl (fun K hK => ?_) AllReadyH.nil
        refine lstep_append (by rfl) (.tmp 20) (.tmp 22) 31 (by rfl) Y.heap.size 96 i0 (.agg #[.string ⟨#[]⟩, .string ⟨#[]⟩, .int .i64 0]) 3 40 Tryz.underlying31 hi hz0 hz1 hz9 rfl (by decide) _ n4 (dcs cfc cg) (by rfl) HA1.out _ 1 1 _ (dcs cfc [((z, (x, y)) : Chg)]) (by rfl) (dc_reads HO.out) (cfc_cell _) (by unfold maxLen; omega) (by omega) HBw.out.size (n4 + 1) rfl ?_
        intro A_HA2 c_HA2 w_HA2 ho_ hg_ hs_
        refine hK.out _ _ (hHeld.grow' hg_ (d_old HA1.out (by omega))) (fun hH => ?_)
        clear hK K hHeld
        have hHeld := hH
        clear hH
        have HA2 : Hid (w_HA2.ownsRow Y.heap.size 96 3 (.slice A_HA2 (n4 + 1) c_HA2) (n4 + 1) (dcs cfc (cg ++ [((z, (x, y)) : Chg)]))) := Lib.hid (by first | exact ho_ | (simpa [dcs_app] using ho_))
        replace HR := Lib.hid (HR.out.grow' hg_ (d_old HA1.out (by omega)))
        replace HDd := Lib.hid (HDd.out.grow' hg_ (d_old HA1.out (by omega)))
        replace HBw := Lib.hid (d_grown HBw.out HA1.out hg_)
        clear ho_ hg_ hs_
        (try dsimp only [List.getElem_toArray, List.getElem_cons_zero, List.getElem_cons_succ]); (try simp only [Act.put, List.setIfInBounds_toArray, List.set_cons_zero, List.set_cons_succ])
        refine wpAnyH_take (i := 7) (oi := _) (v := ?_) rfl (by kernel_rfl) (by kernel_rfl) (by kernel_rfl) (fun _ _ _ h => h) (Or.inl ⟨by rfl, ?_⟩) hHeld ?_
        rotate_left
        · (intro wz hSw; go_simp; try (with_reducible rfl))
        (try dsimp only [List.getElem_toArray, List.getElem_cons_zero, List.getElem_cons_succ]); (try simp only [Act.put, List.setIfInBounds_toArray, List.set_cons_zero, List.set_cons_succ])
        refine wpAnyH_ready (rs := [8]) (by kernel_rfl) (by simp) ?_
        refine AllReadyH.cons (o := _) rfl (fun K hK => ?_) AllReadyH.nil
        have k3 := HDd.out.cell 3
        have z3 := HDd.out.frozen 3
        have HDo := HDd
        simp only [List.getElem?_toArray, List.getElem?_cons_zero, List.getElem?_cons_succ] at k3
        go_simp
        refine hK.out _ _ (hHeld.far (p := ⟨w.heap.size, 3, none⟩) (by show w.heap.size + 1 ≠ w.heap.size; omega) _) (fun hH => ?_)
        clear hK K hHeld
        have hHeld := hH
        clear hH
        clear k3 z3
        replace HR := Lib.hid (HR.out.far (p := ⟨w.heap.size, 3, none⟩) (by show w.heap.size + 2 ≠ w.heap.size; omega) (.slice A_HA2 (n4 + 1) c_HA2))
        replace HDd : Hid (Blk _ w.heap.size 33 #[.slice a1 n1 c1, (.slice A6 n6 c6), .slice a3 n3 c3, (.slice A_HA2 (n4 + 1) c_HA2), .int .i64 cap, .int .i64 o2, .int .i64 r2, .bool d2]) := Lib.hid (by simpa using HDd.out.set_ 3 (.slice A_HA2 (n4 + 1) c_HA2))
        have HBo := Lib.hid ((HY.out.trans (HBw.out.mono HY.out.size)).setCell (p := ⟨w.heap.size, 3, none⟩) (Nat.le_refl _) (.slice A_HA2 (n4 + 1) c_HA2))
        have HQ := Lib.hid (dc_row (p := ⟨w.heap.size, 3, none⟩) (u := .slice A_HA2 (n4 + 1) c_HA2) HA2.out (by omega) (by show w.heap.size < Y.heap.size; omega))
        have HDi := Lib.hid (ent_off (dReads_on HDir.out HBw.out) HDo.out (by simp) (dtouch_set _ (p := ⟨w.heap.size, 3, none⟩) (.slice A_HA2 (n4 + 1) c_HA2)))
        (try dsimp only [List.getElem_toArray, List.getElem_cons_zero, List.getElem_cons_succ]); (try simp only [Act.put, List.setIfInBounds_toArray, List.set_cons_zero, List.set_cons_succ])
        refine wpAnyH_done (by kernel_rfl) ?_ _
        have HAN2 := Lib.hid (AN.mono (w3 := w_HA2.setCell ⟨w.heap.size, 3, none⟩ (.slice A_HA2 (n4 + 1) c_HA2)) (owns_new (w := w) HA2.out HY.out.size) (Nat.le_refl _) (by rw [World.size_setCell]; exact Nat.le_refl _))
        replace HN6 := Lib.hid (AN.mono (w3 := w_HA2.setCell ⟨w.heap.size, 3, none⟩ (.slice A_HA2 (n4 + 1) c_HA2)) HN6.out (Nat.le_refl _) (by rw [World.size_setCell]; exact HBw.out.size))
        clear hHeld HDo HA2 HBw
        go_wp2
        generalize w_HA2.setCell ⟨w.heap.size, 3, none⟩ (.slice A_HA2 (n4 + 1) c_HA2) = Z at *
        replace HN6 := Lib.hid (AN.mono (w3 := Z.drew) HN6.out (Nat.le_refl _) (Nat.le_refl _))
        replace HAN2 := Lib.hid (AN.mono (w3 := Z.drew) HAN2.out (Nat.le_refl _) (Nat.le_refl _))
        replace HR := Lib.hid HR.out.drew
        replace HBo := Lib.hid HBo.out.drew
        replace HQ := Lib.hid (And.intro (dReads_on HQ.out.1 (Below.refl _ _).drew) HQ.out.2)
        replace HDi := Lib.hid (dReads_on HDi.out (Below.refl _ _).drew)
        refine wp_region_held_drew (S := (fun W => Blk W w.heap.size 33 #[.slice a1 n1 c1, (.slice A6 n6 c6), .slice a3 n3 c3, (.slice A_HA2 (n4 + 1) c_HA2), .int .i64 cap, .int .i64 o2, .int .i64 r2, .bool d2])) (by kernel_rfl) (HDd.out.drew) (fun hHeld => ?_)
        refine wpAnyH_take (i := 0) (oi := _) (v := ?_) rfl (by kernel_rfl) (by kernel_rfl) (by kernel_rfl) (fun _ _ _ h => h) (Or.inl ⟨by rfl, ?_⟩) hHeld ?_
        rotate_left
        · (intro wz hSw; have k0 := hSw.cell 0; have k1 := hSw.cell 1; have k2 := hSw.cell 2; have k3 := hSw.cell 3; have k4 := hSw.cell 4; have k5 := hSw.cell 5; have k6 := hSw.cell 6; have k7 := hSw.cell 7; simp only [List.getElem?_toArray, List.getElem?_cons_zero, List.getElem?_cons_succ] at k0 k1 k2 k3 k4 k5 k6 k7; go_simp; try (with_reducible rfl))
        (try dsimp only [List.getElem_toArray, List.getElem_cons_zero, List.getElem_cons_succ]); (try simp only [Act.put, List.setIfInBounds_toArray, List.set_cons_zero, List.set_cons_succ])
        refine wpAnyH_take (i := 1) (oi := _) (v := ?_) rfl (by kernel_rfl) (by kernel_rfl) (by kernel_rfl) (fun _ _ _ h => h) (Or.inl ⟨by rfl, ?_⟩) hHeld ?_
        rotate_left
        · (intro wz hSw; go_simp; try (with_reducible rfl))
        (try dsimp only [List.getElem_toArray, List.getElem_cons_zero, List.getElem_cons_succ]); (try simp only [Act.put, List.setIfInBounds_toArray, List.set_cons_zero, List.set_cons_succ])
        refine wpAnyH_ready (rs := [2]) (by kernel_rfl) (by simp) ?_
        refine AllReadyH.cons (o := _) rfl (fun K hK => ?_) AllReadyH.nil
        go_simp
        go_at_call 61
        (with_reducible refine (Htold.out _).mono ?_)
        rintro e w9 ⟨rfl, hb1⟩
        replace HN6 := Lib.hid (HN6.out.mono (Nat.le_refl _) hb1.size)
        replace HAN2 := Lib.hid (HAN2.out.mono (Nat.le_refl _) hb1.size)
        replace HR := Lib.hid (HR.out.below hb1 HR.out.lt)
        replace HBo := Lib.hid (HBo.out.trans (hb1.mono HBo.out.size))
        replace HQ := Lib.hid (And.intro (dReads_on HQ.out.1 hb1) HQ.out.2)
        replace HDi := Lib.hid (dReads_on HDi.out hb1)
        refine hK.out _ _ (hHeld.below hb1 hHeld.lt) (fun hH => ?_)
        clear hHeld hK K hb1
        have hHeld := hH
        clear hH
        (try dsimp only [List.getElem_toArray, List.getElem_cons_zero, List.getElem_cons_succ]); (try simp only [Act.put, List.setIfInBounds_toArray, List.set_cons_zero, List.set_cons_succ])
        refine wpAnyH_ready (rs := [3]) (by kernel_rfl) (by simp) ?_
        refine AllReadyH.cons (o := _) rfl (fun K hK => ?_) AllReadyH.nil
        have k0 := HR.out.cell 0; have z0 := HR.out.frozen 0; have k1 := HR.out.cell 1; have z1 := HR.out.frozen 1; have k2 := HR.out.cell 2; have z2 := HR.out.frozen 2; have k3 := HR.out.cell 3; have z3 := HR.out.frozen 3; have k4 := HR.out.cell 4; have z4 := HR.out.frozen 4; have k5 := HR.out.cell 5; have z5 := HR.out.frozen 5; have k6 := HR.out.cell 6; have z6 := HR.out.frozen 6; have k7 := HR.out.cell 7; have z7 := HR.out.frozen 7
        simp only [List.getElem?_toArray, List.getElem?_cons_zero, List.getElem?_cons_succ] at k0 k1 k2 k3 k4 k5 k6 k7
        go_simp
        refine hK.out _ _ ((by first | exact (hHeld.touch (oset8 HR.out rfl).2 (by show ¬ w.heap.size = w.heap.size + 2; omega)))) (fun hH => ?_)
        clear hK K hHeld
        have hHeld := hH
        clear hH
        clear k0 z0 k1 z1 k2 z2 k3 z3 k4 z4 k5 z5 k6 z6 k7 z7
        (try dsimp only [List.getElem_toArray, List.getElem_cons_zero, List.getElem_cons_succ]); (try simp only [Act.put, List.setIfInBounds_toArray, List.set_cons_zero, List.set_cons_succ])
        refine wpAnyH_take (i := 4) (oi := _) (v := ?_) rfl (by kernel_rfl) (by kernel_rfl) (by kernel_rfl) (fun _ _ _ h => h) (Or.inl ⟨by rfl, ?_⟩) hHeld ?_
        rotate_left
        · (intro wz hSw; go_simp; try (with_reducible rfl))
        (try dsimp only [List.getElem_toArray, List.getElem_cons_zero, List.getElem_cons_succ]); (try simp only [Act.put, List.setIfInBounds_toArray, List.set_cons_zero, List.set_cons_succ])
        refine wpAnyH_done (by kernel_rfl) ?_ _
        clear hHeld
        go_wp2
        generalize hX9 : ((((((((w9.setCell ⟨w.heap.size + 1 + 1, 0, none⟩ (.slice a1 n1 c1)).setCell ⟨w.heap.size + 1 + 1, 1, none⟩ (.slice A6 n6 c6)).setCell ⟨w.heap.size + 1 + 1, 2, none⟩ (.slice a3 n3 c3)).setCell ⟨w.heap.size + 1 + 1, 3, none⟩ (.slice A_HA2 (n4 + 1) c_HA2)).setCell ⟨w.heap.size + 1 + 1, 4, none⟩ (.int .i64 cap)).setCell ⟨w.heap.size + 1 + 1, 5, none⟩ (.int .i64 o2)).setCell ⟨w.heap.size + 1 + 1, 6, none⟩ (.int .i64 r2)).setCell ⟨w.heap.size + 1 + 1, 7, none⟩ (.bool d2)) = X9
        obtain ⟨y1, y2⟩ := oset8 HR.out hX9
        have x0 := y1.cell 0; have x1 := y1.cell 1; have x2 := y1.cell 2; have x3 := y1.cell 3; have x4 := y1.cell 4; have x5 := y1.cell 5; have x6 := y1.cell 6; have x7 := y1.cell 7
        simp only [List.getElem?_toArray, List.getElem?_cons_zero, List.getElem?_cons_succ] at x0 x1 x2 x3 x4 x5 x6 x7
        have HB9 := HBo.out.trans (y2.below (fun k _ e => by omega) HBo.out.size)
        have hf : Reads X9 X9.heap.size 2 a1 fs.length (dcs ffc fs) := dReads_on Hmem.out.files HB9
        have hs : Reads X9 X9.heap.size 2 a3 sf.length (dcs efc sf) := dReads_on Hmem.out.safe HB9
        have hdr9 : Reads X9 X9.heap.size 2 A6 ND.length (dcs efc ND) := by rw [HL6.out]; exact ent_off HDi.out HR.out (by simp) y2
        have hcg9 : Reads X9 X9.heap.size 3 A_HA2 (cg ++ [(z, x, y)]).length (dcs cfc (cg ++ [(z, x, y)])) := by rw [List.length_append, HL4.out]; exact chg_off HQ.out.1 HR.out (by simp) y2
        refine bodyPost_ret (v := .tuple #[.agg #[.slice a1 n1 c1, (.slice A6 n6 c6), .slice a3 n3 c3, (.slice A_HA2 (n4 + 1) c_HA2), .int .i64 cap, .int .i64 o2, .int .i64 r2, .bool d2], .int .i64 tn]) (by simp [results, Tryz.results56, go_sem, x0, x1, x2, x3, x4, x5, x6, x7]) rfl ⟨⟨a1, A6, a3, A_HA2, c1, c6, c3, c_HA2⟩, rfl, ⟨hf, hdr9, hs, hcg9, Hmem.out.k1, by show ND.length ≤ c6; rw [HL6.out]; exact HC6.out, Hmem.out.k3, by show (cg ++ [(z, x, y)]).length ≤ c_HA2; rw [List.length_append, HL4.out]; exact HQ.out.2⟩, HB9, ⟨.one w _ _, (HN6.out.mono (Nat.le_refl _) y2.size).up (.two w _ _), .three w _ _, (HAN2.out.mono (Nat.le_refl _) y2.size).up (.inl rfl)⟩⟩
      refine AllReadyH.cons (o := _) rfl (fun K hK => ?_) AllReadyH.nil
      go_simp
      refine hK.out _ _ (hHeld.alloc _) (fun hH => ?_)
      clear hK K hHeld
      have hHeld := hH
      clear hH
      have HO := Lib.hid (dc_new _ z x y HBw.out.size)
      try (have HS := Lib.hid (d_sepB HA.out))
      try (have HS := Lib.hid (d_sepB HA1.out))
      try (replace HA := Lib.hid (HA.out.alloc (.cells #[.string ⟨z.toArray⟩, .string ⟨x.toArray⟩, .int .i64 y] 96)))
      try (replace HA1 := Lib.hid (HA1.out.alloc (.cells #[.string ⟨z.toArray⟩, .string ⟨x.toArray⟩, .int .i64 y] 96)))
      replace HBw := Lib.hid (HBw.out.alloc HBw.out.size (.cells #[.string ⟨z.toArray⟩, .string ⟨x.toArray⟩, .int .i64 y] 96)); replace HR := Lib.hid (HR.out.alloc (.cells #[.string ⟨z.toArray⟩, .string ⟨x.toArray⟩, .int .i64 y] 96)); replace HDd := Lib.hid (HDd.out.alloc (.cells #[.string ⟨z.toArray⟩, .string ⟨x.toArray⟩, .int .i64 y] 96))
      try rw [World.size_alloc] at HO
      try rw [World.size_alloc] at HS
      (try dsimp only [List.getElem_toArray, List.getElem_cons_zero, List.getElem_cons_succ]); (try simp only [Act.put, List.setIfInBounds_toArray, List.set_cons_zero, List.set_cons_succ])
      refine wpAnyH_ready (rs := [3]) (by kernel_rfl) (by simp) ?_
      refine AllReadyH.cons (o := _) rfl (fun K hK => ?_) AllReadyH.nil
      refine lstep_append (by rfl) (.tmp 17) (.tmp 19) 31 (by rfl) Y.heap.size 96 i0 (.agg #[.string ⟨#[]⟩, .string ⟨#[]⟩, .int .i64 0]) 3 40 Tryz.underlying31 hi hz0 hz1 hz9 rfl (by decide) _ 0 ([]) (by rfl) HA.out a4 n4 c4 _ (dcs cfc cg) (by rfl) (HCg.out _ HBw.out) (cfc_cell _) (by unfold maxLen; omega) (by omega) HBw.out.size (n4) (Nat.zero_add n4) ?_
      intro A_HA1 c_HA1 w_HA1 ho_ hg_ hs_
      refine hK.out _ _ (hHeld.grow' hg_ (d_old HA.out (by omega))) (fun hH => ?_)
      clear hK K hHeld
      have hHeld := hH
      clear hH
      try (have HS2 := Lib.hid (dc_sepC HO.out HS.out hs_))
      try (replace HO := Lib.hid (dc_keep HO.out HS.out hg_))
      try (replace HS := HS2)
      have HA1 : Hid (w_HA1.ownsRow Y.heap.size 96 3 (.slice A_HA1 (n4) c_HA1) (n4) (dcs cfc cg)) := Lib.hid (by first | exact ho_ | (simpa [dcs_app] using ho_))
      replace HR := Lib.hid (HR.out.grow' hg_ (d_old HA.out (by omega)))
      replace HDd := Lib.hid (HDd.out.grow' hg_ (d_old HA.out (by omega)))
      replace HBw := Lib.hid (d_grown HBw.out HA.out hg_)
      clear ho_ hg_ hs_
      (try dsimp only [List.getElem_toArray, List.getElem_cons_zero, List.getElem_cons_succ]); (try simp only [Act.put, List.setIfInBounds_toArray, List.set_cons_zero, List.set_cons_succ])
      refine wpAnyH_ready (rs := [6]) (by kernel_rfl) (by simp) ?_
      refine AllReadyH.cons (o := _) rfl (fun K hK => ?_) AllReadyH.nil
      refine lstep_append (by rfl) (.tmp 20) (.tmp 22) 31 (by rfl) Y.heap.size 96 i0 (.agg #[.string ⟨#[]⟩, .string ⟨#[]⟩, .int .i64 0]) 3 40 Tryz.underlying31 hi hz0 hz1 hz9 rfl (by decide) _ n4 (dcs cfc cg) (by rfl) HA1.out _ 1 1 _ (dcs cfc [((z, (x, y)) : Chg)]) (by rfl) (dc_reads HO.out) (cfc_cell _) (by unfold maxLen; omega) (by omega) HBw.out.size (n4 + 1) rfl ?_
      intro A_HA2 c_HA2 w_HA2 ho_ hg_ hs_
      refine hK.out _ _ (hHeld.grow' hg_ (d_old HA1.out (by omega))) (fun hH => ?_)
      clear hK K hHeld
      have hHeld := hH
      clear hH
      have HA2 : Hid (w_HA2.ownsRow Y.heap.size 96 3 (.slice A_HA2 (n4 + 1) c_HA2) (n4 + 1) (dcs cfc (cg ++ [((z, (x, y)) : Chg)]))) := Lib.hid (by first | exact ho_ | (simpa [dcs_app] using ho_))
      replace HR := Lib.hid (HR.out.grow' hg_ (d_old HA1.out (by omega)))
      replace HDd := Lib.hid (HDd.out.grow' hg_ (d_old HA1.out (by omega)))
      replace HBw := Lib.hid (d_grown HBw.out HA1.out hg_)
      clear ho_ hg_ hs_
      (try dsimp only [List.getElem_toArray, List.getElem_cons_zero, List.getElem_cons_succ]); (try simp only [Act.put, List.setIfInBounds_toArray, List.set_cons_zero, List.set_cons_succ])
      refine wpAnyH_take (i := 7) (oi := _) (v := ?_) rfl (by kernel_rfl) (by kernel_rfl) (by kernel_rfl) (fun _ _ _ h => h) (Or.inl ⟨by rfl, ?_⟩) hHeld ?_
      rotate_left
      · (intro wz hSw; go_simp; try (with_reducible rfl))
      (try dsimp only [List.getElem_toArray, List.getElem_cons_zero, List.getElem_cons_succ]); (try simp only [Act.put, List.setIfInBounds_toArray, List.set_cons_zero, List.set_cons_succ])
      refine wpAnyH_ready (rs := [8]) (by kernel_rfl) (by simp) ?_
      refine AllReadyH.cons (o := _) rfl (fun K hK => ?_) AllReadyH.nil
      have k3 := HDd.out.cell 3
      have z3 := HDd.out.frozen 3
      have HDo := HDd
      simp only [List.getElem?_toArray, List.getElem?_cons_zero, List.getElem?_cons_succ] at k3
      go_simp
      refine hK.out _ _ (hHeld.far (p := ⟨w.heap.size, 3, none⟩) (by show w.heap.size + 1 ≠ w.heap.size; omega) _) (fun hH => ?_)
      clear hK K hHeld
      have hHeld := hH
      clear hH
      clear k3 z3
      replace HR := Lib.hid (HR.out.far (p := ⟨w.heap.size, 3, none⟩) (by show w.heap.size + 2 ≠ w.heap.size; omega) (.slice A_HA2 (n4 + 1) c_HA2))
      replace HDd : Hid (Blk _ w.heap.size 33 #[.slice a1 n1 c1, (.slice A6 n6 c6), .slice a3 n3 c3, (.slice A_HA2 (n4 + 1) c_HA2), .int .i64 cap, .int .i64 o2, .int .i64 r2, .bool d2]) := Lib.hid (by simpa using HDd.out.set_ 3 (.slice A_HA2 (n4 + 1) c_HA2))
      have HBo := Lib.hid ((HY.out.trans (HBw.out.mono HY.out.size)).setCell (p := ⟨w.heap.size, 3, none⟩) (Nat.le_refl _) (.slice A_HA2 (n4 + 1) c_HA2))
      have HQ := Lib.hid (dc_row (p := ⟨w.heap.size, 3, none⟩) (u := .slice A_HA2 (n4 + 1) c_HA2) HA2.out (by omega) (by show w.heap.size < Y.heap.size; omega))
      have HDi := Lib.hid (ent_off (dReads_on HDir.out HBw.out) HDo.out (by simp) (dtouch_set _ (p := ⟨w.heap.size, 3, none⟩) (.slice A_HA2 (n4 + 1) c_HA2)))
      (try dsimp only [List.getElem_toArray, List.getElem_cons_zero, List.getElem_cons_succ]); (try simp only [Act.put, List.setIfInBounds_toArray, List.set_cons_zero, List.set_cons_succ])
      refine wpAnyH_done (by kernel_rfl) ?_ _
      have HAN2 := Lib.hid (AN.mono (w3 := w_HA2.setCell ⟨w.heap.size, 3, none⟩ (.slice A_HA2 (n4 + 1) c_HA2)) (owns_new (w := w) HA2.out HY.out.size) (Nat.le_refl _) (by rw [World.size_setCell]; exact Nat.le_refl _))
      replace HN6 := Lib.hid (AN.mono (w3 := w_HA2.setCell ⟨w.heap.size, 3, none⟩ (.slice A_HA2 (n4 + 1) c_HA2)) HN6.out (Nat.le_refl _) (by rw [World.size_setCell]; exact HBw.out.size))
      clear hHeld HDo HA2 HBw
      go_wp2
      generalize w_HA2.setCell ⟨w.heap.size, 3, none⟩ (.slice A_HA2 (n4 + 1) c_HA2) = Z at *
      replace HN6 := Lib.hid (AN.mono (w3 := Z.drew) HN6.out (Nat.le_refl _) (Nat.le_refl _))
      replace HAN2 := Lib.hid (AN.mono (w3 := Z.drew) HAN2.out (Nat.le_refl _) (Nat.le_refl _))
      replace HR := Lib.hid HR.out.drew
      replace HBo := Lib.hid HBo.out.drew
      replace HQ := Lib.hid (And.intro (dReads_on HQ.out.1 (Below.refl _ _).drew) HQ.out.2)
      replace HDi := Lib.hid (dReads_on HDi.out (Below.refl _ _).drew)
      refine wp_region_held_drew (S := (fun W => Blk W w.heap.size 33 #[.slice a1 n1 c1, (.slice A6 n6 c6), .slice a3 n3 c3, (.slice A_HA2 (n4 + 1) c_HA2), .int .i64 cap, .int .i64 o2, .int .i64 r2, .bool d2])) (by kernel_rfl) (HDd.out.drew) (fun hHeld => ?_)
      refine wpAnyH_take (i := 0) (oi := _) (v := ?_) rfl (by kernel_rfl) (by kernel_rfl) (by kernel_rfl) (fun _ _ _ h => h) (Or.inl ⟨by rfl, ?_⟩) hHeld ?_
      rotate_left
      · (intro wz hSw; have k0 := hSw.cell 0; have k1 := hSw.cell 1; have k2 := hSw.cell 2; have k3 := hSw.cell 3; have k4 := hSw.cell 4; have k5 := hSw.cell 5; have k6 := hSw.cell 6; have k7 := hSw.cell 7; simp only [List.getElem?_toArray, List.getElem?_cons_zero, List.getElem?_cons_succ] at k0 k1 k2 k3 k4 k5 k6 k7; go_simp; try (with_reducible rfl))
      (try dsimp only [List.getElem_toArray, List.getElem_cons_zero, List.getElem_cons_succ]); (try simp only [Act.put, List.setIfInBounds_toArray, List.set_cons_zero, List.set_cons_succ])
      refine wpAnyH_take (i := 1) (oi := _) (v := ?_) rfl (by kernel_rfl) (by kernel_rfl) (by kernel_rfl) (fun _ _ _ h => h) (Or.inl ⟨by rfl, ?_⟩) hHeld ?_
      rotate_left
      · (intro wz hSw; go_simp; try (with_reducible rfl))
      (try dsimp only [List.getElem_toArray, List.getElem_cons_zero, List.getElem_cons_succ]); (try simp only [Act.put, List.setIfInBounds_toArray, List.set_cons_zero, List.set_cons_succ])
      refine wpAnyH_ready (rs := [2]) (by kernel_rfl) (by simp) ?_
      refine AllReadyH.cons (o := _) rfl (fun K hK => ?_) AllReadyH.nil
      go_simp
      go_at_call 61
      (with_reducible refine (Htold.out _).mono ?_)
      rintro e w9 ⟨rfl, hb1⟩
      replace HN6 := Lib.hid (HN6.out.mono (Nat.le_refl _) hb1.size)
      replace HAN2 := Lib.hid (HAN2.out.mono (Nat.le_refl _) hb1.size)
      replace HR := Lib.hid (HR.out.below hb1 HR.out.lt)
      replace HBo := Lib.hid (HBo.out.trans (hb1.mono HBo.out.size))
      replace HQ := Lib.hid (And.intro (dReads_on HQ.out.1 hb1) HQ.out.2)
      replace HDi := Lib.hid (dReads_on HDi.out hb1)
      refine hK.out _ _ (hHeld.below hb1 hHeld.lt) (fun hH => ?_)
      clear hHeld hK K hb1
      have hHeld := hH
      clear hH
      (try dsimp only [List.getElem_toArray, List.getElem_cons_zero, List.getElem_cons_succ]); (try simp only [Act.put, List.setIfInBounds_toArray, List.set_cons_zero, List.set_cons_succ])
      refine wpAnyH_ready (rs := [3]) (by kernel_rfl) (by simp) ?_
      refine AllReadyH.cons (o := _) rfl (fun K hK => ?_) AllReadyH.nil
      have k0 := HR.out.cell 0; have z0 := HR.out.frozen 0; have k1 := HR.out.cell 1; have z1 := HR.out.frozen 1; have k2 := HR.out.cell 2; have z2 := HR.out.frozen 2; have k3 := HR.out.cell 3; have z3 := HR.out.frozen 3; have k4 := HR.out.cell 4; have z4 := HR.out.frozen 4; have k5 := HR.out.cell 5; have z5 := HR.out.frozen 5; have k6 := HR.out.cell 6; have z6 := HR.out.frozen 6; have k7 := HR.out.cell 7; have z7 := HR.out.frozen 7
      simp only [List.getElem?_toArray, List.getElem?_cons_zero, List.getElem?_cons_succ] at k0 k1 k2 k3 k4 k5 k6 k7
      go_simp
      refine hK.out _ _ ((by first | exact (hHeld.touch (oset8 HR.out rfl).2 (by show ¬ w.heap.size = w.heap.size + 2; omega)))) (fun hH => ?_)
      clear hK K hHeld
      have hHeld := hH
      clear hH
      clear k0 z0 k1 z1 k2 z2 k3 z3 k4 z4 k5 z5 k6 z6 k7 z7
      (try dsimp only [List.getElem_toArray, List.getElem_cons_zero, List.getElem_cons_succ]); (try simp only [Act.put, List.setIfInBounds_toArray, List.set_cons_zero, List.set_cons_succ])
      refine wpAnyH_take (i := 4) (oi := _) (v := ?_) rfl (by kernel_rfl) (by kernel_rfl) (by kernel_rfl) (fun _ _ _ h => h) (Or.inl ⟨by rfl, ?_⟩) hHeld ?_
      rotate_left
      · (intro wz hSw; go_simp; try (with_reducible rfl))
      (try dsimp only [List.getElem_toArray, List.getElem_cons_zero, List.getElem_cons_succ]); (try simp only [Act.put, List.setIfInBounds_toArray, List.set_cons_zero, List.set_cons_succ])
      refine wpAnyH_done (by kernel_rfl) ?_ _
      clear hHeld
      go_wp2
      generalize hX9 : ((((((((w9.setCell ⟨w.heap.size + 1 + 1, 0, none⟩ (.slice a1 n1 c1)).setCell ⟨w.heap.size + 1 + 1, 1, none⟩ (.slice A6 n6 c6)).setCell ⟨w.heap.size + 1 + 1, 2, none⟩ (.slice a3 n3 c3)).setCell ⟨w.heap.size + 1 + 1, 3, none⟩ (.slice A_HA2 (n4 + 1) c_HA2)).setCell ⟨w.heap.size + 1 + 1, 4, none⟩ (.int .i64 cap)).setCell ⟨w.heap.size + 1 + 1, 5, none⟩ (.int .i64 o2)).setCell ⟨w.heap.size + 1 + 1, 6, none⟩ (.int .i64 r2)).setCell ⟨w.heap.size + 1 + 1, 7, none⟩ (.bool d2)) = X9
      obtain ⟨y1, y2⟩ := oset8 HR.out hX9
      have x0 := y1.cell 0; have x1 := y1.cell 1; have x2 := y1.cell 2; have x3 := y1.cell 3; have x4 := y1.cell 4; have x5 := y1.cell 5; have x6 := y1.cell 6; have x7 := y1.cell 7
      simp only [List.getElem?_toArray, List.getElem?_cons_zero, List.getElem?_cons_succ] at x0 x1 x2 x3 x4 x5 x6 x7
      have HB9 := HBo.out.trans (y2.below (fun k _ e => by omega) HBo.out.size)
      have hf : Reads X9 X9.heap.size 2 a1 fs.length (dcs ffc fs) := dReads_on Hmem.out.files HB9
      have hs : Reads X9 X9.heap.size 2 a3 sf.length (dcs efc sf) := dReads_on Hmem.out.safe HB9
      have hdr9 : Reads X9 X9.heap.size 2 A6 ND.length (dcs efc ND) := by rw [HL6.out]; exact ent_off HDi.out HR.out (by simp) y2
      have hcg9 : Reads X9 X9.heap.size 3 A_HA2 (cg ++ [(z, x, y)]).length (dcs cfc (cg ++ [(z, x, y)])) := by rw [List.length_append, HL4.out]; exact chg_off HQ.out.1 HR.out (by simp) y2
      refine bodyPost_ret (v := .tuple #[.agg #[.slice a1 n1 c1, (.slice A6 n6 c6), .slice a3 n3 c3, (.slice A_HA2 (n4 + 1) c_HA2), .int .i64 cap, .int .i64 o2, .int .i64 r2, .bool d2], .int .i64 tn]) (by simp [results, Tryz.results56, go_sem, x0, x1, x2, x3, x4, x5, x6, x7]) rfl ⟨⟨a1, A6, a3, A_HA2, c1, c6, c3, c_HA2⟩, rfl, ⟨hf, hdr9, hs, hcg9, Hmem.out.k1, by show ND.length ≤ c6; rw [HL6.out]; exact HC6.out, Hmem.out.k3, by show (cg ++ [(z, x, y)]).length ≤ c_HA2; rw [List.length_append, HL4.out]; exact HQ.out.2⟩, HB9, ⟨.one w _ _, (HN6.out.mono (Nat.le_refl _) y2.size).up (.two w _ _), .three w _ _, (HAN2.out.mono (Nat.le_refl _) y2.size).up (.inl rfl)⟩⟩
    refine AllReadyH.cons (o := _) rfl (fun K hK => ?_) AllReadyH.nil
    go_simp
    refine hK.out _ _ (hHeld.alloc _) (fun hH => ?_)
    clear hK K hHeld
    have hHeld := hH
    clear hH
    have HO := Lib.hid (dc_new _ z x y HBw.out.size)
    try (have HS := Lib.hid (d_sepB HA.out))
    try (have HS := Lib.hid (d_sepB HA1.out))
    try (replace HA := Lib.hid (HA.out.alloc (.cells #[.string ⟨z.toArray⟩, .string ⟨x.toArray⟩, .int .i64 y] 96)))
    try (replace HA1 := Lib.hid (HA1.out.alloc (.cells #[.string ⟨z.toArray⟩, .string ⟨x.toArray⟩, .int .i64 y] 96)))
    replace HBw := Lib.hid (HBw.out.alloc HBw.out.size (.cells #[.string ⟨z.toArray⟩, .string ⟨x.toArray⟩, .int .i64 y] 96)); replace HR := Lib.hid (HR.out.alloc (.cells #[.string ⟨z.toArray⟩, .string ⟨x.toArray⟩, .int .i64 y] 96)); replace HDd := Lib.hid (HDd.out.alloc (.cells #[.string ⟨z.toArray⟩, .string ⟨x.toArray⟩, .int .i64 y] 96))
    try rw [World.size_alloc] at HO
    try rw [World.size_alloc] at HS
    (try dsimp only [List.getElem_toArray, List.getElem_cons_zero, List.getElem_cons_succ]); (try simp only [Act.put, List.setIfInBounds_toArray, List.set_cons_zero, List.set_cons_succ])
    refine wpAnyH_ready (rs := [2]) (by kernel_rfl) (by simp) ?_
    refine AllReadyH.cons (o := _) rfl (fun K hK => ?_) AllReadyH.nil
    have k3 := HDd.out.cell 3
    have k4 := HDY.out.cell 3
    simp only [List.getElem?_toArray, List.getElem?_cons_zero, List.getElem?_cons_succ] at k3 k4
    go_simp
    try simp only [World.cell?_alloc_some, k4, Option.isSome_some]
    try go_simp
    refine hK.out _ _ (hHeld) (fun hH => ?_)
    clear hK K hHeld
    have hHeld := hH
    clear hH
    clear k3 k4
    (try dsimp only [List.getElem_toArray, List.getElem_cons_zero, List.getElem_cons_succ]); (try simp only [Act.put, List.setIfInBounds_toArray, List.set_cons_zero, List.set_cons_succ])
    refine wpAnyH_ready (rs := [3]) (by kernel_rfl) (by simp) ?_
    refine AllReadyH.cons (o := _) rfl (fun K hK => ?_) AllReadyH.nil
    refine lstep_append (by rfl) (.tmp 17) (.tmp 19) 31 (by rfl) Y.heap.size 96 i0 (.agg #[.string ⟨#[]⟩, .string ⟨#[]⟩, .int .i64 0]) 3 40 Tryz.underlying31 hi hz0 hz1 hz9 rfl (by decide) _ 0 ([]) (by rfl) HA.out a4 n4 c4 _ (dcs cfc cg) (by rfl) (HCg.out _ HBw.out) (cfc_cell _) (by unfold maxLen; omega) (by omega) HBw.out.size (n4) (Nat.zero_add n4) ?_
    intro A_HA1 c_HA1 w_HA1 ho_ hg_ hs_
    refine hK.out _ _ (hHeld.grow' hg_ (d_old HA.out (by omega))) (fun hH => ?_)
    clear hK K hHeld
    have hHeld := hH
    clear hH
    try (have HS2 := Lib.hid (dc_sepC HO.out HS.out hs_))
    try (replace HO := Lib.hid (dc_keep HO.out HS.out hg_))
    try (replace HS := HS2)
    have HA1 : Hid (w_HA1.ownsRow Y.heap.size 96 3 (.slice A_HA1 (n4) c_HA1) (n4) (dcs cfc cg)) := Lib.hid (by first | exact ho_ | (simpa [dcs_app] using ho_))
    replace HR := Lib.hid (HR.out.grow' hg_ (d_old HA.out (by omega)))
    replace HDd := Lib.hid (HDd.out.grow' hg_ (d_old HA.out (by omega)))
    replace HBw := Lib.hid (d_grown HBw.out HA.out hg_)
    clear ho_ hg_ hs_
    (try dsimp only [List.getElem_toArray, List.getElem_cons_zero, List.getElem_cons_succ]); (try simp only [Act.put, List.setIfInBounds_toArray, List.set_cons_zero, List.set_cons_succ])
    refine wpAnyH_ready (rs := [6]) (by kernel_rfl) (by simp) ?_
    refine AllReadyH.cons (o := _) rfl (fun K hK => ?_) AllReadyH.nil
    refine lstep_append (by rfl) (.tmp 20) (.tmp 22) 31 (by rfl) Y.heap.size 96 i0 (.agg #[.string ⟨#[]⟩, .string ⟨#[]⟩, .int .i64 0]) 3 40 Tryz.underlying31 hi hz0 hz1 hz9 rfl (by decide) _ n4 (dcs cfc cg) (by rfl) HA1.out _ 1 1 _ (dcs cfc [((z, (x, y)) : Chg)]) (by rfl) (dc_reads HO.out) (cfc_cell _) (by unfold maxLen; omega) (by omega) HBw.out.size (n4 + 1) rfl ?_
    intro A_HA2 c_HA2 w_HA2 ho_ hg_ hs_
    refine hK.out _ _ (hHeld.grow' hg_ (d_old HA1.out (by omega))) (fun hH => ?_)
    clear hK K hHeld
    have hHeld := hH
    clear hH
    have HA2 : Hid (w_HA2.ownsRow Y.heap.size 96 3 (.slice A_HA2 (n4 + 1) c_HA2) (n4 + 1) (dcs cfc (cg ++ [((z, (x, y)) : Chg)]))) := Lib.hid (by first | exact ho_ | (simpa [dcs_app] using ho_))
    replace HR := Lib.hid (HR.out.grow' hg_ (d_old HA1.out (by omega)))
    replace HDd := Lib.hid (HDd.out.grow' hg_ (d_old HA1.out (by omega)))
    replace HBw := Lib.hid (d_grown HBw.out HA1.out hg_)
    clear ho_ hg_ hs_
    (try dsimp only [List.getElem_toArray, List.getElem_cons_zero, List.getElem_cons_succ]); (try simp only [Act.put, List.setIfInBounds_toArray, List.set_cons_zero, List.set_cons_succ])
    refine wpAnyH_take (i := 7) (oi := _) (v := ?_) rfl (by kernel_rfl) (by kernel_rfl) (by kernel_rfl) (fun _ _ _ h => h) (Or.inl ⟨by rfl, ?_⟩) hHeld ?_
    rotate_left
    · (intro wz hSw; go_simp; try (with_reducible rfl))
    (try dsimp only [List.getElem_toArray, List.getElem_cons_zero, List.getElem_cons_succ]); (try simp only [Act.put, List.setIfInBounds_toArray, List.set_cons_zero, List.set_cons_succ])
    refine wpAnyH_ready (rs := [8]) (by kernel_rfl) (by simp) ?_
    refine AllReadyH.cons (o := _) rfl (fun K hK => ?_) AllReadyH.nil
    have k3 := HDd.out.cell 3
    have z3 := HDd.out.frozen 3
    have HDo := HDd
    simp only [List.getElem?_toArray, List.getElem?_cons_zero, List.getElem?_cons_succ] at k3
    go_simp
    refine hK.out _ _ (hHeld.far (p := ⟨w.heap.size, 3, none⟩) (by show w.heap.size + 1 ≠ w.heap.size; omega) _) (fun hH => ?_)
    clear hK K hHeld
    have hHeld := hH
    clear hH
    clear k3 z3
    replace HR := Lib.hid (HR.out.far (p := ⟨w.heap.size, 3, none⟩) (by show w.heap.size + 2 ≠ w.heap.size; omega) (.slice A_HA2 (n4 + 1) c_HA2))
    replace HDd : Hid (Blk _ w.heap.size 33 #[.slice a1 n1 c1, (.slice A6 n6 c6), .slice a3 n3 c3, (.slice A_HA2 (n4 + 1) c_HA2), .int .i64 cap, .int .i64 o2, .int .i64 r2, .bool d2]) := Lib.hid (by simpa using HDd.out.set_ 3 (.slice A_HA2 (n4 + 1) c_HA2))
    have HBo := Lib.hid ((HY.out.trans (HBw.out.mono HY.out.size)).setCell (p := ⟨w.heap.size, 3, none⟩) (Nat.le_refl _) (.slice A_HA2 (n4 + 1) c_HA2))
    have HQ := Lib.hid (dc_row (p := ⟨w.heap.size, 3, none⟩) (u := .slice A_HA2 (n4 + 1) c_HA2) HA2.out (by omega) (by show w.heap.size < Y.heap.size; omega))
    have HDi := Lib.hid (ent_off (dReads_on HDir.out HBw.out) HDo.out (by simp) (dtouch_set _ (p := ⟨w.heap.size, 3, none⟩) (.slice A_HA2 (n4 + 1) c_HA2)))
    (try dsimp only [List.getElem_toArray, List.getElem_cons_zero, List.getElem_cons_succ]); (try simp only [Act.put, List.setIfInBounds_toArray, List.set_cons_zero, List.set_cons_succ])
    refine wpAnyH_done (by kernel_rfl) ?_ _
    have HAN2 := Lib.hid (AN.mono (w3 := w_HA2.setCell ⟨w.heap.size, 3, none⟩ (.slice A_HA2 (n4 + 1) c_HA2)) (owns_new (w := w) HA2.out HY.out.size) (Nat.le_refl _) (by rw [World.size_setCell]; exact Nat.le_refl _))
    replace HN6 := Lib.hid (AN.mono (w3 := w_HA2.setCell ⟨w.heap.size, 3, none⟩ (.slice A_HA2 (n4 + 1) c_HA2)) HN6.out (Nat.le_refl _) (by rw [World.size_setCell]; exact HBw.out.size))
    clear hHeld HDo HA2 HBw
    go_wp2
    generalize w_HA2.setCell ⟨w.heap.size, 3, none⟩ (.slice A_HA2 (n4 + 1) c_HA2) = Z at *
    replace HN6 := Lib.hid (AN.mono (w3 := Z.drew) HN6.out (Nat.le_refl _) (Nat.le_refl _))
    replace HAN2 := Lib.hid (AN.mono (w3 := Z.drew) HAN2.out (Nat.le_refl _) (Nat.le_refl _))
    replace HR := Lib.hid HR.out.drew
    replace HBo := Lib.hid HBo.out.drew
    replace HQ := Lib.hid (And.intro (dReads_on HQ.out.1 (Below.refl _ _).drew) HQ.out.2)
    replace HDi := Lib.hid (dReads_on HDi.out (Below.refl _ _).drew)
    refine wp_region_held_drew (S := (fun W => Blk W w.heap.size 33 #[.slice a1 n1 c1, (.slice A6 n6 c6), .slice a3 n3 c3, (.slice A_HA2 (n4 + 1) c_HA2), .int .i64 cap, .int .i64 o2, .int .i64 r2, .bool d2])) (by kernel_rfl) (HDd.out.drew) (fun hHeld => ?_)
    refine wpAnyH_take (i := 0) (oi := _) (v := ?_) rfl (by kernel_rfl) (by kernel_rfl) (by kernel_rfl) (fun _ _ _ h => h) (Or.inl ⟨by rfl, ?_⟩) hHeld ?_
    rotate_left
    · (intro wz hSw; have k0 := hSw.cell 0; have k1 := hSw.cell 1; have k2 := hSw.cell 2; have k3 := hSw.cell 3; have k4 := hSw.cell 4; have k5 := hSw.cell 5; have k6 := hSw.cell 6; have k7 := hSw.cell 7; simp only [List.getElem?_toArray, List.getElem?_cons_zero, List.getElem?_cons_succ] at k0 k1 k2 k3 k4 k5 k6 k7; go_simp; try (with_reducible rfl))
    (try dsimp only [List.getElem_toArray, List.getElem_cons_zero, List.getElem_cons_succ]); (try simp only [Act.put, List.setIfInBounds_toArray, List.set_cons_zero, List.set_cons_succ])
    refine wpAnyH_take (i := 1) (oi := _) (v := ?_) rfl (by kernel_rfl) (by kernel_rfl) (by kernel_rfl) (fun _ _ _ h => h) (Or.inl ⟨by rfl, ?_⟩) hHeld ?_
    rotate_left
    · (intro wz hSw; go_simp; try (with_reducible rfl))
    (try dsimp only [List.getElem_toArray, List.getElem_cons_zero, List.getElem_cons_succ]); (try simp only [Act.put, List.setIfInBounds_toArray, List.set_cons_zero, List.set_cons_succ])
    refine wpAnyH_ready (rs := [2]) (by kernel_rfl) (by simp) ?_
    refine AllReadyH.cons (o := _) rfl (fun K hK => ?_) AllReadyH.nil
    go_simp
    go_at_call 61
    (with_reducible refine (Htold.out _).mono ?_)
    rintro e w9 ⟨rfl, hb1⟩
    replace HN6 := Lib.hid (HN6.out.mono (Nat.le_refl _) hb1.size)
    replace HAN2 := Lib.hid (HAN2.out.mono (Nat.le_refl _) hb1.size)
    replace HR := Lib.hid (HR.out.below hb1 HR.out.lt)
    replace HBo := Lib.hid (HBo.out.trans (hb1.mono HBo.out.size))
    replace HQ := Lib.hid (And.intro (dReads_on HQ.out.1 hb1) HQ.out.2)
    replace HDi := Lib.hid (dReads_on HDi.out hb1)
    refine hK.out _ _ (hHeld.below hb1 hHeld.lt) (fun hH => ?_)
    clear hHeld hK K hb1
    have hHeld := hH
    clear hH
    (try dsimp only [List.getElem_toArray, List.getElem_cons_zero, List.getElem_cons_succ]); (try simp only [Act.put, List.setIfInBounds_toArray, List.set_cons_zero, List.set_cons_succ])
    refine wpAnyH_ready (rs := [3]) (by kernel_rfl) (by simp) ?_
    refine AllReadyH.cons (o := _) rfl (fun K hK => ?_) AllReadyH.nil
    have k0 := HR.out.cell 0; have z0 := HR.out.frozen 0; have k1 := HR.out.cell 1; have z1 := HR.out.frozen 1; have k2 := HR.out.cell 2; have z2 := HR.out.frozen 2; have k3 := HR.out.cell 3; have z3 := HR.out.frozen 3; have k4 := HR.out.cell 4; have z4 := HR.out.frozen 4; have k5 := HR.out.cell 5; have z5 := HR.out.frozen 5; have k6 := HR.out.cell 6; have z6 := HR.out.frozen 6; have k7 := HR.out.cell 7; have z7 := HR.out.frozen 7
    simp only [List.getElem?_toArray, List.getElem?_cons_zero, List.getElem?_cons_succ] at k0 k1 k2 k3 k4 k5 k6 k7
    go_simp
    refine hK.out _ _ ((by first | exact (hHeld.touch (oset8 HR.out rfl).2 (by show ¬ w.heap.size = w.heap.size + 2; omega)))) (fun hH => ?_)
    clear hK K hHeld
    have hHeld := hH
    clear hH
    clear k0 z0 k1 z1 k2 z2 k3 z3 k4 z4 k5 z5 k6 z6 k7 z7
    (try dsimp only [List.getElem_toArray, List.getElem_cons_zero, List.getElem_cons_succ]); (try simp only [Act.put, List.setIfInBounds_toArray, List.set_cons_zero, List.set_cons_succ])
    refine wpAnyH_take (i := 4) (oi := _) (v := ?_) rfl (by kernel_rfl) (by kernel_rfl) (by kernel_rfl) (fun _ _ _ h => h) (Or.inl ⟨by rfl, ?_⟩) hHeld ?_
    rotate_left
    · (intro wz hSw; go_simp; try (with_reducible rfl))
    (try dsimp only [List.getElem_toArray, List.getElem_cons_zero, List.getElem_cons_succ]); (try simp only [Act.put, List.setIfInBounds_toArray, List.set_cons_zero, List.set_cons_succ])
    refine wpAnyH_done (by kernel_rfl) ?_ _
    clear hHeld
    go_wp2
    generalize hX9 : ((((((((w9.setCell ⟨w.heap.size + 1 + 1, 0, none⟩ (.slice a1 n1 c1)).setCell ⟨w.heap.size + 1 + 1, 1, none⟩ (.slice A6 n6 c6)).setCell ⟨w.heap.size + 1 + 1, 2, none⟩ (.slice a3 n3 c3)).setCell ⟨w.heap.size + 1 + 1, 3, none⟩ (.slice A_HA2 (n4 + 1) c_HA2)).setCell ⟨w.heap.size + 1 + 1, 4, none⟩ (.int .i64 cap)).setCell ⟨w.heap.size + 1 + 1, 5, none⟩ (.int .i64 o2)).setCell ⟨w.heap.size + 1 + 1, 6, none⟩ (.int .i64 r2)).setCell ⟨w.heap.size + 1 + 1, 7, none⟩ (.bool d2)) = X9
    obtain ⟨y1, y2⟩ := oset8 HR.out hX9
    have x0 := y1.cell 0; have x1 := y1.cell 1; have x2 := y1.cell 2; have x3 := y1.cell 3; have x4 := y1.cell 4; have x5 := y1.cell 5; have x6 := y1.cell 6; have x7 := y1.cell 7
    simp only [List.getElem?_toArray, List.getElem?_cons_zero, List.getElem?_cons_succ] at x0 x1 x2 x3 x4 x5 x6 x7
    have HB9 := HBo.out.trans (y2.below (fun k _ e => by omega) HBo.out.size)
    have hf : Reads X9 X9.heap.size 2 a1 fs.length (dcs ffc fs) := dReads_on Hmem.out.files HB9
    have hs : Reads X9 X9.heap.size 2 a3 sf.length (dcs efc sf) := dReads_on Hmem.out.safe HB9
    have hdr9 : Reads X9 X9.heap.size 2 A6 ND.length (dcs efc ND) := by rw [HL6.out]; exact ent_off HDi.out HR.out (by simp) y2
    have hcg9 : Reads X9 X9.heap.size 3 A_HA2 (cg ++ [(z, x, y)]).length (dcs cfc (cg ++ [(z, x, y)])) := by rw [List.length_append, HL4.out]; exact chg_off HQ.out.1 HR.out (by simp) y2
    refine bodyPost_ret (v := .tuple #[.agg #[.slice a1 n1 c1, (.slice A6 n6 c6), .slice a3 n3 c3, (.slice A_HA2 (n4 + 1) c_HA2), .int .i64 cap, .int .i64 o2, .int .i64 r2, .bool d2], .int .i64 tn]) (by simp [results, Tryz.results56, go_sem, x0, x1, x2, x3, x4, x5, x6, x7]) rfl ⟨⟨a1, A6, a3, A_HA2, c1, c6, c3, c_HA2⟩, rfl, ⟨hf, hdr9, hs, hcg9, Hmem.out.k1, by show ND.length ≤ c6; rw [HL6.out]; exact HC6.out, Hmem.out.k3, by show (cg ++ [(z, x, y)]).length ≤ c_HA2; rw [List.length_append, HL4.out]; exact HQ.out.2⟩, HB9, ⟨.one w _ _, (HN6.out.mono (Nat.le_refl _) y2.size).up (.two w _ _), .three w _ _, (HAN2.out.mono (Nat.le_refl _) y2.size).up (.inl rfl)⟩⟩
  refine AllReadyH.cons (o := _) rfl (fun K hK => ?_) ?_
  · skip
    have k3 := HDd.out.cell 3
    have k4 := HDY.out.cell 3
    simp only [List.getElem?_toArray, List.getElem?_cons_zero, List.getElem?_cons_succ] at k3 k4
    go_simp
    try simp only [World.cell?_alloc_some, k4, Option.isSome_some]
    try go_simp
    refine hK.out _ _ (hHeld) (fun hH => ?_)
    clear hK K hHeld
    have hHeld := hH
    clear hH
    clear k3 k4
    (try dsimp only [List.getElem_toArray, List.getElem_cons_zero, List.getElem_cons_succ]); (try simp only [Act.put, List.setIfInBounds_toArray, List.set_cons_zero, List.set_cons_succ])
    refine wpAnyH_ready (rs := [0, 5]) (by kernel_rfl) (by simp) ?_
    refine AllReadyH.cons (o := _) rfl (fun K hK => ?_) ?_
    · skip
      go_simp
      refine hK.out _ _ (hHeld.alloc _) (fun hH => ?_)
      clear hK K hHeld
      have hHeld := hH
      clear hH
      have HA := Lib.hid (d_nothing (t := 96) (m := 3) _ HBw.out.size)
      try (have HS := Lib.hid (dc_sepA HO.out (.cells #[] 96)))
      try (replace HO := Lib.hid (HO.out.alloc (.cells #[] 96)))
      replace HBw := Lib.hid (HBw.out.alloc HBw.out.size (.cells #[] 96)); replace HR := Lib.hid (HR.out.alloc (.cells #[] 96)); replace HDd := Lib.hid (HDd.out.alloc (.cells #[] 96))
      try rw [World.size_alloc] at HA
      try rw [World.size_alloc] at HS
      (try dsimp only [List.getElem_toArray, List.getElem_cons_zero, List.getElem_cons_succ]); (try simp only [Act.put, List.setIfInBounds_toArray, List.set_cons_zero, List.set_cons_succ])
      refine wpAnyH_ready (rs := [3, 5]) (by kernel_rfl) (by simp) ?_
      refine AllReadyH.cons (o := _) rfl (fun K hK => ?_) ?_
      · skip
        refine lstep_append (by rfl) (.tmp 17) (.tmp 19) 31 (by rfl) Y.heap.size 96 i0 (.agg #[.string ⟨#[]⟩, .string ⟨#[]⟩, .int .i64 0]) 3 40 Tryz.underlying31 hi hz0 hz1 hz9 rfl (by decide) _ 0 ([]) (by rfl) HA.out a4 n4 c4 _ (dcs cfc cg) (by rfl) (HCg.out _ HBw.out) (cfc_cell _) (by unfold maxLen; omega) (by omega) HBw.out.size (n4) (Nat.zero_add n4) ?_
        intro A_HA1 c_HA1 w_HA1 ho_ hg_ hs_
        refine hK.out _ _ (hHeld.grow' hg_ (d_old HA.out (by omega))) (fun hH => ?_)
        clear hK K hHeld
        have hHeld := hH
        clear hH
        try (have HS2 := Lib.hid (dc_sepC HO.out HS.out hs_))
        try (replace HO := Lib.hid (dc_keep HO.out HS.out hg_))
        try (replace HS := HS2)
        have HA1 : Hid (w_HA1.ownsRow Y.heap.size 96 3 (.slice A_HA1 (n4) c_HA1) (n4) (dcs cfc cg)) := Lib.hid (by first | exact ho_ | (simpa [dcs_app] using ho_))
        replace HR := Lib.hid (HR.out.grow' hg_ (d_old HA.out (by omega)))
        replace HDd := Lib.hid (HDd.out.grow' hg_ (d_old HA.out (by omega)))
        replace HBw := Lib.hid (d_grown HBw.out HA.out hg_)
        clear ho_ hg_ hs_
        (try dsimp only [List.getElem_toArray, List.getElem_cons_zero, List.getElem_cons_succ]); (try simp only [Act.put, List.setIfInBounds_toArray, List.set_cons_zero, List.set_cons_succ])
        refine wpAnyH_ready (rs := [5]) (by kernel_rfl) (by simp) ?_
        refine AllReadyH.cons (o := _) rfl (fun K hK => ?_) AllReadyH.nil
        go_simp
        refine hK.out _ _ (hHeld.alloc _) (fun hH => ?_)
        clear hK K hHeld
        have hHeld := hH
        clear hH
        have HO := Lib.hid (dc_new _ z x y HBw.out.size)
        try (have HS := Lib.hid (d_sepB HA.out))
        try (have HS := Lib.hid (d_sepB HA1.out))
        try (replace HA := Lib.hid (HA.out.alloc (.cells #[.string ⟨z.toArray⟩, .string ⟨x.toArray⟩, .int .i64 y] 96)))
        try (replace HA1 := Lib.hid (HA1.out.alloc (.cells #[.string ⟨z.toArray⟩, .string ⟨x.toArray⟩, .int .i64 y] 96)))
        replace HBw := Lib.hid (HBw.out.alloc HBw.out.size (.cells #[.string ⟨z.toArray⟩, .string ⟨x.toArray⟩, .int .i64 y] 96)); replace HR := Lib.hid (HR.out.alloc (.cells #[.string ⟨z.toArray⟩, .string ⟨x.toArray⟩, .int .i64 y] 96)); replace HDd := Lib.hid (HDd.out.alloc (.cells #[.string ⟨z.toArray⟩, .string ⟨x.toArray⟩, .int .i64 y] 96))
        try rw [World.size_alloc] at HO
        try rw [World.size_alloc] at HS
        (try dsimp only [List.getElem_toArray, List.getElem_cons_zero, List.getElem_cons_succ]); (try simp only [Act.put, List.setIfInBounds_toArray, List.set_cons_zero, List.set_cons_succ])
        refine wpAnyH_ready (rs := [6]) (by kernel_rfl) (by simp) ?_
        refine AllReadyH.cons (o := _) rfl (fun K hK => ?_) AllReadyH.nil
        refine lstep_append (by rfl) (.tmp 20) (.tmp 22) 31 (by rfl) Y.heap.size 96 i0 (.agg #[.string ⟨#[]⟩, .string ⟨#[]⟩, .int .i64 0]) 3 40 Tryz.underlying31 hi hz0 hz1 hz9 rfl (by decide) _ n4 (dcs cfc cg) (by rfl) HA1.out _ 1 1 _ (dcs cfc [((z, (x, y)) : Chg)]) (by rfl) (dc_reads HO.out) (cfc_cell _) (by unfold maxLen; omega) (by omega) HBw.out.size (n4 + 1) rfl ?_
        intro A_HA2 c_HA2 w_HA2 ho_ hg_ hs_
        refine hK.out _ _ (hHeld.grow' hg_ (d_old HA1.out (by omega))) (fun hH => ?_)
        clear hK K hHeld
        have hHeld := hH
        clear hH
        have HA2 : Hid (w_HA2.ownsRow Y.heap.size 96 3 (.slice A_HA2 (n4 + 1) c_HA2) (n4 + 1) (dcs cfc (cg ++ [((z, (x, y)) : Chg)]))) := Lib.hid (by first | exact ho_ | (simpa [dcs_app] using ho_))
        replace HR := Lib.hid (HR.out.grow' hg_ (d_old HA1.out (by omega)))
        replace HDd := Lib.hid (HDd.out.grow' hg_ (d_old HA1.out (by omega)))
        replace HBw := Lib.hid (d_grown HBw.out HA1.out hg_)
        clear ho_ hg_ hs_
        (try dsimp only [List.getElem_toArray, List.getElem_cons_zero, List.getElem_cons_succ]); (try simp only [Act.put, List.setIfInBounds_toArray, List.set_cons_zero, List.set_cons_succ])
        refine wpAnyH_take (i := 7) (oi := _) (v := ?_) rfl (by kernel_rfl) (by kernel_rfl) (by kernel_rfl) (fun _ _ _ h => h) (Or.inl ⟨by rfl, ?_⟩) hHeld ?_
        rotate_left
        · (intro wz hSw; go_simp; try (with_reducible rfl))
        (try dsimp only [List.getElem_toArray, List.getElem_cons_zero, List.getElem_cons_succ]); (try simp only [Act.put, List.setIfInBounds_toArray, List.set_cons_zero, List.set_cons_succ])
        refine wpAnyH_ready (rs := [8]) (by kernel_rfl) (by simp) ?_
        refine AllReadyH.cons (o := _) rfl (fun K hK => ?_) AllReadyH.nil
        have k3 := HDd.out.cell 3
        have z3 := HDd.out.frozen 3
        have HDo := HDd
        simp only [List.getElem?_toArray, List.getElem?_cons_zero, List.getElem?_cons_succ] at k3
        go_simp
        refine hK.out _ _ (hHeld.far (p := ⟨w.heap.size, 3, none⟩) (by show w.heap.size + 1 ≠ w.heap.size; omega) _) (fun hH => ?_)
        clear hK K hHeld
        have hHeld := hH
        clear hH
        clear k3 z3
        replace HR := Lib.hid (HR.out.far (p := ⟨w.heap.size, 3, none⟩) (by show w.heap.size + 2 ≠ w.heap.size; omega) (.slice A_HA2 (n4 + 1) c_HA2))
        replace HDd : Hid (Blk _ w.heap.size 33 #[.slice a1 n1 c1, (.slice A6 n6 c6), .slice a3 n3 c3, (.slice A_HA2 (n4 + 1) c_HA2), .int .i64 cap, .int .i64 o2, .int .i64 r2, .bool d2]) := Lib.hid (by simpa using HDd.out.set_ 3 (.slice A_HA2 (n4 + 1) c_HA2))
        have HBo := Lib.hid ((HY.out.trans (HBw.out.mono HY.out.size)).setCell (p := ⟨w.heap.size, 3, none⟩) (Nat.le_refl _) (.slice A_HA2 (n4 + 1) c_HA2))
        have HQ := Lib.hid (dc_row (p := ⟨w.heap.size, 3, none⟩) (u := .slice A_HA2 (n4 + 1) c_HA2) HA2.out (by omega) (by show w.heap.size < Y.heap.size; omega))
        have HDi := Lib.hid (ent_off (dReads_on HDir.out HBw.out) HDo.out (by simp) (dtouch_set _ (p := ⟨w.heap.size, 3, none⟩) (.slice A_HA2 (n4 + 1) c_HA2)))
        (try dsimp only [List.getElem_toArray, List.getElem_cons_zero, List.getElem_cons_succ]); (try simp only [Act.put, List.setIfInBounds_toArray, List.set_cons_zero, List.set_cons_succ])
        refine wpAnyH_done (by kernel_rfl) ?_ _
        have HAN2 := Lib.hid (AN.mono (w3 := w_HA2.setCell ⟨w.heap.size, 3, none⟩ (.slice A_HA2 (n4 + 1) c_HA2)) (owns_new (w := w) HA2.out HY.out.size) (Nat.le_refl _) (by rw [World.size_setCell]; exact Nat.le_refl _))
        replace HN6 := Lib.hid (AN.mono (w3 := w_HA2.setCell ⟨w.heap.size, 3, none⟩ (.slice A_HA2 (n4 + 1) c_HA2)) HN6.out (Nat.le_refl _) (by rw [World.size_setCell]; exact HBw.out.size))
        clear hHeld HDo HA2 HBw
        go_wp2
        generalize w_HA2.setCell ⟨w.heap.size, 3, none⟩ (.slice A_HA2 (n4 + 1) c_HA2) = Z at *
        replace HN6 := Lib.hid (AN.mono (w3 := Z.drew) HN6.out (Nat.le_refl _) (Nat.le_refl _))
        replace HAN2 := Lib.hid (AN.mono (w3 := Z.drew) HAN2.out (Nat.le_refl _) (Nat.le_refl _))
        replace HR := Lib.hid HR.out.drew
        replace HBo := Lib.hid HBo.out.drew
        replace HQ := Lib.hid (And.intro (dReads_on HQ.out.1 (Below.refl _ _).drew) HQ.out.2)
        replace HDi := Lib.hid (dReads_on HDi.out (Below.refl _ _).drew)
        refine wp_region_held_drew (S := (fun W => Blk W w.heap.size 33 #[.slice a1 n1 c1, (.slice A6 n6 c6), .slice a3 n3 c3, (.slice A_HA2 (n4 + 1) c_HA2), .int .i64 cap, .int .i64 o2, .int .i64 r2, .bool d2])) (by kernel_rfl) (HDd.out.drew) (fun hHeld => ?_)
        refine wpAnyH_take (i := 0) (oi := _) (v := ?_) rfl (by kernel_rfl) (by kernel_rfl) (by kernel_rfl) (fun _ _ _ h => h) (Or.inl ⟨by rfl, ?_⟩) hHeld ?_
        rotate_left
        · (intro wz hSw; have k0 := hSw.cell 0; have k1 := hSw.cell 1; have k2 := hSw.cell 2; have k3 := hSw.cell 3; have k4 := hSw.cell 4; have k5 := hSw.cell 5; have k6 := hSw.cell 6; have k7 := hSw.cell 7; simp only [List.getElem?_toArray, List.getElem?_cons_zero, List.getElem?_cons_succ] at k0 k1 k2 k3 k4 k5 k6 k7; go_simp; try (with_reducible rfl))
        (try dsimp only [List.getElem_toArray, List.getElem_cons_zero, List.getElem_cons_succ]); (try simp only [Act.put, List.setIfInBounds_toArray, List.set_cons_zero, List.set_cons_succ])
        refine wpAnyH_take (i := 1) (oi := _) (v := ?_) rfl (by kernel_rfl) (by kernel_rfl) (by kernel_rfl) (fun _ _ _ h => h) (Or.inl ⟨by rfl, ?_⟩) hHeld ?_
        rotate_left
        · (intro wz hSw; go_simp; try (with_reducible rfl))
        (try dsimp only [List.getElem_toArray, List.getElem_cons_zero, List.getElem_cons_succ]); (try simp only [Act.put, List.setIfInBounds_toArray, List.set_cons_zero, List.set_cons_succ])
        refine wpAnyH_ready (rs := [2]) (by kernel_rfl) (by simp) ?_
        refine AllReadyH.cons (o := _) rfl (fun K hK => ?_) AllReadyH.nil
        go_simp
        go_at_call 61
        (with_reducible refine (Htold.out _).mono ?_)
        rintro e w9 ⟨rfl, hb1⟩
        replace HN6 := Lib.hid (HN6.out.mono (Nat.le_refl _) hb1.size)
        replace HAN2 := Lib.hid (HAN2.out.mono (Nat.le_refl _) hb1.size)
        replace HR := Lib.hid (HR.out.below hb1 HR.out.lt)
        replace HBo := Lib.hid (HBo.out.trans (hb1.mono HBo.out.size))
        replace HQ := Lib.hid (And.intro (dReads_on HQ.out.1 hb1) HQ.out.2)
        replace HDi := Lib.hid (dReads_on HDi.out hb1)
        refine hK.out _ _ (hHeld.below hb1 hHeld.lt) (fun hH => ?_)
        clear hHeld hK K hb1
        have hHeld := hH
        clear hH
        (try dsimp only [List.getElem_toArray, List.getElem_cons_zero, List.getElem_cons_succ]); (try simp only [Act.put, List.setIfInBounds_toArray, List.set_cons_zero, List.set_cons_succ])
        refine wpAnyH_ready (rs := [3]) (by kernel_rfl) (by simp) ?_
        refine AllReadyH.cons (o := _) rfl (fun K hK => ?_) AllReadyH.nil
        have k0 := HR.out.cell 0; have z0 := HR.out.frozen 0; have k1 := HR.out.cell 1; have z1 := HR.out.frozen 1; have k2 := HR.out.cell 2; have z2 := HR.out.frozen 2; have k3 := HR.out.cell 3; have z3 := HR.out.frozen 3; have k4 := HR.out.cell 4; have z4 := HR.out.frozen 4; have k5 := HR.out.cell 5; have z5 := HR.out.frozen 5; have k6 := HR.out.cell 6; have z6 := HR.out.frozen 6; have k7 := HR.out.cell 7; have z7 := HR.out.frozen 7
        simp only [List.getElem?_toArray, List.getElem?_cons_zero, List.getElem?_cons_succ] at k0 k1 k2 k3 k4 k5 k6 k7
        go_simp
        refine hK.out _ _ ((by first | exact (hHeld.touch (oset8 HR.out rfl).2 (by show ¬ w.heap.size = w.heap.size + 2; omega)))) (fun hH => ?_)
        clear hK K hHeld
        have hHeld := hH
        clear hH
        clear k0 z0 k1 z1 k2 z2 k3 z3 k4 z4 k5 z5 k6 z6 k7 z7
        (try dsimp only [List.getElem_toArray, List.getElem_cons_zero, List.getElem_cons_succ]); (try simp only [Act.put, List.setIfInBounds_toArray, List.set_cons_zero, List.set_cons_succ])
        refine wpAnyH_take (i := 4) (oi := _) (v := ?_) rfl (by kernel_rfl) (by kernel_rfl) (by kernel_rfl) (fun _ _ _ h => h) (Or.inl ⟨by rfl, ?_⟩) hHeld ?_
        rotate_left
        · (intro wz hSw; go_simp; try (with_reducible rfl))
        (try dsimp only [List.getElem_toArray, List.getElem_cons_zero, List.getElem_cons_succ]); (try simp only [Act.put, List.setIfInBounds_toArray, List.set_cons_zero, List.set_cons_succ])
        refine wpAnyH_done (by kernel_rfl) ?_ _
        clear hHeld
        go_wp2
        generalize hX9 : ((((((((w9.setCell ⟨w.heap.size + 1 + 1, 0, none⟩ (.slice a1 n1 c1)).setCell ⟨w.heap.size + 1 + 1, 1, none⟩ (.slice A6 n6 c6)).setCell ⟨w.heap.size + 1 + 1, 2, none⟩ (.slice a3 n3 c3)).setCell ⟨w.heap.size + 1 + 1, 3, none⟩ (.slice A_HA2 (n4 + 1) c_HA2)).setCell ⟨w.heap.size + 1 + 1, 4, none⟩ (.int .i64 cap)).setCell ⟨w.heap.size + 1 + 1, 5, none⟩ (.int .i64 o2)).setCell ⟨w.heap.size + 1 + 1, 6, none⟩ (.int .i64 r2)).setCell ⟨w.heap.size + 1 + 1, 7, none⟩ (.bool d2)) = X9
        obtain ⟨y1, y2⟩ := oset8 HR.out hX9
        have x0 := y1.cell 0; have x1 := y1.cell 1; have x2 := y1.cell 2; have x3 := y1.cell 3; have x4 := y1.cell 4; have x5 := y1.cell 5; have x6 := y1.cell 6; have x7 := y1.cell 7
        simp only [List.getElem?_toArray, List.getElem?_cons_zero, List.getElem?_cons_succ] at x0 x1 x2 x3 x4 x5 x6 x7
        have HB9 := HBo.out.trans (y2.below (fun k _ e => by omega) HBo.out.size)
        have hf : Reads X9 X9.heap.size 2 a1 fs.length (dcs ffc fs) := dReads_on Hmem.out.files HB9
        have hs : Reads X9 X9.heap.size 2 a3 sf.length (dcs efc sf) := dReads_on Hmem.out.safe HB9
        have hdr9 : Reads X9 X9.heap.size 2 A6 ND.length (dcs efc ND) := by rw [HL6.out]; exact ent_off HDi.out HR.out (by simp) y2
        have hcg9 : Reads X9 X9.heap.size 3 A_HA2 (cg ++ [(z, x, y)]).length (dcs cfc (cg ++ [(z, x, y)])) := by rw [List.length_append, HL4.out]; exact chg_off HQ.out.1 HR.out (by simp) y2
        refine bodyPost_ret (v := .tuple #[.agg #[.slice a1 n1 c1, (.slice A6 n6 c6), .slice a3 n3 c3, (.slice A_HA2 (n4 + 1) c_HA2), .int .i64 cap, .int .i64 o2, .int .i64 r2, .bool d2], .int .i64 tn]) (by simp [results, Tryz.results56, go_sem, x0, x1, x2, x3, x4, x5, x6, x7]) rfl ⟨⟨a1, A6, a3, A_HA2, c1, c6, c3, c_HA2⟩, rfl, ⟨hf, hdr9, hs, hcg9, Hmem.out.k1, by show ND.length ≤ c6; rw [HL6.out]; exact HC6.out, Hmem.out.k3, by show (cg ++ [(z, x, y)]).length ≤ c_HA2; rw [List.length_append, HL4.out]; exact HQ.out.2⟩, HB9, ⟨.one w _ _, (HN6.out.mono (Nat.le_refl _) y2.size).up (.two w _ _), .three w _ _, (HAN2.out.mono (Nat.le_refl _) y2.size).up (.inl rfl)⟩⟩
      refine AllReadyH.cons (o := _) rfl (fun K hK => ?_) AllReadyH.nil
      go_simp
      refine hK.out _ _ (hHeld.alloc _) (fun hH => ?_)
      clear hK K hHeld
      have hHeld := hH
      clear hH
      have HO := Lib.hid (dc_new _ z x y HBw.out.size)
      try (have HS := Lib.hid (d_sepB HA.out))
      try (have HS := Lib.hid (d_sepB HA1.out))
      try (replace HA := Lib.hid (HA.out.alloc (.cells #[.string ⟨z.toArray⟩, .string ⟨x.toArray⟩, .int .i64 y] 96)))
      try (replace HA1 := Lib.hid (HA1.out.alloc (.cells #[.string ⟨z.toArray⟩, .string ⟨x.toArray⟩, .int .i64 y] 96)))
      replace HBw := Lib.hid (HBw.out.alloc HBw.out.size (.cells #[.string ⟨z.toArray⟩, .string ⟨x.toArray⟩, .int .i64 y] 96)); replace HR := Lib.hid (HR.out.alloc (.cells #[.string ⟨z.toArray⟩, .string ⟨x.toArray⟩, .int .i64 y] 96)); replace HDd := Lib.hid (HDd.out.alloc (.cells #[.string ⟨z.toArray⟩, .string ⟨x.toArray⟩, .int .i64 y] 96))
      try rw [World.size_alloc] at HO
      try rw [World.size_alloc] at HS
      (try dsimp only [List.getElem_toArray, List.getElem_cons_zero, List.getElem_cons_succ]); (try simp only [Act.put, List.setIfInBounds_toArray, List.set_cons_zero, List.set_cons_succ])
      refine wpAnyH_ready (rs := [3]) (by kernel_rfl) (by simp) ?_
      refine AllReadyH.cons (o := _) rfl (fun K hK => ?_) AllReadyH.nil
      refine lstep_append (by rfl) (.tmp 17) (.tmp 19) 31 (by rfl) Y.heap.size 96 i0 (.agg #[.string ⟨#[]⟩, .string ⟨#[]⟩, .int .i64 0]) 3 40 Tryz.underlying31 hi hz0 hz1 hz9 rfl (by decide) _ 0 ([]) (by rfl) HA.out a4 n4 c4 _ (dcs cfc cg) (by rfl) (HCg.out _ HBw.out) (cfc_cell _) (by unfold maxLen; omega) (by omega) HBw.out.size (n4) (Nat.zero_add n4) ?_
      intro A_HA1 c_HA1 w_HA1 ho_ hg_ hs_
      refine hK.out _ _ (hHeld.grow' hg_ (d_old HA.out (by omega))) (fun hH => ?_)
      clear hK K hHeld
      have hHeld := hH
      clear hH
      try (have HS2 := Lib.hid (dc_sepC HO.out HS.out hs_))
      try (replace HO := Lib.hid (dc_keep HO.out HS.out hg_))
      try (replace HS := HS2)
      have HA1 : Hid (w_HA1.ownsRow Y.heap.size 96 3 (.slice A_HA1 (n4) c_HA1) (n4) (dcs cfc cg)) := Lib.hid (by first | exact ho_ | (simpa [dcs_app] using ho_))
      replace HR := Lib.hid (HR.out.grow' hg_ (d_old HA.out (by omega)))
      replace HDd := Lib.hid (HDd.out.grow' hg_ (d_old HA.out (by omega)))
      replace HBw := Lib.hid (d_grown HBw.out HA.out hg_)
      clear ho_ hg_ hs_
      (try dsimp only [List.getElem_toArray, List.getElem_cons_zero, List.getElem_cons_succ]); (try simp only [Act.put, List.setIfInBounds_toArray, List.set_cons_zero, List.set_cons_succ])
      refine wpAnyH_ready (rs := [6]) (by kernel_rfl) (by simp) ?_
      refine AllReadyH.cons (o := _) rfl (fun K hK => ?_) AllReadyH.nil
      refine lstep_append (by rfl) (.tmp 20) (.tmp 22) 31 (by rfl) Y.heap.size 96 i0 (.agg #[.string ⟨#[]⟩, .string ⟨#[]⟩, .int .i64 0]) 3 40 Tryz.underlying31 hi hz0 hz1 hz9 rfl (by decide) _ n4 (dcs cfc cg) (by rfl) HA1.out _ 1 1 _ (dcs cfc [((z, (x, y)) : Chg)]) (by rfl) (dc_reads HO.out) (cfc_cell _) (by unfold maxLen; omega) (by omega) HBw.out.size (n4 + 1) rfl ?_
      intro A_HA2 c_HA2 w_HA2 ho_ hg_ hs_
      refine hK.out _ _ (hHeld.grow' hg_ (d_old HA1.out (by omega))) (fun hH => ?_)
      clear hK K hHeld
      have hHeld := hH
      clear hH
      have HA2 : Hid (w_HA2.ownsRow Y.heap.size 96 3 (.slice A_HA2 (n4 + 1) c_HA2) (n4 + 1) (dcs cfc (cg ++ [((z, (x, y)) : Chg)]))) := Lib.hid (by first | exact ho_ | (simpa [dcs_app] using ho_))
      replace HR := Lib.hid (HR.out.grow' hg_ (d_old HA1.out (by omega)))
      replace HDd := Lib.hid (HDd.out.grow' hg_ (d_old HA1.out (by omega)))
      replace HBw := Lib.hid (d_grown HBw.out HA1.out hg_)
      clear ho_ hg_ hs_
      (try dsimp only [List.getElem_toArray, List.getElem_cons_zero, List.getElem_cons_succ]); (try simp only [Act.put, List.setIfInBounds_toArray, List.set_cons_zero, List.set_cons_succ])
      refine wpAnyH_take (i := 7) (oi := _) (v := ?_) rfl (by kernel_rfl) (by kernel_rfl) (by kernel_rfl) (fun _ _ _ h => h) (Or.inl ⟨by rfl, ?_⟩) hHeld ?_
      rotate_left
      · (intro wz hSw; go_simp; try (with_reducible rfl))
      (try dsimp only [List.getElem_toArray, List.getElem_cons_zero, List.getElem_cons_succ]); (try simp only [Act.put, List.setIfInBounds_toArray, List.set_cons_zero, List.set_cons_succ])
      refine wpAnyH_ready (rs := [8]) (by kernel_rfl) (by simp) ?_
      refine AllReadyH.cons (o := _) rfl (fun K hK => ?_) AllReadyH.nil
      have k3 := HDd.out.cell 3
      have z3 := HDd.out.frozen 3
      have HDo := HDd
      simp only [List.getElem?_toArray, List.getElem?_cons_zero, List.getElem?_cons_succ] at k3
      go_simp
      refine hK.out _ _ (hHeld.far (p := ⟨w.heap.size, 3, none⟩) (by show w.heap.size + 1 ≠ w.heap.size; omega) _) (fun hH => ?_)
      clear hK K hHeld
      have hHeld := hH
      clear hH
      clear k3 z3
      replace HR := Lib.hid (HR.out.far (p := ⟨w.heap.size, 3, none⟩) (by show w.heap.size + 2 ≠ w.heap.size; omega) (.slice A_HA2 (n4 + 1) c_HA2))
      replace HDd : Hid (Blk _ w.heap.size 33 #[.slice a1 n1 c1, (.slice A6 n6 c6), .slice a3 n3 c3, (.slice A_HA2 (n4 + 1) c_HA2), .int .i64 cap, .int .i64 o2, .int .i64 r2, .bool d2]) := Lib.hid (by simpa using HDd.out.set_ 3 (.slice A_HA2 (n4 + 1) c_HA2))
      have HBo := Lib.hid ((HY.out.trans (HBw.out.mono HY.out.size)).setCell (p := ⟨w.heap.size, 3, none⟩) (Nat.le_refl _) (.slice A_HA2 (n4 + 1) c_HA2))
      have HQ := Lib.hid (dc_row (p := ⟨w.heap.size, 3, none⟩) (u := .slice A_HA2 (n4 + 1) c_HA2) HA2.out (by omega) (by show w.heap.size < Y.heap.size; omega))
      have HDi := Lib.hid (ent_off (dReads_on HDir.out HBw.out) HDo.out (by simp) (dtouch_set _ (p := ⟨w.heap.size, 3, none⟩) (.slice A_HA2 (n4 + 1) c_HA2)))
      (try dsimp only [List.getElem_toArray, List.getElem_cons_zero, List.getElem_cons_succ]); (try simp only [Act.put, List.setIfInBounds_toArray, List.set_cons_zero, List.set_cons_succ])
      refine wpAnyH_done (by kernel_rfl) ?_ _
      have HAN2 := Lib.hid (AN.mono (w3 := w_HA2.setCell ⟨w.heap.size, 3, none⟩ (.slice A_HA2 (n4 + 1) c_HA2)) (owns_new (w := w) HA2.out HY.out.size) (Nat.le_refl _) (by rw [World.size_setCell]; exact Nat.le_refl _))
      replace HN6 := Lib.hid (AN.mono (w3 := w_HA2.setCell ⟨w.heap.size, 3, none⟩ (.slice A_HA2 (n4 + 1) c_HA2)) HN6.out (Nat.le_refl _) (by rw [World.size_setCell]; exact HBw.out.size))
      clear hHeld HDo HA2 HBw
      go_wp2
      generalize w_HA2.setCell ⟨w.heap.size, 3, none⟩ (.slice A_HA2 (n4 + 1) c_HA2) = Z at *
      replace HN6 := Lib.hid (AN.mono (w3 := Z.drew) HN6.out (Nat.le_refl _) (Nat.le_refl _))
      replace HAN2 := Lib.hid (AN.mono (w3 := Z.drew) HAN2.out (Nat.le_refl _) (Nat.le_refl _))
      replace HR := Lib.hid HR.out.drew
      replace HBo := Lib.hid HBo.out.drew
      replace HQ := Lib.hid (And.intro (dReads_on HQ.out.1 (Below.refl _ _).drew) HQ.out.2)
      replace HDi := Lib.hid (dReads_on HDi.out (Below.refl _ _).drew)
      refine wp_region_held_drew (S := (fun W => Blk W w.heap.size 33 #[.slice a1 n1 c1, (.slice A6 n6 c6), .slice a3 n3 c3, (.slice A_HA2 (n4 + 1) c_HA2), .int .i64 cap, .int .i64 o2, .int .i64 r2, .bool d2])) (by kernel_rfl) (HDd.out.drew) (fun hHeld => ?_)
      refine wpAnyH_take (i := 0) (oi := _) (v := ?_) rfl (by kernel_rfl) (by kernel_rfl) (by kernel_rfl) (fun _ _ _ h => h) (Or.inl ⟨by rfl, ?_⟩) hHeld ?_
      rotate_left
      · (intro wz hSw; have k0 := hSw.cell 0; have k1 := hSw.cell 1; have k2 := hSw.cell 2; have k3 := hSw.cell 3; have k4 := hSw.cell 4; have k5 := hSw.cell 5; have k6 := hSw.cell 6; have k7 := hSw.cell 7; simp only [List.getElem?_toArray, List.getElem?_cons_zero, List.getElem?_cons_succ] at k0 k1 k2 k3 k4 k5 k6 k7; go_simp; try (with_reducible rfl))
      (try dsimp only [List.getElem_toArray, List.getElem_cons_zero, List.getElem_cons_succ]); (try simp only [Act.put, List.setIfInBounds_toArray, List.set_cons_zero, List.set_cons_succ])
      refine wpAnyH_take (i := 1) (oi := _) (v := ?_) rfl (by kernel_rfl) (by kernel_rfl) (by kernel_rfl) (fun _ _ _ h => h) (Or.inl ⟨by rfl, ?_⟩) hHeld ?_
      rotate_left
      · (intro wz hSw; go_simp; try (with_reducible rfl))
      (try dsimp only [List.getElem_toArray, List.getElem_cons_zero, List.getElem_cons_succ]); (try simp only [Act.put, List.setIfInBounds_toArray, List.set_cons_zero, List.set_cons_succ])
      refine wpAnyH_ready (rs := [2]) (by kernel_rfl) (by simp) ?_
      refine AllReadyH.cons (o := _) rfl (fun K hK => ?_) AllReadyH.nil
      go_simp
      go_at_call 61
      (with_reducible refine (Htold.out _).mono ?_)
      rintro e w9 ⟨rfl, hb1⟩
      replace HN6 := Lib.hid (HN6.out.mono (Nat.le_refl _) hb1.size)
      replace HAN2 := Lib.hid (HAN2.out.mono (Nat.le_refl _) hb1.size)
      replace HR := Lib.hid (HR.out.below hb1 HR.out.lt)
      replace HBo := Lib.hid (HBo.out.trans (hb1.mono HBo.out.size))
      replace HQ := Lib.hid (And.intro (dReads_on HQ.out.1 hb1) HQ.out.2)
      replace HDi := Lib.hid (dReads_on HDi.out hb1)
      refine hK.out _ _ (hHeld.below hb1 hHeld.lt) (fun hH => ?_)
      clear hHeld hK K hb1
      have hHeld := hH
      clear hH
      (try dsimp only [List.getElem_toArray, List.getElem_cons_zero, List.getElem_cons_succ]); (try simp only [Act.put, List.setIfInBounds_toArray, List.set_cons_zero, List.set_cons_succ])
      refine wpAnyH_ready (rs := [3]) (by kernel_rfl) (by simp) ?_
      refine AllReadyH.cons (o := _) rfl (fun K hK => ?_) AllReadyH.nil
      have k0 := HR.out.cell 0; have z0 := HR.out.frozen 0; have k1 := HR.out.cell 1; have z1 := HR.out.frozen 1; have k2 := HR.out.cell 2; have z2 := HR.out.frozen 2; have k3 := HR.out.cell 3; have z3 := HR.out.frozen 3; have k4 := HR.out.cell 4; have z4 := HR.out.frozen 4; have k5 := HR.out.cell 5; have z5 := HR.out.frozen 5; have k6 := HR.out.cell 6; have z6 := HR.out.frozen 6; have k7 := HR.out.cell 7; have z7 := HR.out.frozen 7
      simp only [List.getElem?_toArray, List.getElem?_cons_zero, List.getElem?_cons_succ] at k0 k1 k2 k3 k4 k5 k6 k7
      go_simp
      refine hK.out _ _ ((by first | exact (hHeld.touch (oset8 HR.out rfl).2 (by show ¬ w.heap.size = w.heap.size + 2; omega)))) (fun hH => ?_)
      clear hK K hHeld
      have hHeld := hH
      clear hH
      clear k0 z0 k1 z1 k2 z2 k3 z3 k4 z4 k5 z5 k6 z6 k7 z7
      (try dsimp only [List.getElem_toArray, List.getElem_cons_zero, List.getElem_cons_succ]); (try simp only [Act.put, List.setIfInBounds_toArray, List.set_cons_zero, List.set_cons_succ])
      refine wpAnyH_take (i := 4) (oi := _) (v := ?_) rfl (by kernel_rfl) (by kernel_rfl) (by kernel_rfl) (fun _ _ _ h => h) (Or.inl ⟨by rfl, ?_⟩) hHeld ?_
      rotate_left
      · (intro wz hSw; go_simp; try (with_reducible rfl))
      (try dsimp only [List.getElem_toArray, List.getElem_cons_zero, List.getElem_cons_succ]); (try simp only [Act.put, List.setIfInBounds_toArray, List.set_cons_zero, List.set_cons_succ])
      refine wpAnyH_done (by kernel_rfl) ?_ _
      clear hHeld
      go_wp2
      generalize hX9 : ((((((((w9.setCell ⟨w.heap.size + 1 + 1, 0, none⟩ (.slice a1 n1 c1)).setCell ⟨w.heap.size + 1 + 1, 1, none⟩ (.slice A6 n6 c6)).setCell ⟨w.heap.size + 1 + 1, 2, none⟩ (.slice a3 n3 c3)).setCell ⟨w.heap.size + 1 + 1, 3, none⟩ (.slice A_HA2 (n4 + 1) c_HA2)).setCell ⟨w.heap.size + 1 + 1, 4, none⟩ (.int .i64 cap)).setCell ⟨w.heap.size + 1 + 1, 5, none⟩ (.int .i64 o2)).setCell ⟨w.heap.size + 1 + 1, 6, none⟩ (.int .i64 r2)).setCell ⟨w.heap.size + 1 + 1, 7, none⟩ (.bool d2)) = X9
      obtain ⟨y1, y2⟩ := oset8 HR.out hX9
      have x0 := y1.cell 0; have x1 := y1.cell 1; have x2 := y1.cell 2; have x3 := y1.cell 3; have x4 := y1.cell 4; have x5 := y1.cell 5; have x6 := y1.cell 6; have x7 := y1.cell 7
      simp only [List.getElem?_toArray, List.getElem?_cons_zero, List.getElem?_cons_succ] at x0 x1 x2 x3 x4 x5 x6 x7
      have HB9 := HBo.out.trans (y2.below (fun k _ e => by omega) HBo.out.size)
      have hf : Reads X9 X9.heap.size 2 a1 fs.length (dcs ffc fs) := dReads_on Hmem.out.files HB9
      have hs : Reads X9 X9.heap.size 2 a3 sf.length (dcs efc sf) := dReads_on Hmem.out.safe HB9
      have hdr9 : Reads X9 X9.heap.size 2 A6 ND.length (dcs efc ND) := by rw [HL6.out]; exact ent_off HDi.out HR.out (by simp) y2
      have hcg9 : Reads X9 X9.heap.size 3 A_HA2 (cg ++ [(z, x, y)]).length (dcs cfc (cg ++ [(z, x, y)])) := by rw [List.length_append, HL4.out]; exact chg_off HQ.out.1 HR.out (by simp) y2
      refine bodyPost_ret (v := .tuple #[.agg #[.slice a1 n1 c1, (.slice A6 n6 c6), .slice a3 n3 c3, (.slice A_HA2 (n4 + 1) c_HA2), .int .i64 cap, .int .i64 o2, .int .i64 r2, .bool d2], .int .i64 tn]) (by simp [results, Tryz.results56, go_sem, x0, x1, x2, x3, x4, x5, x6, x7]) rfl ⟨⟨a1, A6, a3, A_HA2, c1, c6, c3, c_HA2⟩, rfl, ⟨hf, hdr9, hs, hcg9, Hmem.out.k1, by show ND.length ≤ c6; rw [HL6.out]; exact HC6.out, Hmem.out.k3, by show (cg ++ [(z, x, y)]).length ≤ c_HA2; rw [List.length_append, HL4.out]; exact HQ.out.2⟩, HB9, ⟨.one w _ _, (HN6.out.mono (Nat.le_refl _) y2.size).up (.two w _ _), .three w _ _, (HAN2.out.mono (Nat.le_refl _) y2.size).up (.inl rfl)⟩⟩
    refine AllReadyH.cons (o := _) rfl (fun K hK => ?_) AllReadyH.nil
    go_simp
    refine hK.out _ _ (hHeld.alloc _) (fun hH => ?_)
    clear hK K hHeld
    have hHeld := hH
    clear hH
    have HO := Lib.hid (dc_new _ z x y HBw.out.size)
    try (have HS := Lib.hid (d_sepB HA.out))
    try (have HS := Lib.hid (d_sepB HA1.out))
    try (replace HA := Lib.hid (HA.out.alloc (.cells #[.string ⟨z.toArray⟩, .string ⟨x.toArray⟩, .int .i64 y] 96)))
    try (replace HA1 := Lib.hid (HA1.out.alloc (.cells #[.string ⟨z.toArray⟩, .string ⟨x.toArray⟩, .int .i64 y] 96)))
    replace HBw := Lib.hid (HBw.out.alloc HBw.out.size (.cells #[.string ⟨z.toArray⟩, .string ⟨x.toArray⟩, .int .i64 y] 96)); replace HR := Lib.hid (HR.out.alloc (.cells #[.string ⟨z.toArray⟩, .string ⟨x.toArray⟩, .int .i64 y] 96)); replace HDd := Lib.hid (HDd.out.alloc (.cells #[.string ⟨z.toArray⟩, .string ⟨x.toArray⟩, .int .i64 y] 96))
    try rw [World.size_alloc] at HO
    try rw [World.size_alloc] at HS
    (try dsimp only [List.getElem_toArray, List.getElem_cons_zero, List.getElem_cons_succ]); (try simp only [Act.put, List.setIfInBounds_toArray, List.set_cons_zero, List.set_cons_succ])
    refine wpAnyH_ready (rs := [0]) (by kernel_rfl) (by simp) ?_
    refine AllReadyH.cons (o := _) rfl (fun K hK => ?_) AllReadyH.nil
    go_simp
    refine hK.out _ _ (hHeld.alloc _) (fun hH => ?_)
    clear hK K hHeld
    have hHeld := hH
    clear hH
    have HA := Lib.hid (d_nothing (t := 96) (m := 3) _ HBw.out.size)
    try (have HS := Lib.hid (dc_sepA HO.out (.cells #[] 96)))
    try (replace HO := Lib.hid (HO.out.alloc (.cells #[] 96)))
    replace HBw := Lib.hid (HBw.out.alloc HBw.out.size (.cells #[] 96)); replace HR := Lib.hid (HR.out.alloc (.cells #[] 96)); replace HDd := Lib.hid (HDd.out.alloc (.cells #[] 96))
    try rw [World.size_alloc] at HA
    try rw [World.size_alloc] at HS
    (try dsimp only [List.getElem_toArray, List.getElem_cons_zero, List.getElem_cons_succ]); (try simp only [Act.put, List.setIfInBounds_toArray, List.set_cons_zero, List.set_cons_succ])
    refine wpAnyH_ready (rs := [3]) (by kernel_rfl) (by simp) ?_
    refine AllReadyH.cons (o := _) rfl (fun K hK => ?_) AllReadyH.nil
    refine lstep_append (by rfl) (.tmp 17) (.tmp 19) 31 (by rfl) Y.heap.size 96 i0 (.agg #[.string ⟨#[]⟩, .string ⟨#[]⟩, .int .i64 0]) 3 40 Tryz.underlying31 hi hz0 hz1 hz9 rfl (by decide) _ 0 ([]) (by rfl) HA.out a4 n4 c4 _ (dcs cfc cg) (by rfl) (HCg.out _ HBw.out) (cfc_cell _) (by unfold maxLen; omega) (by omega) HBw.out.size (n4) (Nat.zero_add n4) ?_
    intro A_HA1 c_HA1 w_HA1 ho_ hg_ hs_
    refine hK.out _ _ (hHeld.grow' hg_ (d_old HA.out (by omega))) (fun hH => ?_)
    clear hK K hHeld
    have hHeld := hH
    clear hH
    try (have HS2 := Lib.hid (dc_sepC HO.out HS.out hs_))
    try (replace HO := Lib.hid (dc_keep HO.out HS.out hg_))
    try (replace HS := HS2)
    have HA1 : Hid (w_HA1.ownsRow Y.heap.size 96 3 (.slice A_HA1 (n4) c_HA1) (n4) (dcs cfc cg)) := Lib.hid (by first | exact ho_ | (simpa [dcs_app] using ho_))
    replace HR := Lib.hid (HR.out.grow' hg_ (d_old HA.out (by omega)))
    replace HDd := Lib.hid (HDd.out.grow' hg_ (d_old HA.out (by omega)))
    replace HBw := Lib.hid (d_grown HBw.out HA.out hg_)
    clear ho_ hg_ hs_
    (try dsimp only [List.getElem_toArray, List.getElem_cons_zero, List.getElem_cons_succ]); (try simp only [Act.put, List.setIfInBounds_toArray, List.set_cons_zero, List.set_cons_succ])
    refine wpAnyH_ready (rs := [6]) (by kernel_rfl) (by simp) ?_
    refine AllReadyH.cons (o := _) rfl (fun K hK => ?_) AllReadyH.nil
    refine lstep_append (by rfl) (.tmp 20) (.tmp 22) 31 (by rfl) Y.heap.size 96 i0 (.agg #[.string ⟨#[]⟩, .string ⟨#[]⟩, .int .i64 0]) 3 40 Tryz.underlying31 hi hz0 hz1 hz9 rfl (by decide) _ n4 (dcs cfc cg) (by rfl) HA1.out _ 1 1 _ (dcs cfc [((z, (x, y)) : Chg)]) (by rfl) (dc_reads HO.out) (cfc_cell _) (by unfold maxLen; omega) (by omega) HBw.out.size (n4 + 1) rfl ?_
    intro A_HA2 c_HA2 w_HA2 ho_ hg_ hs_
    refine hK.out _ _ (hHeld.grow' hg_ (d_old HA1.out (by omega))) (fun hH => ?_)
    clear hK K hHeld
    have hHeld := hH
    clear hH
    have HA2 : Hid (w_HA2.ownsRow Y.heap.size 96 3 (.slice A_HA2 (n4 + 1) c_HA2) (n4 + 1) (dcs cfc (cg ++ [((z, (x, y)) : Chg)]))) := Lib.hid (by first | exact ho_ | (simpa [dcs_app] using ho_))
    replace HR := Lib.hid (HR.out.grow' hg_ (d_old HA1.out (by omega)))
    replace HDd := Lib.hid (HDd.out.grow' hg_ (d_old HA1.out (by omega)))
    replace HBw := Lib.hid (d_grown HBw.out HA1.out hg_)
    clear ho_ hg_ hs_
    (try dsimp only [List.getElem_toArray, List.getElem_cons_zero, List.getElem_cons_succ]); (try simp only [Act.put, List.setIfInBounds_toArray, List.set_cons_zero, List.set_cons_succ])
    refine wpAnyH_take (i := 7) (oi := _) (v := ?_) rfl (by kernel_rfl) (by kernel_rfl) (by kernel_rfl) (fun _ _ _ h => h) (Or.inl ⟨by rfl, ?_⟩) hHeld ?_
    rotate_left
    · (intro wz hSw; go_simp; try (with_reducible rfl))
    (try dsimp only [List.getElem_toArray, List.getElem_cons_zero, List.getElem_cons_succ]); (try simp only [Act.put, List.setIfInBounds_toArray, List.set_cons_zero, List.set_cons_succ])
    refine wpAnyH_ready (rs := [8]) (by kernel_rfl) (by simp) ?_
    refine AllReadyH.cons (o := _) rfl (fun K hK => ?_) AllReadyH.nil
    have k3 := HDd.out.cell 3
    have z3 := HDd.out.frozen 3
    have HDo := HDd
    simp only [List.getElem?_toArray, List.getElem?_cons_zero, List.getElem?_cons_succ] at k3
    go_simp
    refine hK.out _ _ (hHeld.far (p := ⟨w.heap.size, 3, none⟩) (by show w.heap.size + 1 ≠ w.heap.size; omega) _) (fun hH => ?_)
    clear hK K hHeld
    have hHeld := hH
    clear hH
    clear k3 z3
    replace HR := Lib.hid (HR.out.far (p := ⟨w.heap.size, 3, none⟩) (by show w.heap.size + 2 ≠ w.heap.size; omega) (.slice A_HA2 (n4 + 1) c_HA2))
    replace HDd : Hid (Blk _ w.heap.size 33 #[.slice a1 n1 c1, (.slice A6 n6 c6), .slice a3 n3 c3, (.slice A_HA2 (n4 + 1) c_HA2), .int .i64 cap, .int .i64 o2, .int .i64 r2, .bool d2]) := Lib.hid (by simpa using HDd.out.set_ 3 (.slice A_HA2 (n4 + 1) c_HA2))
    have HBo := Lib.hid ((HY.out.trans (HBw.out.mono HY.out.size)).setCell (p := ⟨w.heap.size, 3, none⟩) (Nat.le_refl _) (.slice A_HA2 (n4 + 1) c_HA2))
    have HQ := Lib.hid (dc_row (p := ⟨w.heap.size, 3, none⟩) (u := .slice A_HA2 (n4 + 1) c_HA2) HA2.out (by omega) (by show w.heap.size < Y.heap.size; omega))
    have HDi := Lib.hid (ent_off (dReads_on HDir.out HBw.out) HDo.out (by simp) (dtouch_set _ (p := ⟨w.heap.size, 3, none⟩) (.slice A_HA2 (n4 + 1) c_HA2)))
    (try dsimp only [List.getElem_toArray, List.getElem_cons_zero, List.getElem_cons_succ]); (try simp only [Act.put, List.setIfInBounds_toArray, List.set_cons_zero, List.set_cons_succ])
    refine wpAnyH_done (by kernel_rfl) ?_ _
    have HAN2 := Lib.hid (AN.mono (w3 := w_HA2.setCell ⟨w.heap.size, 3, none⟩ (.slice A_HA2 (n4 + 1) c_HA2)) (owns_new (w := w) HA2.out HY.out.size) (Nat.le_refl _) (by rw [World.size_setCell]; exact Nat.le_refl _))
    replace HN6 := Lib.hid (AN.mono (w3 := w_HA2.setCell ⟨w.heap.size, 3, none⟩ (.slice A_HA2 (n4 + 1) c_HA2)) HN6.out (Nat.le_refl _) (by rw [World.size_setCell]; exact HBw.out.size))
    clear hHeld HDo HA2 HBw
    go_wp2
    generalize w_HA2.setCell ⟨w.heap.size, 3, none⟩ (.slice A_HA2 (n4 + 1) c_HA2) = Z at *
    replace HN6 := Lib.hid (AN.mono (w3 := Z.drew) HN6.out (Nat.le_refl _) (Nat.le_refl _))
    replace HAN2 := Lib.hid (AN.mono (w3 := Z.drew) HAN2.out (Nat.le_refl _) (Nat.le_refl _))
    replace HR := Lib.hid HR.out.drew
    replace HBo := Lib.hid HBo.out.drew
    replace HQ := Lib.hid (And.intro (dReads_on HQ.out.1 (Below.refl _ _).drew) HQ.out.2)
    replace HDi := Lib.hid (dReads_on HDi.out (Below.refl _ _).drew)
    refine wp_region_held_drew (S := (fun W => Blk W w.heap.size 33 #[.slice a1 n1 c1, (.slice A6 n6 c6), .slice a3 n3 c3, (.slice A_HA2 (n4 + 1) c_HA2), .int .i64 cap, .int .i64 o2, .int .i64 r2, .bool d2])) (by kernel_rfl) (HDd.out.drew) (fun hHeld => ?_)
    refine wpAnyH_take (i := 0) (oi := _) (v := ?_) rfl (by kernel_rfl) (by kernel_rfl) (by kernel_rfl) (fun _ _ _ h => h) (Or.inl ⟨by rfl, ?_⟩) hHeld ?_
    rotate_left
    · (intro wz hSw; have k0 := hSw.cell 0; have k1 := hSw.cell 1; have k2 := hSw.cell 2; have k3 := hSw.cell 3; have k4 := hSw.cell 4; have k5 := hSw.cell 5; have k6 := hSw.cell 6; have k7 := hSw.cell 7; simp only [List.getElem?_toArray, List.getElem?_cons_zero, List.getElem?_cons_succ] at k0 k1 k2 k3 k4 k5 k6 k7; go_simp; try (with_reducible rfl))
    (try dsimp only [List.getElem_toArray, List.getElem_cons_zero, List.getElem_cons_succ]); (try simp only [Act.put, List.setIfInBounds_toArray, List.set_cons_zero, List.set_cons_succ])
    refine wpAnyH_take (i := 1) (oi := _) (v := ?_) rfl (by kernel_rfl) (by kernel_rfl) (by kernel_rfl) (fun _ _ _ h => h) (Or.inl ⟨by rfl, ?_⟩) hHeld ?_
    rotate_left
    · (intro wz hSw; go_simp; try (with_reducible rfl))
    (try dsimp only [List.getElem_toArray, List.getElem_cons_zero, List.getElem_cons_succ]); (try simp only [Act.put, List.setIfInBounds_toArray, List.set_cons_zero, List.set_cons_succ])
    refine wpAnyH_ready (rs := [2]) (by kernel_rfl) (by simp) ?_
    refine AllReadyH.cons (o := _) rfl (fun K hK => ?_) AllReadyH.nil
    go_simp
    go_at_call 61
    (with_reducible refine (Htold.out _).mono ?_)
    rintro e w9 ⟨rfl, hb1⟩
    replace HN6 := Lib.hid (HN6.out.mono (Nat.le_refl _) hb1.size)
    replace HAN2 := Lib.hid (HAN2.out.mono (Nat.le_refl _) hb1.size)
    replace HR := Lib.hid (HR.out.below hb1 HR.out.lt)
    replace HBo := Lib.hid (HBo.out.trans (hb1.mono HBo.out.size))
    replace HQ := Lib.hid (And.intro (dReads_on HQ.out.1 hb1) HQ.out.2)
    replace HDi := Lib.hid (dReads_on HDi.out hb1)
    refine hK.out _ _ (hHeld.below hb1 hHeld.lt) (fun hH => ?_)
    clear hHeld hK K hb1
    have hHeld := hH
    clear hH
    (try dsimp only [List.getElem_toArray, List.getElem_cons_zero, List.getElem_cons_succ]); (try simp only [Act.put, List.setIfInBounds_toArray, List.set_cons_zero, List.set_cons_succ])
    refine wpAnyH_ready (rs := [3]) (by kernel_rfl) (by simp) ?_
    refine AllReadyH.cons (o := _) rfl (fun K hK => ?_) AllReadyH.nil
    have k0 := HR.out.cell 0; have z0 := HR.out.frozen 0; have k1 := HR.out.cell 1; have z1 := HR.out.frozen 1; have k2 := HR.out.cell 2; have z2 := HR.out.frozen 2; have k3 := HR.out.cell 3; have z3 := HR.out.frozen 3; have k4 := HR.out.cell 4; have z4 := HR.out.frozen 4; have k5 := HR.out.cell 5; have z5 := HR.out.frozen 5; have k6 := HR.out.cell 6; have z6 := HR.out.frozen 6; have k7 := HR.out.cell 7; have z7 := HR.out.frozen 7
    simp only [List.getElem?_toArray, List.getElem?_cons_zero, List.getElem?_cons_succ] at k0 k1 k2 k3 k4 k5 k6 k7
    go_simp
    refine hK.out _ _ ((by first | exact (hHeld.touch (oset8 HR.out rfl).2 (by show ¬ w.heap.size = w.heap.size + 2; omega)))) (fun hH => ?_)
    clear hK K hHeld
    have hHeld := hH
    clear hH
    clear k0 z0 k1 z1 k2 z2 k3 z3 k4 z4 k5 z5 k6 z6 k7 z7
    (try dsimp only [List.getElem_toArray, List.getElem_cons_zero, List.getElem_cons_succ]); (try simp only [Act.put, List.setIfInBounds_toArray, List.set_cons_zero, List.set_cons_succ])
    refine wpAnyH_take (i := 4) (oi := _) (v := ?_) rfl (by kernel_rfl) (by kernel_rfl) (by kernel_rfl) (fun _ _ _ h => h) (Or.inl ⟨by rfl, ?_⟩) hHeld ?_
    rotate_left
    · (intro wz hSw; go_simp; try (with_reducible rfl))
    (try dsimp only [List.getElem_toArray, List.getElem_cons_zero, List.getElem_cons_succ]); (try simp only [Act.put, List.setIfInBounds_toArray, List.set_cons_zero, List.set_cons_succ])
    refine wpAnyH_done (by kernel_rfl) ?_ _
    clear hHeld
    go_wp2
    generalize hX9 : ((((((((w9.setCell ⟨w.heap.size + 1 + 1, 0, none⟩ (.slice a1 n1 c1)).setCell ⟨w.heap.size + 1 + 1, 1, none⟩ (.slice A6 n6 c6)).setCell ⟨w.heap.size + 1 + 1, 2, none⟩ (.slice a3 n3 c3)).setCell ⟨w.heap.size + 1 + 1, 3, none⟩ (.slice A_HA2 (n4 + 1) c_HA2)).setCell ⟨w.heap.size + 1 + 1, 4, none⟩ (.int .i64 cap)).setCell ⟨w.heap.size + 1 + 1, 5, none⟩ (.int .i64 o2)).setCell ⟨w.heap.size + 1 + 1, 6, none⟩ (.int .i64 r2)).setCell ⟨w.heap.size + 1 + 1, 7, none⟩ (.bool d2)) = X9
    obtain ⟨y1, y2⟩ := oset8 HR.out hX9
    have x0 := y1.cell 0; have x1 := y1.cell 1; have x2 := y1.cell 2; have x3 := y1.cell 3; have x4 := y1.cell 4; have x5 := y1.cell 5; have x6 := y1.cell 6; have x7 := y1.cell 7
    simp only [List.getElem?_toArray, List.getElem?_cons_zero, List.getElem?_cons_succ] at x0 x1 x2 x3 x4 x5 x6 x7
    have HB9 := HBo.out.trans (y2.below (fun k _ e => by omega) HBo.out.size)
    have hf : Reads X9 X9.heap.size 2 a1 fs.length (dcs ffc fs) := dReads_on Hmem.out.files HB9
    have hs : Reads X9 X9.heap.size 2 a3 sf.length (dcs efc sf) := dReads_on Hmem.out.safe HB9
    have hdr9 : Reads X9 X9.heap.size 2 A6 ND.length (dcs efc ND) := by rw [HL6.out]; exact ent_off HDi.out HR.out (by simp) y2
    have hcg9 : Reads X9 X9.heap.size 3 A_HA2 (cg ++ [(z, x, y)]).length (dcs cfc (cg ++ [(z, x, y)])) := by rw [List.length_append, HL4.out]; exact chg_off HQ.out.1 HR.out (by simp) y2
    refine bodyPost_ret (v := .tuple #[.agg #[.slice a1 n1 c1, (.slice A6 n6 c6), .slice a3 n3 c3, (.slice A_HA2 (n4 + 1) c_HA2), .int .i64 cap, .int .i64 o2, .int .i64 r2, .bool d2], .int .i64 tn]) (by simp [results, Tryz.results56, go_sem, x0, x1, x2, x3, x4, x5, x6, x7]) rfl ⟨⟨a1, A6, a3, A_HA2, c1, c6, c3, c_HA2⟩, rfl, ⟨hf, hdr9, hs, hcg9, Hmem.out.k1, by show ND.length ≤ c6; rw [HL6.out]; exact HC6.out, Hmem.out.k3, by show (cg ++ [(z, x, y)]).length ≤ c_HA2; rw [List.length_append, HL4.out]; exact HQ.out.2⟩, HB9, ⟨.one w _ _, (HN6.out.mono (Nat.le_refl _) y2.size).up (.two w _ _), .three w _ _, (HAN2.out.mono (Nat.le_refl _) y2.size).up (.inl rfl)⟩⟩
  refine AllReadyH.cons (o := _) rfl (fun K hK => ?_) AllReadyH.nil
  go_simp
  refine hK.out _ _ (hHeld.alloc _) (fun hH => ?_)
  clear hK K hHeld
  have hHeld := hH
  clear hH
  have HO := Lib.hid (dc_new _ z x y HBw.out.size)
  try (have HS := Lib.hid (d_sepB HA.out))
  try (have HS := Lib.hid (d_sepB HA1.out))
  try (replace HA := Lib.hid (HA.out.alloc (.cells #[.string ⟨z.toArray⟩, .string ⟨x.toArray⟩, .int .i64 y] 96)))
  try (replace HA1 := Lib.hid (HA1.out.alloc (.cells #[.string ⟨z.toArray⟩, .string ⟨x.toArray⟩, .int .i64 y] 96)))
  replace HBw := Lib.hid (HBw.out.alloc HBw.out.size (.cells #[.string ⟨z.toArray⟩, .string ⟨x.toArray⟩, .int .i64 y] 96)); replace HR := Lib.hid (HR.out.alloc (.cells #[.string ⟨z.toArray⟩, .string ⟨x.toArray⟩, .int .i64 y] 96)); replace HDd := Lib.hid (HDd.out.alloc (.cells #[.string ⟨z.toArray⟩, .string ⟨x.toArray⟩, .int .i64 y] 96))
  try rw [World.size_alloc] at HO
  try rw [World.size_alloc] at HS
  (try dsimp only [List.getElem_toArray, List.getElem_cons_zero, List.getElem_cons_succ]); (try simp only [Act.put, List.setIfInBounds_toArray, List.set_cons_zero, List.set_cons_succ])
  refine wpAnyH_ready (rs := [0, 2]) (by kernel_rfl) (by simp) ?_
  refine AllReadyH.cons (o := _) rfl (fun K hK => ?_) ?_
  · skip
    go_simp
    refine hK.out _ _ (hHeld.alloc _) (fun hH => ?_)
    clear hK K hHeld
    have hHeld := hH
    clear hH
    have HA := Lib.hid (d_nothing (t := 96) (m := 3) _ HBw.out.size)
    try (have HS := Lib.hid (dc_sepA HO.out (.cells #[] 96)))
    try (replace HO := Lib.hid (HO.out.alloc (.cells #[] 96)))
    replace HBw := Lib.hid (HBw.out.alloc HBw.out.size (.cells #[] 96)); replace HR := Lib.hid (HR.out.alloc (.cells #[] 96)); replace HDd := Lib.hid (HDd.out.alloc (.cells #[] 96))
    try rw [World.size_alloc] at HA
    try rw [World.size_alloc] at HS
    (try dsimp only [List.getElem_toArray, List.getElem_cons_zero, List.getElem_cons_succ]); (try simp only [Act.put, List.setIfInBounds_toArray, List.set_cons_zero, List.set_cons_succ])
    refine wpAnyH_ready (rs := [2]) (by kernel_rfl) (by simp) ?_
    refine AllReadyH.cons (o := _) rfl (fun K hK => ?_) AllReadyH.nil
    have k3 := HDd.out.cell 3
    have k4 := HDY.out.cell 3
    simp only [List.getElem?_toArray, List.getElem?_cons_zero, List.getElem?_cons_succ] at k3 k4
    go_simp
    try simp only [World.cell?_alloc_some, k4, Option.isSome_some]
    try go_simp
    refine hK.out _ _ (hHeld) (fun hH => ?_)
    clear hK K hHeld
    have hHeld := hH
    clear hH
    clear k3 k4
    (try dsimp only [List.getElem_toArray, List.getElem_cons_zero, List.getElem_cons_succ]); (try simp only [Act.put, List.setIfInBounds_toArray, List.set_cons_zero, List.set_cons_succ])
    refine wpAnyH_ready (rs := [3]) (by kernel_rfl) (by simp) ?_
    refine AllReadyH.cons (o := _) rfl (fun K hK => ?_) AllReadyH.nil
    refine lstep_append (by rfl) (.tmp 17) (.tmp 19) 31 (by rfl) Y.heap.size 96 i0 (.agg #[.string ⟨#[]⟩, .string ⟨#[]⟩, .int .i64 0]) 3 40 Tryz.underlying31 hi hz0 hz1 hz9 rfl (by decide) _ 0 ([]) (by rfl) HA.out a4 n4 c4 _ (dcs cfc cg) (by rfl) (HCg.out _ HBw.out) (cfc_cell _) (by unfold maxLen; omega) (by omega) HBw.out.size (n4) (Nat.zero_add n4) ?_
    intro A_HA1 c_HA1 w_HA1 ho_ hg_ hs_
    refine hK.out _ _ (hHeld.grow' hg_ (d_old HA.out (by omega))) (fun hH => ?_)
    clear hK K hHeld
    have hHeld := hH
    clear hH
    try (have HS2 := Lib.hid (dc_sepC HO.out HS.out hs_))
    try (replace HO := Lib.hid (dc_keep HO.out HS.out hg_))
    try (replace HS := HS2)
    have HA1 : Hid (w_HA1.ownsRow Y.heap.size 96 3 (.slice A_HA1 (n4) c_HA1) (n4) (dcs cfc cg)) := Lib.hid (by first | exact ho_ | (simpa [dcs_app] using ho_))
    replace HR := Lib.hid (HR.out.grow' hg_ (d_old HA.out (by omega)))
    replace HDd := Lib.hid (HDd.out.grow' hg_ (d_old HA.out (by omega)))
    replace HBw := Lib.hid (d_grown HBw.out HA.out hg_)
    clear ho_ hg_ hs_
    (try dsimp only [List.getElem_toArray, List.getElem_cons_zero, List.getElem_cons_succ]); (try simp only [Act.put, List.setIfInBounds_toArray, List.set_cons_zero, List.set_cons_succ])
    refine wpAnyH_ready (rs := [6]) (by kernel_rfl) (by simp) ?_
    refine AllReadyH.cons (o := _) rfl (fun K hK => ?_) AllReadyH.nil
    refine lstep_append (by rfl) (.tmp 20) (.tmp 22) 31 (by rfl) Y.heap.size 96 i0 (.agg #[.string ⟨#[]⟩, .string ⟨#[]⟩, .int .i64 0]) 3 40 Tryz.underlying31 hi hz0 hz1 hz9 rfl (by decide) _ n4 (dcs cfc cg) (by rfl) HA1.out _ 1 1 _ (dcs cfc [((z, (x, y)) : Chg)]) (by rfl) (dc_reads HO.out) (cfc_cell _) (by unfold maxLen; omega) (by omega) HBw.out.size (n4 + 1) rfl ?_
    intro A_HA2 c_HA2 w_HA2 ho_ hg_ hs_
    refine hK.out _ _ (hHeld.grow' hg_ (d_old HA1.out (by omega))) (fun hH => ?_)
    clear hK K hHeld
    have hHeld := hH
    clear hH
    have HA2 : Hid (w_HA2.ownsRow Y.heap.size 96 3 (.slice A_HA2 (n4 + 1) c_HA2) (n4 + 1) (dcs cfc (cg ++ [((z, (x, y)) : Chg)]))) := Lib.hid (by first | exact ho_ | (simpa [dcs_app] using ho_))
    replace HR := Lib.hid (HR.out.grow' hg_ (d_old HA1.out (by omega)))
    replace HDd := Lib.hid (HDd.out.grow' hg_ (d_old HA1.out (by omega)))
    replace HBw := Lib.hid (d_grown HBw.out HA1.out hg_)
    clear ho_ hg_ hs_
    (try dsimp only [List.getElem_toArray, List.getElem_cons_zero, List.getElem_cons_succ]); (try simp only [Act.put, List.setIfInBounds_toArray, List.set_cons_zero, List.set_cons_succ])
    refine wpAnyH_take (i := 7) (oi := _) (v := ?_) rfl (by kernel_rfl) (by kernel_rfl) (by kernel_rfl) (fun _ _ _ h => h) (Or.inl ⟨by rfl, ?_⟩) hHeld ?_
    rotate_left
    · (intro wz hSw; go_simp; try (with_reducible rfl))
    (try dsimp only [List.getElem_toArray, List.getElem_cons_zero, List.getElem_cons_succ]); (try simp only [Act.put, List.setIfInBounds_toArray, List.set_cons_zero, List.set_cons_succ])
    refine wpAnyH_ready (rs := [8]) (by kernel_rfl) (by simp) ?_
    refine AllReadyH.cons (o := _) rfl (fun K hK => ?_) AllReadyH.nil
    have k3 := HDd.out.cell 3
    have z3 := HDd.out.frozen 3
    have HDo := HDd
    simp only [List.getElem?_toArray, List.getElem?_cons_zero, List.getElem?_cons_succ] at k3
    go_simp
    refine hK.out _ _ (hHeld.far (p := ⟨w.heap.size, 3, none⟩) (by show w.heap.size + 1 ≠ w.heap.size; omega) _) (fun hH => ?_)
    clear hK K hHeld
    have hHeld := hH
    clear hH
    clear k3 z3
    replace HR := Lib.hid (HR.out.far (p := ⟨w.heap.size, 3, none⟩) (by show w.heap.size + 2 ≠ w.heap.size; omega) (.slice A_HA2 (n4 + 1) c_HA2))
    replace HDd : Hid (Blk _ w.heap.size 33 #[.slice a1 n1 c1, (.slice A6 n6 c6), .slice a3 n3 c3, (.slice A_HA2 (n4 + 1) c_HA2), .int .i64 cap, .int .i64 o2, .int .i64 r2, .bool d2]) := Lib.hid (by simpa using HDd.out.set_ 3 (.slice A_HA2 (n4 + 1) c_HA2))
    have HBo := Lib.hid ((HY.out.trans (HBw.out.mono HY.out.size)).setCell (p := ⟨w.heap.size, 3, none⟩) (Nat.le_refl _) (.slice A_HA2 (n4 + 1) c_HA2))
    have HQ := Lib.hid (dc_row (p := ⟨w.heap.size, 3, none⟩) (u := .slice A_HA2 (n4 + 1) c_HA2) HA2.out (by omega) (by show w.heap.size < Y.heap.size; omega))
    have HDi := Lib.hid (ent_off (dReads_on HDir.out HBw.out) HDo.out (by simp) (dtouch_set _ (p := ⟨w.heap.size, 3, none⟩) (.slice A_HA2 (n4 + 1) c_HA2)))
    (try dsimp only [List.getElem_toArray, List.getElem_cons_zero, List.getElem_cons_succ]); (try simp only [Act.put, List.setIfInBounds_toArray, List.set_cons_zero, List.set_cons_succ])
    refine wpAnyH_done (by kernel_rfl) ?_ _
    have HAN2 := Lib.hid (AN.mono (w3 := w_HA2.setCell ⟨w.heap.size, 3, none⟩ (.slice A_HA2 (n4 + 1) c_HA2)) (owns_new (w := w) HA2.out HY.out.size) (Nat.le_refl _) (by rw [World.size_setCell]; exact Nat.le_refl _))
    replace HN6 := Lib.hid (AN.mono (w3 := w_HA2.setCell ⟨w.heap.size, 3, none⟩ (.slice A_HA2 (n4 + 1) c_HA2)) HN6.out (Nat.le_refl _) (by rw [World.size_setCell]; exact HBw.out.size))
    clear hHeld HDo HA2 HBw
    go_wp2
    generalize w_HA2.setCell ⟨w.heap.size, 3, none⟩ (.slice A_HA2 (n4 + 1) c_HA2) = Z at *
    replace HN6 := Lib.hid (AN.mono (w3 := Z.drew) HN6.out (Nat.le_refl _) (Nat.le_refl _))
    replace HAN2 := Lib.hid (AN.mono (w3 := Z.drew) HAN2.out (Nat.le_refl _) (Nat.le_refl _))
    replace HR := Lib.hid HR.out.drew
    replace HBo := Lib.hid HBo.out.drew
    replace HQ := Lib.hid (And.intro (dReads_on HQ.out.1 (Below.refl _ _).drew) HQ.out.2)
    replace HDi := Lib.hid (dReads_on HDi.out (Below.refl _ _).drew)
    refine wp_region_held_drew (S := (fun W => Blk W w.heap.size 33 #[.slice a1 n1 c1, (.slice A6 n6 c6), .slice a3 n3 c3, (.slice A_HA2 (n4 + 1) c_HA2), .int .i64 cap, .int .i64 o2, .int .i64 r2, .bool d2])) (by kernel_rfl) (HDd.out.drew) (fun hHeld => ?_)
    refine wpAnyH_take (i := 0) (oi := _) (v := ?_) rfl (by kernel_rfl) (by kernel_rfl) (by kernel_rfl) (fun _ _ _ h => h) (Or.inl ⟨by rfl, ?_⟩) hHeld ?_
    rotate_left
    · (intro wz hSw; have k0 := hSw.cell 0; have k1 := hSw.cell 1; have k2 := hSw.cell 2; have k3 := hSw.cell 3; have k4 := hSw.cell 4; have k5 := hSw.cell 5; have k6 := hSw.cell 6; have k7 := hSw.cell 7; simp only [List.getElem?_toArray, List.getElem?_cons_zero, List.getElem?_cons_succ] at k0 k1 k2 k3 k4 k5 k6 k7; go_simp; try (with_reducible rfl))
    (try dsimp only [List.getElem_toArray, List.getElem_cons_zero, List.getElem_cons_succ]); (try simp only [Act.put, List.setIfInBounds_toArray, List.set_cons_zero, List.set_cons_succ])
    refine wpAnyH_take (i := 1) (oi := _) (v := ?_) rfl (by kernel_rfl) (by kernel_rfl) (by kernel_rfl) (fun _ _ _ h => h) (Or.inl ⟨by rfl, ?_⟩) hHeld ?_
    rotate_left
    · (intro wz hSw; go_simp; try (with_reducible rfl))
    (try dsimp only [List.getElem_toArray, List.getElem_cons_zero, List.getElem_cons_succ]); (try simp only [Act.put, List.setIfInBounds_toArray, List.set_cons_zero, List.set_cons_succ])
    refine wpAnyH_ready (rs := [2]) (by kernel_rfl) (by simp) ?_
    refine AllReadyH.cons (o := _) rfl (fun K hK => ?_) AllReadyH.nil
    go_simp
    go_at_call 61
    (with_reducible refine (Htold.out _).mono ?_)
    rintro e w9 ⟨rfl, hb1⟩
    replace HN6 := Lib.hid (HN6.out.mono (Nat.le_refl _) hb1.size)
    replace HAN2 := Lib.hid (HAN2.out.mono (Nat.le_refl _) hb1.size)
    replace HR := Lib.hid (HR.out.below hb1 HR.out.lt)
    replace HBo := Lib.hid (HBo.out.trans (hb1.mono HBo.out.size))
    replace HQ := Lib.hid (And.intro (dReads_on HQ.out.1 hb1) HQ.out.2)
    replace HDi := Lib.hid (dReads_on HDi.out hb1)
    refine hK.out _ _ (hHeld.below hb1 hHeld.lt) (fun hH => ?_)
    clear hHeld hK K hb1
    have hHeld := hH
    clear hH
    (try dsimp only [List.getElem_toArray, List.getElem_cons_zero, List.getElem_cons_succ]); (try simp only [Act.put, List.setIfInBounds_toArray, List.set_cons_zero, List.set_cons_succ])
    refine wpAnyH_ready (rs := [3]) (by kernel_rfl) (by simp) ?_
    refine AllReadyH.cons (o := _) rfl (fun K hK => ?_) AllReadyH.nil
    have k0 := HR.out.cell 0; have z0 := HR.out.frozen 0; have k1 := HR.out.cell 1; have z1 := HR.out.frozen 1; have k2 := HR.out.cell 2; have z2 := HR.out.frozen 2; have k3 := HR.out.cell 3; have z3 := HR.out.frozen 3; have k4 := HR.out.cell 4; have z4 := HR.out.frozen 4; have k5 := HR.out.cell 5; have z5 := HR.out.frozen 5; have k6 := HR.out.cell 6; have z6 := HR.out.frozen 6; have k7 := HR.out.cell 7; have z7 := HR.out.frozen 7
    simp only [List.getElem?_toArray, List.getElem?_cons_zero, List.getElem?_cons_succ] at k0 k1 k2 k3 k4 k5 k6 k7
    go_simp
    refine hK.out _ _ ((by first | exact (hHeld.touch (oset8 HR.out rfl).2 (by show ¬ w.heap.size = w.heap.size + 2; omega)))) (fun hH => ?_)
    clear hK K hHeld
    have hHeld := hH
    clear hH
    clear k0 z0 k1 z1 k2 z2 k3 z3 k4 z4 k5 z5 k6 z6 k7 z7
    (try dsimp only [List.getElem_toArray, List.getElem_cons_zero, List.getElem_cons_succ]); (try simp only [Act.put, List.setIfInBounds_toArray, List.set_cons_zero, List.set_cons_succ])
    refine wpAnyH_take (i := 4) (oi := _) (v := ?_) rfl (by kernel_rfl) (by kernel_rfl) (by kernel_rfl) (fun _ _ _ h => h) (Or.inl ⟨by rfl, ?_⟩) hHeld ?_
    rotate_left
    · (intro wz hSw; go_simp; try (with_reducible rfl))
    (try dsimp only [List.getElem_toArray, List.getElem_cons_zero, List.getElem_cons_succ]); (try simp only [Act.put, List.setIfInBounds_toArray, List.set_cons_zero, List.set_cons_succ])
    refine wpAnyH_done (by kernel_rfl) ?_ _
    clear hHeld
    go_wp2
    generalize hX9 : ((((((((w9.setCell ⟨w.heap.size + 1 + 1, 0, none⟩ (.slice a1 n1 c1)).setCell ⟨w.heap.size + 1 + 1, 1, none⟩ (.slice A6 n6 c6)).setCell ⟨w.heap.size + 1 + 1, 2, none⟩ (.slice a3 n3 c3)).setCell ⟨w.heap.size + 1 + 1, 3, none⟩ (.slice A_HA2 (n4 + 1) c_HA2)).setCell ⟨w.heap.size + 1 + 1, 4, none⟩ (.int .i64 cap)).setCell ⟨w.heap.size + 1 + 1, 5, none⟩ (.int .i64 o2)).setCell ⟨w.heap.size + 1 + 1, 6, none⟩ (.int .i64 r2)).setCell ⟨w.heap.size + 1 + 1, 7, none⟩ (.bool d2)) = X9
    obtain ⟨y1, y2⟩ := oset8 HR.out hX9
    have x0 := y1.cell 0; have x1 := y1.cell 1; have x2 := y1.cell 2; have x3 := y1.cell 3; have x4 := y1.cell 4; have x5 := y1.cell 5; have x6 := y1.cell 6; have x7 := y1.cell 7
    simp only [List.getElem?_toArray, List.getElem?_cons_zero, List.getElem?_cons_succ] at x0 x1 x2 x3 x4 x5 x6 x7
    have HB9 := HBo.out.trans (y2.below (fun k _ e => by omega) HBo.out.size)
    have hf : Reads X9 X9.heap.size 2 a1 fs.length (dcs ffc fs) := dReads_on Hmem.out.files HB9
    have hs : Reads X9 X9.heap.size 2 a3 sf.length (dcs efc sf) := dReads_on Hmem.out.safe HB9
    have hdr9 : Reads X9 X9.heap.size 2 A6 ND.length (dcs efc ND) := by rw [HL6.out]; exact ent_off HDi.out HR.out (by simp) y2
    have hcg9 : Reads X9 X9.heap.size 3 A_HA2 (cg ++ [(z, x, y)]).length (dcs cfc (cg ++ [(z, x, y)])) := by rw [List.length_append, HL4.out]; exact chg_off HQ.out.1 HR.out (by simp) y2
    refine bodyPost_ret (v := .tuple #[.agg #[.slice a1 n1 c1, (.slice A6 n6 c6), .slice a3 n3 c3, (.slice A_HA2 (n4 + 1) c_HA2), .int .i64 cap, .int .i64 o2, .int .i64 r2, .bool d2], .int .i64 tn]) (by simp [results, Tryz.results56, go_sem, x0, x1, x2, x3, x4, x5, x6, x7]) rfl ⟨⟨a1, A6, a3, A_HA2, c1, c6, c3, c_HA2⟩, rfl, ⟨hf, hdr9, hs, hcg9, Hmem.out.k1, by show ND.length ≤ c6; rw [HL6.out]; exact HC6.out, Hmem.out.k3, by show (cg ++ [(z, x, y)]).length ≤ c_HA2; rw [List.length_append, HL4.out]; exact HQ.out.2⟩, HB9, ⟨.one w _ _, (HN6.out.mono (Nat.le_refl _) y2.size).up (.two w _ _), .three w _ _, (HAN2.out.mono (Nat.le_refl _) y2.size).up (.inl rfl)⟩⟩
  refine AllReadyH.cons (o := _) rfl (fun K hK => ?_) AllReadyH.nil
  have k3 := HDd.out.cell 3
  have k4 := HDY.out.cell 3
  simp only [List.getElem?_toArray, List.getElem?_cons_zero, List.getElem?_cons_succ] at k3 k4
  go_simp
  try simp only [World.cell?_alloc_some, k4, Option.isSome_some]
  try go_simp
  refine hK.out _ _ (hHeld) (fun hH => ?_)
  clear hK K hHeld
  have hHeld := hH
  clear hH
  clear k3 k4
  (try dsimp only [List.getElem_toArray, List.getElem_cons_zero, List.getElem_cons_succ]); (try simp only [Act.put, List.setIfInBounds_toArray, List.set_cons_zero, List.set_cons_succ])
  refine wpAnyH_ready (rs := [0]) (by kernel_rfl) (by simp) ?_
  refine AllReadyH.cons (o := _) rfl (fun K hK => ?_) AllReadyH.nil
  go_simp
  refine hK.out _ _ (hHeld.alloc _) (fun hH => ?_)
  clear hK K hHeld
  have hHeld := hH
  clear hH
  have HA := Lib.hid (d_nothing (t := 96) (m := 3) _ HBw.out.size)
  try (have HS := Lib.hid (dc_sepA HO.out (.cells #[] 96)))
  try (replace HO := Lib.hid (HO.out.alloc (.cells #[] 96)))
  replace HBw := Lib.hid (HBw.out.alloc HBw.out.size (.cells #[] 96)); replace HR := Lib.hid (HR.out.alloc (.cells #[] 96)); replace HDd := Lib.hid (HDd.out.alloc (.cells #[] 96))
  try rw [World.size_alloc] at HA
  try rw [World.size_alloc] at HS
  (try dsimp only [List.getElem_toArray, List.getElem_cons_zero, List.getElem_cons_succ]); (try simp only [Act.put, List.setIfInBounds_toArray, List.set_cons_zero, List.set_cons_succ])
  refine wpAnyH_ready (rs := [3]) (by kernel_rfl) (by simp) ?_
  refine AllReadyH.cons (o := _) rfl (fun K hK => ?_) AllReadyH.nil
  refine lstep_append (by rfl) (.tmp 17) (.tmp 19) 31 (by rfl) Y.heap.size 96 i0 (.agg #[.string ⟨#[]⟩, .string ⟨#[]⟩, .int .i64 0]) 3 40 Tryz.underlying31 hi hz0 hz1 hz9 rfl (by decide) _ 0 ([]) (by rfl) HA.out a4 n4 c4 _ (dcs cfc cg) (by rfl) (HCg.out _ HBw.out) (cfc_cell _) (by unfold maxLen; omega) (by omega) HBw.out.size (n4) (Nat.zero_add n4) ?_
  intro A_HA1 c_HA1 w_HA1 ho_ hg_ hs_
  refine hK.out _ _ (hHeld.grow' hg_ (d_old HA.out (by omega))) (fun hH => ?_)
  clear hK K hHeld
  have hHeld := hH
  clear hH
  try (have HS2 := Lib.hid (dc_sepC HO.out HS.out hs_))
  try (replace HO := Lib.hid (dc_keep HO.out HS.out hg_))
  try (replace HS := HS2)
  have HA1 : Hid (w_HA1.ownsRow Y.heap.size 96 3 (.slice A_HA1 (n4) c_HA1) (n4) (dcs cfc cg)) := Lib.hid (by first | exact ho_ | (simpa [dcs_app] using ho_))
  replace HR := Lib.hid (HR.out.grow' hg_ (d_old HA.out (by omega)))
  replace HDd := Lib.hid (HDd.out.grow' hg_ (d_old HA.out (by omega)))
  replace HBw := Lib.hid (d_grown HBw.out HA.out hg_)
  clear ho_ hg_ hs_
  (try dsimp only [List.getElem_toArray, List.getElem_cons_zero, List.getElem_cons_succ]); (try simp only [Act.put, List.setIfInBounds_toArray, List.set_cons_zero, List.set_cons_succ])
  refine wpAnyH_ready (rs := [6]) (by kernel_rfl) (by simp) ?_
  refine AllReadyH.cons (o := _) rfl (fun K hK => ?_) AllReadyH.nil
  refine lstep_append (by rfl) (.tmp 20) (.tmp 22) 31 (by rfl) Y.heap.size 96 i0 (.agg #[.string ⟨#[]⟩, .string ⟨#[]⟩, .int .i64 0]) 3 40 Tryz.underlying31 hi hz0 hz1 hz9 rfl (by decide) _ n4 (dcs cfc cg) (by rfl) HA1.out _ 1 1 _ (dcs cfc [((z, (x, y)) : Chg)]) (by rfl) (dc_reads HO.out) (cfc_cell _) (by unfold maxLen; omega) (by omega) HBw.out.size (n4 + 1) rfl ?_
  intro A_HA2 c_HA2 w_HA2 ho_ hg_ hs_
  refine hK.out _ _ (hHeld.grow' hg_ (d_old HA1.out (by omega))) (fun hH => ?_)
  clear hK K hHeld
  have hHeld := hH
  clear hH
  have HA2 : Hid (w_HA2.ownsRow Y.heap.size 96 3 (.slice A_HA2 (n4 + 1) c_HA2) (n4 + 1) (dcs cfc (cg ++ [((z, (x, y)) : Chg)]))) := Lib.hid (by first | exact ho_ | (simpa [dcs_app] using ho_))
  replace HR := Lib.hid (HR.out.grow' hg_ (d_old HA1.out (by omega)))
  replace HDd := Lib.hid (HDd.out.grow' hg_ (d_old HA1.out (by omega)))
  replace HBw := Lib.hid (d_grown HBw.out HA1.out hg_)
  clear ho_ hg_ hs_
  (try dsimp only [List.getElem_toArray, List.getElem_cons_zero, List.getElem_cons_succ]); (try simp only [Act.put, List.setIfInBounds_toArray, List.set_cons_zero, List.set_cons_succ])
  refine wpAnyH_take (i := 7) (oi := _) (v := ?_) rfl (by kernel_rfl) (by kernel_rfl) (by kernel_rfl) (fun _ _ _ h => h) (Or.inl ⟨by rfl, ?_⟩) hHeld ?_
  rotate_left
  · (intro wz hSw; go_simp; try (with_reducible rfl))
  (try dsimp only [List.getElem_toArray, List.getElem_cons_zero, List.getElem_cons_succ]); (try simp only [Act.put, List.setIfInBounds_toArray, List.set_cons_zero, List.set_cons_succ])
  refine wpAnyH_ready (rs := [8]) (by kernel_rfl) (by simp) ?_
  refine AllReadyH.cons (o := _) rfl (fun K hK => ?_) AllReadyH.nil
  have k3 := HDd.out.cell 3
  have z3 := HDd.out.frozen 3
  have HDo := HDd
  simp only [List.getElem?_toArray, List.getElem?_cons_zero, List.getElem?_cons_succ] at k3
  go_simp
  refine hK.out _ _ (hHeld.far (p := ⟨w.heap.size, 3, none⟩) (by show w.heap.size + 1 ≠ w.heap.size; omega) _) (fun hH => ?_)
  clear hK K hHeld
  have hHeld := hH
  clear hH
  clear k3 z3
  replace HR := Lib.hid (HR.out.far (p := ⟨w.heap.size, 3, none⟩) (by show w.heap.size + 2 ≠ w.heap.size; omega) (.slice A_HA2 (n4 + 1) c_HA2))
  replace HDd : Hid (Blk _ w.heap.size 33 #[.slice a1 n1 c1, (.slice A6 n6 c6), .slice a3 n3 c3, (.slice A_HA2 (n4 + 1) c_HA2), .int .i64 cap, .int .i64 o2, .int .i64 r2, .bool d2]) := Lib.hid (by simpa using HDd.out.set_ 3 (.slice A_HA2 (n4 + 1) c_HA2))
  have HBo := Lib.hid ((HY.out.trans (HBw.out.mono HY.out.size)).setCell (p := ⟨w.heap.size, 3, none⟩) (Nat.le_refl _) (.slice A_HA2 (n4 + 1) c_HA2))
  have HQ := Lib.hid (dc_row (p := ⟨w.heap.size, 3, none⟩) (u := .slice A_HA2 (n4 + 1) c_HA2) HA2.out (by omega) (by show w.heap.size < Y.heap.size; omega))
  have HDi := Lib.hid (ent_off (dReads_on HDir.out HBw.out) HDo.out (by simp) (dtouch_set _ (p := ⟨w.heap.size, 3, none⟩) (.slice A_HA2 (n4 + 1) c_HA2)))
  (try dsimp only [List.getElem_toArray, List.getElem_cons_zero, List.getElem_cons_succ]); (try simp only [Act.put, List.setIfInBounds_toArray, List.set_cons_zero, List.set_cons_succ])
  refine wpAnyH_done (by kernel_rfl) ?_ _
  have HAN2 := Lib.hid (AN.mono (w3 := w_HA2.setCell ⟨w.heap.size, 3, none⟩ (.slice A_HA2 (n4 + 1) c_HA2)) (owns_new (w := w) HA2.out HY.out.size) (Nat.le_refl _) (by rw [World.size_setCell]; exact Nat.le_refl _))
  replace HN6 := Lib.hid (AN.mono (w3 := w_HA2.setCell ⟨w.heap.size, 3, none⟩ (.slice A_HA2 (n4 + 1) c_HA2)) HN6.out (Nat.le_refl _) (by rw [World.size_setCell]; exact HBw.out.size))
  clear hHeld HDo HA2 HBw
  go_wp2
  generalize w_HA2.setCell ⟨w.heap.size, 3, none⟩ (.slice A_HA2 (n4 + 1) c_HA2) = Z at *
  replace HN6 := Lib.hid (AN.mono (w3 := Z.drew) HN6.out (Nat.le_refl _) (Nat.le_refl _))
  replace HAN2 := Lib.hid (AN.mono (w3 := Z.drew) HAN2.out (Nat.le_refl _) (Nat.le_refl _))
  replace HR := Lib.hid HR.out.drew
  replace HBo := Lib.hid HBo.out.drew
  replace HQ := Lib.hid (And.intro (dReads_on HQ.out.1 (Below.refl _ _).drew) HQ.out.2)
  replace HDi := Lib.hid (dReads_on HDi.out (Below.refl _ _).drew)
  refine wp_region_held_drew (S := (fun W => Blk W w.heap.size 33 #[.slice a1 n1 c1, (.slice A6 n6 c6), .slice a3 n3 c3, (.slice A_HA2 (n4 + 1) c_HA2), .int .i64 cap, .int .i64 o2, .int .i64 r2, .bool d2])) (by kernel_rfl) (HDd.out.drew) (fun hHeld => ?_)
  refine wpAnyH_take (i := 0) (oi := _) (v := ?_) rfl (by kernel_rfl) (by kernel_rfl) (by kernel_rfl) (fun _ _ _ h => h) (Or.inl ⟨by rfl, ?_⟩) hHeld ?_
  rotate_left
  · (intro wz hSw; have k0 := hSw.cell 0; have k1 := hSw.cell 1; have k2 := hSw.cell 2; have k3 := hSw.cell 3; have k4 := hSw.cell 4; have k5 := hSw.cell 5; have k6 := hSw.cell 6; have k7 := hSw.cell 7; simp only [List.getElem?_toArray, List.getElem?_cons_zero, List.getElem?_cons_succ] at k0 k1 k2 k3 k4 k5 k6 k7; go_simp; try (with_reducible rfl))
  (try dsimp only [List.getElem_toArray, List.getElem_cons_zero, List.getElem_cons_succ]); (try simp only [Act.put, List.setIfInBounds_toArray, List.set_cons_zero, List.set_cons_succ])
  refine wpAnyH_take (i := 1) (oi := _) (v := ?_) rfl (by kernel_rfl) (by kernel_rfl) (by kernel_rfl) (fun _ _ _ h => h) (Or.inl ⟨by rfl, ?_⟩) hHeld ?_
  rotate_left
  · (intro wz hSw; go_simp; try (with_reducible rfl))
  (try dsimp only [List.getElem_toArray, List.getElem_cons_zero, List.getElem_cons_succ]); (try simp only [Act.put, List.setIfInBounds_toArray, List.set_cons_zero, List.set_cons_succ])
  refine wpAnyH_ready (rs := [2]) (by kernel_rfl) (by simp) ?_
  refine AllReadyH.cons (o := _) rfl (fun K hK => ?_) AllReadyH.nil
  go_simp
  go_at_call 61
  (with_reducible refine (Htold.out _).mono ?_)
  rintro e w9 ⟨rfl, hb1⟩
  replace HN6 := Lib.hid (HN6.out.mono (Nat.le_refl _) hb1.size)
  replace HAN2 := Lib.hid (HAN2.out.mono (Nat.le_refl _) hb1.size)
  replace HR := Lib.hid (HR.out.below hb1 HR.out.lt)
  replace HBo := Lib.hid (HBo.out.trans (hb1.mono HBo.out.size))
  replace HQ := Lib.hid (And.intro (dReads_on HQ.out.1 hb1) HQ.out.2)
  replace HDi := Lib.hid (dReads_on HDi.out hb1)
  refine hK.out _ _ (hHeld.below hb1 hHeld.lt) (fun hH => ?_)
  clear hHeld hK K hb1
  have hHeld := hH
  clear hH
  (try dsimp only [List.getElem_toArray, List.getElem_cons_zero, List.getElem_cons_succ]); (try simp only [Act.put, List.setIfInBounds_toArray, List.set_cons_zero, List.set_cons_succ])
  refine wpAnyH_ready (rs := [3]) (by kernel_rfl) (by simp) ?_
  refine AllReadyH.cons (o := _) rfl (fun K hK => ?_) AllReadyH.nil
  have k0 := HR.out.cell 0; have z0 := HR.out.frozen 0; have k1 := HR.out.cell 1; have z1 := HR.out.frozen 1; have k2 := HR.out.cell 2; have z2 := HR.out.frozen 2; have k3 := HR.out.cell 3; have z3 := HR.out.frozen 3; have k4 := HR.out.cell 4; have z4 := HR.out.frozen 4; have k5 := HR.out.cell 5; have z5 := HR.out.frozen 5; have k6 := HR.out.cell 6; have z6 := HR.out.frozen 6; have k7 := HR.out.cell 7; have z7 := HR.out.frozen 7
  simp only [List.getElem?_toArray, List.getElem?_cons_zero, List.getElem?_cons_succ] at k0 k1 k2 k3 k4 k5 k6 k7
  go_simp
  refine hK.out _ _ ((by first | exact (hHeld.touch (oset8 HR.out rfl).2 (by show ¬ w.heap.size = w.heap.size + 2; omega)))) (fun hH => ?_)
  clear hK K hHeld
  have hHeld := hH
  clear hH
  clear k0 z0 k1 z1 k2 z2 k3 z3 k4 z4 k5 z5 k6 z6 k7 z7
  (try dsimp only [List.getElem_toArray, List.getElem_cons_zero, List.getElem_cons_succ]); (try simp only [Act.put, List.setIfInBounds_toArray, List.set_cons_zero, List.set_cons_succ])
  refine wpAnyH_take (i := 4) (oi := _) (v := ?_) rfl (by kernel_rfl) (by kernel_rfl) (by kernel_rfl) (fun _ _ _ h => h) (Or.inl ⟨by rfl, ?_⟩) hHeld ?_
  rotate_left
  · (intro wz hSw; go_simp; try (with_reducible rfl))
  (try dsimp only [List.getElem_toArray, List.getElem_cons_zero, List.getElem_cons_succ]); (try simp only [Act.put, List.setIfInBounds_toArray, List.set_cons_zero, List.set_cons_succ])
  refine wpAnyH_done (by kernel_rfl) ?_ _
  clear hHeld
  go_wp2
  generalize hX9 : ((((((((w9.setCell ⟨w.heap.size + 1 + 1, 0, none⟩ (.slice a1 n1 c1)).setCell ⟨w.heap.size + 1 + 1, 1, none⟩ (.slice A6 n6 c6)).setCell ⟨w.heap.size + 1 + 1, 2, none⟩ (.slice a3 n3 c3)).setCell ⟨w.heap.size + 1 + 1, 3, none⟩ (.slice A_HA2 (n4 + 1) c_HA2)).setCell ⟨w.heap.size + 1 + 1, 4, none⟩ (.int .i64 cap)).setCell ⟨w.heap.size + 1 + 1, 5, none⟩ (.int .i64 o2)).setCell ⟨w.heap.size + 1 + 1, 6, none⟩ (.int .i64 r2)).setCell ⟨w.heap.size + 1 + 1, 7, none⟩ (.bool d2)) = X9
  obtain ⟨y1, y2⟩ := oset8 HR.out hX9
  have x0 := y1.cell 0; have x1 := y1.cell 1; have x2 := y1.cell 2; have x3 := y1.cell 3; have x4 := y1.cell 4; have x5 := y1.cell 5; have x6 := y1.cell 6; have x7 := y1.cell 7
  simp only [List.getElem?_toArray, List.getElem?_cons_zero, List.getElem?_cons_succ] at x0 x1 x2 x3 x4 x5 x6 x7
  have HB9 := HBo.out.trans (y2.below (fun k _ e => by omega) HBo.out.size)
  have hf : Reads X9 X9.heap.size 2 a1 fs.length (dcs ffc fs) := dReads_on Hmem.out.files HB9
  have hs : Reads X9 X9.heap.size 2 a3 sf.length (dcs efc sf) := dReads_on Hmem.out.safe HB9
  have hdr9 : Reads X9 X9.heap.size 2 A6 ND.length (dcs efc ND) := by rw [HL6.out]; exact ent_off HDi.out HR.out (by simp) y2
  have hcg9 : Reads X9 X9.heap.size 3 A_HA2 (cg ++ [(z, x, y)]).length (dcs cfc (cg ++ [(z, x, y)])) := by rw [List.length_append, HL4.out]; exact chg_off HQ.out.1 HR.out (by simp) y2
  refine bodyPost_ret (v := .tuple #[.agg #[.slice a1 n1 c1, (.slice A6 n6 c6), .slice a3 n3 c3, (.slice A_HA2 (n4 + 1) c_HA2), .int .i64 cap, .int .i64 o2, .int .i64 r2, .bool d2], .int .i64 tn]) (by simp [results, Tryz.results56, go_sem, x0, x1, x2, x3, x4, x5, x6, x7]) rfl ⟨⟨a1, A6, a3, A_HA2, c1, c6, c3, c_HA2⟩, rfl, ⟨hf, hdr9, hs, hcg9, Hmem.out.k1, by show ND.length ≤ c6; rw [HL6.out]; exact HC6.out, Hmem.out.k3, by show (cg ++ [(z, x, y)]).length ≤ c_HA2; rw [List.length_append, HL4.out]; exact HQ.out.2⟩, HB9, ⟨.one w _ _, (HN6.out.mono (Nat.le_refl _) y2.size).up (.two w _ _), .three w _ _, (HAN2.out.mono (Nat.le_refl _) y2.size).up (.inl rfl)⟩⟩
end
end Go.Proofs.YtgoahcmgpjacjaaGreat
