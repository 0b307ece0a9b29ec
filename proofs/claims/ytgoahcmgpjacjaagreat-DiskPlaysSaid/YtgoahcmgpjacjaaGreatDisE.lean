/-
  Layer 20, the document's: Used, put (ahead of the code's landing).
-/
import Derived.Test.YtgoahcmgpjacjaaGreatDisD
import Derived.Test.YtgoahcmgpjacjaaGreatGb
import Derived.Test.YtgoahcmgpjacjaaGreatGa
namespace Go.Proofs.YtgoahcmgpjacjaaGreat
set_option linter.unusedSimpArgs false
set_option linter.unusedVariables false
open Go.ChangeShapes Go.WideShapes Go.ChangeAt Go.RowKit Go.Joins Go.Deep
theorem dusedL_snoc (D : Dk) (l : List Ent) (k : Nat) (h : k < l.length) : dusedL D (l.take (k + 1)) = dusedL D (l.take k) + (D.file l[k].2).2.length := by
  rw [List.take_succ_eq_append_getElem h, dusedL_app]
  rfl
theorem dfile_at {D : Dk} {v : Nat} (h : v < D.files.length) : D.file (v : Int) = D.files[v] := by
  unfold Dk.file
  rw [Int.toNat_natCast, List.getD_eq_getElem?_getD, List.getElem?_eq_getElem h, Option.getD_some]
set_option maxRecDepth 100000 in
set_option maxHeartbeats 4000000 in
theorem dref_used_any (D : Dk) (a : DAd) (w : World) (hM : DkMem w D a) (hw : dokL D.files.length D.dir) (hn : D.dir.length ≤ 1000000) (hu : D.used ≤ 1000000000000000) :
    Calls Tryz.prog 38 #[.agg (dkc D a)] w fun e w' => e = .returned (.int .i64 (D.used : Int)) ∧ Below w.heap.size w w' := by
  have hsn := fun k h => dusedL_snoc D D.dir k h
  have hle : ∀ k, dusedL D (D.dir.take k) ≤ 1000000000000000 := fun k => Nat.le_trans (dusedL_sub (List.take_sublist _ _)) hu
  have hz0 : dusedL D (D.dir.take 0) = 0 := by rw [List.take_zero]; rfl
  have hend : dusedL D (D.dir.take D.dir.length) = D.used := by rw [List.take_length]; rfl
  have hfa : ∀ v : Nat, (h : v < D.files.length) → (D.file (v : Int)).2 = D.files[v].2 := fun v h => by rw [dfile_at h]
  unfold dkc
  have hdir := hM.dir
  have hfls := hM.files
  generalize D.used = U at *
  generalize hdu : dusedL D = du at *
  have hfd : ∃ fd : Int → Nat, ∀ v, fd v = (D.file v).2.length := ⟨fun v => (D.file v).2.length, fun _ => rfl⟩
  obtain ⟨fd, hfd⟩ := hfd
  simp only [← hfd] at hsn
  have hfa2 : ∀ v : Nat, (h : v < D.files.length) → D.files[v].2.length = fd (v : Int) := fun v h => by rw [hfd, hfa v h]
  clear hfa hfd hdu hM
  obtain ⟨fs, dr, sf, cg, cap, ops, arm, dd⟩ := D
  obtain ⟨a1, a2, a3, a4, c1, c2, c3, c4⟩ := a
  dsimp only at *
  obtain ⟨n, hl⟩ : ∃ n, dr.length = n := ⟨_, rfl⟩
  obtain ⟨m, hm⟩ : ∃ m, fs.length = m := ⟨_, rfl⟩
  have HSn := Lib.hid hsn
  have HLe := Lib.hid hle
  have HFa := Lib.hid hfa2
  have HWf := Lib.hid hw
  rw [hl] at hdir hn hend ⊢
  rw [hm] at hfls ⊢
  have HE := Lib.hid hend
  have HL := Lib.hid hl
  have HM := Lib.hid hm
  have HC : Hid (0 < n → ∃ b off, a2 = some ⟨b, off, none⟩ ∧ b < w.heap.size ∧ ∀ i (hi : i < dr.length), w.cell? ⟨b, off + i * 2, none⟩ = some (.string ⟨dr[i].1.toArray⟩) ∧ w.cell? ⟨b, off + i * 2 + 1, none⟩ = some (.int .i64 dr[i].2)) := Lib.hid fun h => ent_cells hdir hl h
  have HD : Hid (0 < m → ∃ b off, a1 = some ⟨b, off, none⟩ ∧ b < w.heap.size ∧ ∀ i (hi : i < fs.length), w.cell? ⟨b, off + i * 2, none⟩ = some (.string ⟨fs[i].1.toArray⟩) ∧ w.cell? ⟨b, off + i * 2 + 1, none⟩ = some (.string ⟨fs[i].2.toArray⟩)) := Lib.hid fun h => fl_cells hfls hm h
  have HX := Lib.hid (Blk.new w 33 #[.slice a1 m c1, .slice a2 n c2, .slice a3 sf.length c3, .slice a4 cg.length c4, .int .i64 cap, .int .i64 ops, .int .i64 arm, .bool dd])
  have HB0 := Lib.hid ((Below.refl w.heap.size w).alloc (Nat.le_refl _) (.cells #[.slice a1 m c1, .slice a2 n c2, .slice a3 sf.length c3, .slice a4 cg.length c4, .int .i64 cap, .int .i64 ops, .int .i64 arm, .bool dd] 33))
  have H00 : Hid (du (dr.take 0) = 0) := Lib.hid hz0
  clear hz0
  clear hl hm hdir hfls hsn hle hfa2 hw hend
  generalize sf.length = n3 at *
  generalize cg.length = n4 at *
  go_enter Tryz.func38, Tryz.ntmps38
  go_wp2
  go_loopw [3, 4] (fun s i wr => ∃ k z : Nat, k ≤ n ∧ i = .int .i64 (k : Int) ∧ s = .int .i64 (z : Int) ∧ Hid (du (dr.take k) = z) ∧ Hid (Blk wr w.heap.size 33 #[.slice a1 m c1, .slice a2 n c2, .slice a3 n3 c3, .slice a4 n4 c4, .int .i64 cap, .int .i64 ops, .int .i64 arm, .bool dd]) ∧ Hid (Below w.heap.size w wr)) (fun _ i _ => n - (intOf i).toNat)
  case atStart =>
    exact ⟨0, 0, by omega, rfl, rfl, H00, HX, HB0⟩
  case round =>
    obtain ⟨k, z, hk, rfl, rfl, HZ, HX2, HB⟩ := hrel
    have x0 : wr.cell? ⟨w.heap.size, 0, none⟩ = some (.slice a1 m c1) := HX2.out.cell 0
    have x1 : wr.cell? ⟨w.heap.size, 1, none⟩ = some (.slice a2 n c2) := HX2.out.cell 1
    by_cases hlt : k < n
    · have hkl : k < dr.length := by have := HL.out; omega
      obtain ⟨b, off, rfl, hb, hcell⟩ := HC.out (by omega)
      obtain ⟨d0, d1⟩ := hcell k hkl
      have y1 := (HB.out.cell (p := ⟨b, off + k * 2 + 1, none⟩) hb).trans d1
      have hki : (0 : Int) ≤ (k : Int) ∧ (k : Int) < (n : Int) := by omega
      have hwf := HWf.out _ (List.getElem_mem hkl)
      have hsn := HSn.out k hkl
      have hle := HLe.out (k + 1)
      generalize dr[k].2 = v at *
      obtain ⟨vn, rfl⟩ := Int.eq_ofNat_of_zero_le hwf.1
      have hvl : vn < fs.length := by omega
      have hvm : vn < m := by have := HM.out; omega
      obtain ⟨b2, off2, rfl, hb2, hcell2⟩ := HD.out (by omega)
      obtain ⟨e0, e1⟩ := hcell2 vn hvl
      have y2 := (HB.out.cell (p := ⟨b2, off2 + vn * 2 + 1, none⟩) hb2).trans e1
      have hvi : (0 : Int) ≤ (vn : Int) ∧ (vn : Int) < (m : Int) := by omega
      have hfa := HFa.out vn hvl
      rw [← hfa, HZ.out] at hsn
      rw [hsn] at hle
      have HSn2 := Lib.hid hsn
      generalize fs[vn].2 = t at *
      have hsum : (z : Int) + (t.length : Int) ≤ 1000000000000000 := by omega
      have hws : IntKind.i64.wrap ((z : Int) + (t.length : Int)) = (z : Int) + (t.length : Int) := by rw [IntKind.wrap_i64]; omega
      clear hcell hcell2 d0 d1 e0 e1 HC HD hwf hsn hle hfa HWf HSn HLe HFa hvl hkl H00
      go_wp2
      go_quiet (fail)
      go_wp2
      go_roundw
      case rel => exact ⟨k + 1, z + t.length, by omega, iv (by omega), iv (by omega), HSn2, Lib.hid HX2.out, Lib.hid (below_drewN HB.out _)⟩
      case measure => simp only [intOf]; omega
    · obtain rfl : k = n := by omega
      have HF : Hid ((U : Int) = (z : Int)) := Lib.hid (by rw [← HE.out, HZ.out])
      clear HC HD
      go_wp2
      go_ret
      exact ⟨by rw [HF.out]; rfl, HB.out⟩
theorem d_nothing {t : TypeId} {m N : Nat} (W : World) (h : N ≤ W.heap.size) : (W.alloc (.cells #[] t)).ownsRow N t m (.slice (some ⟨W.heap.size, 0, none⟩) 0 0) 0 [] :=
  ⟨by simp, Or.inr ⟨W.heap.size, 0, #[], rfl, h, Blk.new W _ _, Nat.le_refl _, by unfold maxLen; omega, by simp, by simp⟩⟩
theorem owns_blk {W : World} {N n m : Nat} {t : TypeId} {A : Option Addr} {c : Nat} {xs : List Value} (h : W.ownsRow N t m (.slice A n c) n xs) (hn : 0 < n) : ∃ g cur, A = some ⟨g, 0, none⟩ ∧ N ≤ g ∧ Blk W g t cur ∧ n ≤ c ∧ cur.size = c * m ∧ cur.toList.take (n * m) = xs := by
  obtain ⟨h1, h2⟩ := h
  rcases h2 with ⟨h3, h4⟩ | ⟨g, cap, cur, h3, h4, h5, h6, h7, h8, h9⟩
  · injection h3 with _ h3 _
    omega
  · injection h3 with h3 h10 h11
    subst h3
    subst h11
    exact ⟨g, cur, rfl, h4, h5, h6, h8, h9⟩
theorem dcs_set (l : List Fl) (k : Nat) (hk : k < l.length) (f : Fl) : dcs ffc (l.set k f) = ((dcs ffc l).set (k * 2) (.string ⟨f.1.toArray⟩)).set (k * 2 + 1) (.string ⟨f.2.toArray⟩) := by
  induction l generalizing k with
  | nil => cases hk
  | cons a l ih =>
    cases k with
    | zero => rfl
    | succ k =>
      have := ih k (by simpa using hk)
      show ffc a ++ dcs ffc (l.set k f) = ((ffc a ++ dcs ffc l).set ((k + 1) * 2) _).set ((k + 1) * 2 + 1) _
      rw [this, show (k + 1) * 2 = k * 2 + 1 + 1 from by omega]
      rfl
theorem fl_reads {W : World} {g N : Nat} {cur : Array Value} {l : List Fl} (h : Blk W g 91 cur) (hc : cur.toList.take (N * 2) = dcs ffc l) (hl : l.length = N) : Reads W W.heap.size 2 (some ⟨g, 0, none⟩) N (dcs ffc l) := by
  refine ⟨by rw [dcs_length ffc 2 ffc_len, hl], fun _ => ⟨g, 0, rfl, h.lt, fun j u hj => ?_⟩⟩
  rw [Nat.zero_add, h.cell j, ← Array.getElem?_toList]
  rw [← hc, List.getElem?_take] at hj
  split at hj
  · exact hj
  · cases hj
theorem oset8 {W X : World} {g : Nat} {t : TypeId} {x0 x1 x2 x3 x4 x5 x6 x7 : Value} (h : Blk W g t #[x0, x1, x2, x3, x4, x5, x6, x7]) {a0 a1 a2 a3 a4 a5 a6 a7 : Value}
    (hX : (((((((W.setCell ⟨g, 0, none⟩ a0).setCell ⟨g, 1, none⟩ a1).setCell ⟨g, 2, none⟩ a2).setCell ⟨g, 3, none⟩ a3).setCell ⟨g, 4, none⟩ a4).setCell ⟨g, 5, none⟩ a5).setCell ⟨g, 6, none⟩ a6).setCell ⟨g, 7, none⟩ a7 = X) :
    Blk X g t #[a0, a1, a2, a3, a4, a5, a6, a7] ∧ Touch W X (fun k => k = g) := by
  subst hX
  exact ⟨by simpa using (((((((h.set_ 0 a0).set_ 1 a1).set_ 2 a2).set_ 3 a3).set_ 4 a4).set_ 5 a5).set_ 6 a6).set_ 7 a7,
    ((((((((Touch.refl W (fun k => k = g)).set (p := ⟨g, 0, none⟩) (.inl rfl) _).set (p := ⟨g, 1, none⟩) (.inl rfl) _).set (p := ⟨g, 2, none⟩) (.inl rfl) _).set (p := ⟨g, 3, none⟩) (.inl rfl) _).set (p := ⟨g, 4, none⟩) (.inl rfl) _).set (p := ⟨g, 5, none⟩) (.inl rfl) _).set (p := ⟨g, 6, none⟩) (.inl rfl) _).set (p := ⟨g, 7, none⟩) (.inl rfl) _⟩
set_option maxRecDepth 100000 in
set_option maxHeartbeats 8000000 in
theorem dref_put_any (D : Dk) (a : DAd) (n : Nat) (f : Fl) (w : World) (hM : DkMem w D a) (hn : n < D.files.length) (hf : D.files.length ≤ 1000000) :
    Calls Tryz.prog 60 #[.agg (dkc D a), .int .i64 (n : Int), .agg #[.string ⟨f.1.toArray⟩, .string ⟨f.2.toArray⟩]] w fun e w' => ∃ a', e = .returned (.agg (dkc (D.put n f) a')) ∧ DkMem w' (D.put n f) a' ∧ Below w.heap.size w w' ∧ DkN w w' a a' := by
  obtain ⟨i0, hi, hz0, hz1, hz9⟩ := info_parts flr_info
  have hset := dcs_set D.files n hn f
  have hMd := Lib.hid hM
  have hfls := hM.files
  unfold dkc Dk.put
  rw [Int.toNat_natCast]
  obtain ⟨fs, dr, sf, cg, cap, ops, arm, dd⟩ := D
  obtain ⟨a1, a2, a3, a4, c1, c2, c3, c4⟩ := a
  obtain ⟨fx, fy⟩ := f
  dsimp only at *
  rw [List.length_set]
  obtain ⟨m, hm⟩ : ∃ m, fs.length = m := ⟨_, rfl⟩
  have HM := Lib.hid hm
  have HS := Lib.hid hset
  have hlen := dcs_length ffc 2 ffc_len fs
  rw [hm] at hfls hn hf hlen ⊢
  have HLn := Lib.hid hlen
  have HRd : Hid (∀ W, Below w.heap.size w W → Reads W w.heap.size 2 a1 m (dcs ffc fs)) := Lib.hid fun W h => hfls.below h
  have h1 := Blk.new w 33 #[.slice a1 m c1, .slice a2 dr.length c2, .slice a3 sf.length c3, .slice a4 cg.length c4, .int .i64 cap, .int .i64 ops, .int .i64 arm, .bool dd]
  have h2 := Blk.new (w.alloc (.cells #[.slice a1 m c1, .slice a2 dr.length c2, .slice a3 sf.length c3, .slice a4 cg.length c4, .int .i64 cap, .int .i64 ops, .int .i64 arm, .bool dd] 33)) 91 #[.string ⟨fx.toArray⟩, .string ⟨fy.toArray⟩]
  have h3 := Blk.new ((w.alloc (.cells #[.slice a1 m c1, .slice a2 dr.length c2, .slice a3 sf.length c3, .slice a4 cg.length c4, .int .i64 cap, .int .i64 ops, .int .i64 arm, .bool dd] 33)).alloc (.cells #[.string ⟨fx.toArray⟩, .string ⟨fy.toArray⟩] 91)) 33 #[.slice none 0 0, .slice none 0 0, .slice none 0 0, .slice none 0 0, .int .i64 0, .int .i64 0, .int .i64 0, .bool false]
  simp only [World.size_alloc] at h2 h3
  replace h1 := (h1.alloc (.cells #[.string ⟨fx.toArray⟩, .string ⟨fy.toArray⟩] 91)).alloc (.cells #[.slice none 0 0, .slice none 0 0, .slice none 0 0, .slice none 0 0, .int .i64 0, .int .i64 0, .int .i64 0, .bool false] 33)
  replace h2 := h2.alloc (.cells #[.slice none 0 0, .slice none 0 0, .slice none 0 0, .slice none 0 0, .int .i64 0, .int .i64 0, .int .i64 0, .bool false] 33)
  have hb0 : Below w.heap.size w (((w.alloc (.cells #[.slice a1 m c1, .slice a2 dr.length c2, .slice a3 sf.length c3, .slice a4 cg.length c4, .int .i64 cap, .int .i64 ops, .int .i64 arm, .bool dd] 33)).alloc (.cells #[.string ⟨fx.toArray⟩, .string ⟨fy.toArray⟩] 91)).alloc (.cells #[.slice none 0 0, .slice none 0 0, .slice none 0 0, .slice none 0 0, .int .i64 0, .int .i64 0, .int .i64 0, .bool false] 33)) := by go_grown
  have hs3 : (((w.alloc (.cells #[.slice a1 m c1, .slice a2 dr.length c2, .slice a3 sf.length c3, .slice a4 cg.length c4, .int .i64 cap, .int .i64 ops, .int .i64 arm, .bool dd] 33)).alloc (.cells #[.string ⟨fx.toArray⟩, .string ⟨fy.toArray⟩] 91)).alloc (.cells #[.slice none 0 0, .slice none 0 0, .slice none 0 0, .slice none 0 0, .int .i64 0, .int .i64 0, .int .i64 0, .bool false] 33)).heap.size = w.heap.size + 3 := by simp
  obtain ⟨W3, hW3⟩ : ∃ W3, (((w.alloc (.cells #[.slice a1 m c1, .slice a2 dr.length c2, .slice a3 sf.length c3, .slice a4 cg.length c4, .int .i64 cap, .int .i64 ops, .int .i64 arm, .bool dd] 33)).alloc (.cells #[.string ⟨fx.toArray⟩, .string ⟨fy.toArray⟩] 91)).alloc (.cells #[.slice none 0 0, .slice none 0 0, .slice none 0 0, .slice none 0 0, .int .i64 0, .int .i64 0, .int .i64 0, .bool false] 33)) = W3 := ⟨_, rfl⟩
  rw [hW3] at h1 h2 h3 hb0 hs3
  have H1 := Lib.hid (h1.alloc (.cells #[] 91))
  have H2 := Lib.hid (h2.alloc (.cells #[] 91))
  have H3 := Lib.hid (h3.alloc (.cells #[] 91))
  have HB := Lib.hid (hb0.alloc hb0.size (.cells #[] 91))
  have HO : Hid ((W3.alloc (.cells #[] 91)).ownsRow (w.heap.size + 3) 91 2 (.slice (some ⟨W3.heap.size, 0, none⟩) 0 0) 0 []) := Lib.hid (d_nothing W3 (by omega))
  rw [hs3] at HO
  have HR := Lib.hid (HRd.out _ HB.out)
  have hsz : (W3.alloc (.cells #[] 91)).heap.size = w.heap.size + 4 := by rw [World.size_alloc, hs3]
  subst hW3
  have HSz := Lib.hid hsz
  clear hset hfls hm hlen hM h1 h2 h3 hb0 hs3 hsz HRd
  go_enter Tryz.func60, Tryz.ntmps60
  go_wp2_with (refine wpList_append_any _ rfl _ _ 29 rfl (w.heap.size + 3) 91 i0 (.agg #[.string ⟨#[]⟩, .string ⟨#[]⟩]) 2 32 Tryz.underlying29 hi hz0 hz1 hz9 rfl (by decide) _ _ _ rfl HO.out a1 m c1 _ _ rfl HR.out (ffc_cell fs) ?c1 ?c2 ?c3 ?_)
  case c1 => unfold maxLen; omega
  case c2 => omega
  case c3 => have := HSz.out; omega
  · intro v' w2 ho hg
    try simp only [Nat.zero_add, List.nil_append] at ho
    obtain ⟨A', c', rfl, hc', _⟩ := owns_cells ho
    obtain ⟨g, cur, rfl, hge, hG, hcc, hcs, hct⟩ := owns_blk ho (by omega)
    have K1 := H1.out.grow' hg (d_old HO.out (by omega))
    have K2 := H2.out.grow' hg (d_old HO.out (by omega))
    have K3 := H3.out.grow' hg (d_old HO.out (by omega))
    have KB := HB.out.grown hg HB.out.size fun b hb => by have := (HO.out.lt b hb).1; omega
    have n1 : ¬ g = w.heap.size := by omega
    have n2 : ¬ g = w.heap.size + 1 := by omega
    have n3 : ¬ g = w.heap.size + 1 + 1 := by omega
    have n4 : ¬ w.heap.size = g := by omega
    have n5 : ¬ w.heap.size + 1 + 1 = g := by omega
    have hgn : g ≠ w.heap.size + 2 := by omega
    have f0 : w2.cell? ⟨w.heap.size + 1, 0, none⟩ = some (.string ⟨fx.toArray⟩) := K2.cell 0
    have f1 : w2.cell? ⟨w.heap.size + 1, 1, none⟩ = some (.string ⟨fy.toArray⟩) := K2.cell 1
    have hc0 : n * 2 < cur.size := by omega
    have hc1 : n * 2 + 1 < cur.size := by omega
    have g0 : w2.cell? ⟨g, n * 2, none⟩ = some cur[n * 2] := by rw [hG.cell]; exact Array.getElem?_eq_getElem hc0
    have g1 : w2.cell? ⟨g, n * 2 + 1, none⟩ = some cur[n * 2 + 1] := by rw [hG.cell]; exact Array.getElem?_eq_getElem hc1
    have z0 := hG.frozen (n * 2)
    have z1 := hG.frozen (n * 2 + 1)
    have e0 := K1.frozen 0
    have r0 := K3.frozen 0
    have r1 := K3.frozen 1
    have r2 := K3.frozen 2
    have r3 := K3.frozen 3
    have r4 := K3.frozen 4
    have r5 := K3.frozen 5
    have r6 := K3.frozen 6
    have r7 := K3.frozen 7
    have d0 := K1.cell 0
    have d1 := K1.cell 1
    have d2 := K1.cell 2
    have d3 := K1.cell 3
    have d4 := K1.cell 4
    have d5 := K1.cell 5
    have d6 := K1.cell 6
    have d7 := K1.cell 7
    have q0 := K3.cell 0
    have q1 := K3.cell 1
    have q2 := K3.cell 2
    have q3 := K3.cell 3
    have q4 := K3.cell 4
    have q5 := K3.cell 5
    have q6 := K3.cell 6
    have q7 := K3.cell 7
    simp only [List.getElem?_toArray, List.getElem?_cons_zero, List.getElem?_cons_succ] at d0 d1 d2 d3 d4 d5 d6 d7 q0 q1 q2 q3 q4 q5 q6 q7
    have hni : (0 : Int) ≤ (n : Int) ∧ (n : Int) < (m : Int) := by omega
    have HG := Lib.hid hG
    have HK1 := Lib.hid K1
    have HK3 := Lib.hid K3
    have HKB := Lib.hid KB
    have HCt := Lib.hid hct
    have HCs := Lib.hid hcs
    have HCc := Lib.hid hcc
    clear hG K1 K2 K3 KB hct hcs ho hg H1 H2 H3 HB HO HR hc' hcc
    generalize cur[n * 2] = u0 at *
    generalize cur[n * 2 + 1] = u1 at *
    clear hc0 hc1
    go_wp2
    have hGa := (HG.out.set_ (n * 2) (.string ⟨fx.toArray⟩)).set_ (n * 2 + 1) (.string ⟨fy.toArray⟩)
    have hGb := hGa.far (p := ⟨w.heap.size, 0, none⟩) n1 (.slice (some ⟨g, 0, none⟩) m c')
    have hRb := ((HK3.out.far (p := ⟨g, n * 2, none⟩) (fun e => hgn e.symm) (.string ⟨fx.toArray⟩)).far (p := ⟨g, n * 2 + 1, none⟩) (fun e => hgn e.symm) (.string ⟨fy.toArray⟩)).far (p := ⟨w.heap.size, 0, none⟩) (by show w.heap.size + 2 ≠ w.heap.size; omega) (.slice (some ⟨g, 0, none⟩) m c')
    have hBb := ((HKB.out.setCell (p := ⟨g, n * 2, none⟩) (by show w.heap.size ≤ g; omega) (.string ⟨fx.toArray⟩)).setCell (p := ⟨g, n * 2 + 1, none⟩) (by show w.heap.size ≤ g; omega) (.string ⟨fy.toArray⟩)).setCell (p := ⟨w.heap.size, 0, none⟩) (Nat.le_refl _) (.slice (some ⟨g, 0, none⟩) m c')
    generalize ((w2.setCell ⟨g, n * 2, none⟩ (.string ⟨fx.toArray⟩)).setCell ⟨g, n * 2 + 1, none⟩ (.string ⟨fy.toArray⟩)).setCell ⟨w.heap.size, 0, none⟩ (.slice (some ⟨g, 0, none⟩) m c') = Wb at hGb hRb hBb ⊢
    generalize hX : (((((((Wb.setCell ⟨w.heap.size + 1 + 1, 0, none⟩ (.slice (some ⟨g, 0, none⟩) m c')).setCell ⟨w.heap.size + 1 + 1, 1, none⟩ (.slice a2 dr.length c2)).setCell ⟨w.heap.size + 1 + 1, 2, none⟩ (.slice a3 sf.length c3)).setCell ⟨w.heap.size + 1 + 1, 3, none⟩ (.slice a4 cg.length c4)).setCell ⟨w.heap.size + 1 + 1, 4, none⟩ (.int .i64 cap)).setCell ⟨w.heap.size + 1 + 1, 5, none⟩ (.int .i64 ops)).setCell ⟨w.heap.size + 1 + 1, 6, none⟩ (.int .i64 arm)).setCell ⟨w.heap.size + 1 + 1, 7, none⟩ (.bool dd) = X
    obtain ⟨y1, y2⟩ := oset8 hRb hX
    have x0 := y1.cell 0
    have x1 := y1.cell 1
    have x2 := y1.cell 2
    have x3 := y1.cell 3
    have x4 := y1.cell 4
    have x5 := y1.cell 5
    have x6 := y1.cell 6
    have x7 := y1.cell 7
    simp only [List.getElem?_toArray, List.getElem?_cons_zero, List.getElem?_cons_succ] at x0 x1 x2 x3 x4 x5 x6 x7
    have hGx := hGb.touch y2 hgn
    have hBx : Below w.heap.size w X := hBb.trans (y2.below (fun k _ e => by omega) hBb.size)
    have hmem := hMd.out
    refine bodyPost_ret (v := .agg #[.slice (some ⟨g, 0, none⟩) m c', .slice a2 dr.length c2, .slice a3 sf.length c3, .slice a4 cg.length c4, .int .i64 cap, .int .i64 ops, .int .i64 arm, .bool dd]) (by simp [results, Tryz.results60, go_sem, x0, x1, x2, x3, x4, x5, x6, x7]) rfl ⟨⟨some ⟨g, 0, none⟩, a2, a3, a4, c', c2, c3, c4⟩, rfl, ⟨?_, dReads_on hmem.dir hBx, dReads_on hmem.safe hBx, dReads_on hmem.chg hBx, ?_, hmem.k2, hmem.k3, hmem.k4⟩, hBx, ⟨.inr (.inr (.inr (.inr (.inr ⟨g, 0, rfl, by omega, hGx.lt⟩)))), .two w _ _, .three w _ _, .four w _ _⟩⟩
    · have hlen : (fs.set n (fx, fy)).length = m := by rw [List.length_set, HM.out]
      dsimp only
      rw [hlen]
      refine fl_reads hGx ?_ hlen
      rw [HS.out, ← HCt.out]
      simp [List.take_set]
    · dsimp only
      rw [List.length_set, HM.out]
      exact HCc.out
end Go.Proofs.YtgoahcmgpjacjaaGreat
