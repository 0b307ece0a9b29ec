/-
  Layer 20, the document's: Read, DirSync (ahead of the code's landing).
-/
import Derived.Test.YtgoahcmgpjacjaaGreatDisH
namespace Go.Proofs.YtgoahcmgpjacjaaGreat
set_option linter.unusedSimpArgs false
set_option linter.unusedVariables false
open Go.ChangeShapes Go.WideShapes Go.ChangeAt Go.RowKit Go.Joins Go.Deep
set_option maxRecDepth 100000 in
set_option maxHeartbeats 2000000 in
theorem dref_read_a (D : Dk) (a : DAd) (s : List UInt8) (w : World) (hM : DkMem w D a) (hd : D.dir.length ≤ 1000000) (hw : D.wf) (hs : ¬ D.shut s = 0) : Calls Tryz.prog 40 #[.agg (dkc D a), .string ⟨s.toArray⟩] w fun e w' => e = .returned (.tuple #[.string ⟨(dreadF D s).1.toArray⟩, .int .i64 (dreadF D s).2]) ∧ Below w.heap.size w w' := by
  have hop := fun W hb => dref_open_any D a s W (hM.on hb) hd
  unfold dreadF
  clear hM hd hw
  · have hs2 : (D.shut s == 0) = false := by rw [beq_eq_false_iff_ne]; exact hs
    rw [if_pos hs]
    simp only [hs, if_false] at hop
    dsimp only
    generalize D.shut s = SH at *
    unfold dkc at hop ⊢
    obtain ⟨fs, dr, sf, cg, cap, ops, arm, dd⟩ := D
    obtain ⟨a1, a2, a3, a4, c1, c2, c3, c4⟩ := a
    dsimp only at *
    obtain ⟨n1, hn1⟩ : ∃ n, fs.length = n := ⟨_, rfl⟩
    obtain ⟨n2, hn2⟩ : ∃ n, dr.length = n := ⟨_, rfl⟩
    obtain ⟨n3, hn3⟩ : ∃ n, sf.length = n := ⟨_, rfl⟩
    obtain ⟨n4, hn4⟩ : ∃ n, cg.length = n := ⟨_, rfl⟩
    have HL1 := Lib.hid hn1
    have HL2 := Lib.hid hn2
    have HL3 := Lib.hid hn3
    have HL4 := Lib.hid hn4
    rw [hn1, hn2, hn3, hn4] at hop ⊢
    have Hop := Lib.hid hop
    clear hn2 hn3 hn4 hop
    have H1 := Lib.hid (Blk.new w 33 #[.slice a1 n1 c1, .slice a2 n2 c2, .slice a3 n3 c3, .slice a4 n4 c4, .int .i64 cap, .int .i64 ops, .int .i64 arm, .bool dd])
    have HB0 := Lib.hid ((Below.refl w.heap.size w).alloc (Nat.le_refl _) (.cells #[.slice a1 n1 c1, .slice a2 n2 c2, .slice a3 n3 c3, .slice a4 n4 c4, .int .i64 cap, .int .i64 ops, .int .i64 arm, .bool dd] 33))
    go_enter Tryz.func40, Tryz.ntmps40
    go_wp2_with (first
      | (go_at_call 57; (with_reducible refine (Hop.out _ HB0.out).mono ?_); rintro e w1 ⟨rfl, hb1⟩; replace H1 := Lib.hid (H1.out.below hb1 H1.out.lt); replace HB0 := Lib.hid (HB0.out.trans (hb1.mono HB0.out.size)); clear hb1; have p0 := H1.out.cell 0; have p1 := H1.out.cell 1; have p2 := H1.out.cell 2; have p3 := H1.out.cell 3; have p4 := H1.out.cell 4; have p5 := H1.out.cell 5; have p6 := H1.out.cell 6; have p7 := H1.out.cell 7; simp only [List.getElem?_toArray, List.getElem?_cons_zero, List.getElem?_cons_succ] at p0 p1 p2 p3 p4 p5 p6 p7))
    refine bodyPost_ret (v := .tuple #[.string ⟨#[]⟩, .int .i64 SH]) (by simp [results, Tryz.results40, go_sem]) rfl ⟨rfl, HB0.out⟩
set_option maxRecDepth 100000 in
set_option maxHeartbeats 2000000 in
theorem dref_read_b (D : Dk) (a : DAd) (s : List UInt8) (w : World) (hM : DkMem w D a) (hd : D.dir.length ≤ 1000000) (hw : D.wf) (hs : D.shut s = 0) : Calls Tryz.prog 40 #[.agg (dkc D a), .string ⟨s.toArray⟩] w fun e w' => e = .returned (.tuple #[.string ⟨(dreadF D s).1.toArray⟩, .int .i64 (dreadF D s).2]) ∧ Below w.heap.size w w' := by
  have hop := fun W hb => dref_open_any D a s W (hM.on hb) hd
  obtain ⟨-, hf0, hf1⟩ := dshut_ok hw hs
  obtain ⟨vn, hvn⟩ := Int.eq_ofNat_of_zero_le hf0
  have hvl : vn < D.files.length := by rw [hvn] at hf1; exact Int.ofNat_lt.1 hf1
  have hfi := dfile_at hvl
  obtain ⟨b, off, ea, hb, hcl⟩ := fl_cells hM.files rfl (by omega)
  have e1 := (hcl vn hvl).2
  rw [show D.files[vn] = D.file (vn : Int) from hfi.symm] at e1
  unfold dreadF
  rw [hvn]
  simp only [hvn] at hop
  clear hM hd hw hcl hf0 hf1 hfi
  · rw [if_neg (by rw [hs]; simp)]
    simp only [hs, if_true] at hop
    dsimp only
    generalize (D.file (vn : Int)).2 = T at *
    clear hs hvn
    unfold dkc at hop ⊢
    obtain ⟨fs, dr, sf, cg, cap, ops, arm, dd⟩ := D
    obtain ⟨a1, a2, a3, a4, c1, c2, c3, c4⟩ := a
    dsimp only at *
    obtain ⟨n1, hn1⟩ : ∃ n, fs.length = n := ⟨_, rfl⟩
    obtain ⟨n2, hn2⟩ : ∃ n, dr.length = n := ⟨_, rfl⟩
    obtain ⟨n3, hn3⟩ : ∃ n, sf.length = n := ⟨_, rfl⟩
    obtain ⟨n4, hn4⟩ : ∃ n, cg.length = n := ⟨_, rfl⟩
    have HL1 := Lib.hid hn1
    have HL2 := Lib.hid hn2
    have HL3 := Lib.hid hn3
    have HL4 := Lib.hid hn4
    rw [hn1, hn2, hn3, hn4] at hop ⊢
    have Hop := Lib.hid hop
    clear hn2 hn3 hn4 hop
    have H1 := Lib.hid (Blk.new w 33 #[.slice a1 n1 c1, .slice a2 n2 c2, .slice a3 n3 c3, .slice a4 n4 c4, .int .i64 cap, .int .i64 ops, .int .i64 arm, .bool dd])
    have HB0 := Lib.hid ((Below.refl w.heap.size w).alloc (Nat.le_refl _) (.cells #[.slice a1 n1 c1, .slice a2 n2 c2, .slice a3 n3 c3, .slice a4 n4 c4, .int .i64 cap, .int .i64 ops, .int .i64 arm, .bool dd] 33))
    rw [hn1] at hvl
    clear hn1 HL1 HL2 HL3 HL4
    subst ea
    have hvi : (0 : Int) ≤ (vn : Int) ∧ (vn : Int) < (n1 : Int) := by omega
    have E1 := Lib.hid e1
    clear e1
    go_enter Tryz.func40, Tryz.ntmps40
    go_wp2_with (first
      | (go_at_call 57; (with_reducible refine (Hop.out _ HB0.out).mono ?_); rintro e w1 ⟨rfl, hb1⟩; replace H1 := Lib.hid (H1.out.below hb1 H1.out.lt); replace HB0 := Lib.hid (HB0.out.trans (hb1.mono HB0.out.size)); clear hb1; have p0 := H1.out.cell 0; have p1 := H1.out.cell 1; have p2 := H1.out.cell 2; have p3 := H1.out.cell 3; have p4 := H1.out.cell 4; have p5 := H1.out.cell 5; have p6 := H1.out.cell 6; have p7 := H1.out.cell 7; simp only [List.getElem?_toArray, List.getElem?_cons_zero, List.getElem?_cons_succ] at p0 p1 p2 p3 p4 p5 p6 p7; have y2 := (HB0.out.cell (p := ⟨b, off + vn * 2 + 1, none⟩) hb).trans E1.out))
    refine bodyPost_ret (v := .tuple #[.string ⟨T.toArray⟩, .int .i64 0]) (by simp [results, Tryz.results40, go_sem]) rfl ⟨rfl, HB0.out⟩
theorem dref_read_any (D : Dk) (a : DAd) (s : List UInt8) (w : World) (hM : DkMem w D a) (hd : D.dir.length ≤ 1000000) (hw : D.wf) : Calls Tryz.prog 40 #[.agg (dkc D a), .string ⟨s.toArray⟩] w fun e w' => e = .returned (.tuple #[.string ⟨(dreadF D s).1.toArray⟩, .int .i64 (dreadF D s).2]) ∧ Below w.heap.size w w' := by
  by_cases hs : D.shut s = 0
  · exact dref_read_b D a s w hM hd hw hs
  · exact dref_read_a D a s w hM hd hw hs
end Go.Proofs.YtgoahcmgpjacjaaGreat
