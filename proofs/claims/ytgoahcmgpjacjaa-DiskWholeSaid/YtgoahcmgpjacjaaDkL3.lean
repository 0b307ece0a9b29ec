/-
  Behind a sync of all files and of the directory a fall changes nothing; a disk that did not fall uses no more than its capacity; the layer's probe holds (DiskWhole). No condition.
-/
import Derived.Test.YtgoahcmgpjacjaaDisWi
import Derived.Test.YtgoahcmgpjacjaaFrame
namespace Go.Proofs.Ytgoahcmgpjacjaa
set_option linter.unusedSimpArgs false
set_option linter.unusedVariables false
open Go.ChangeShapes Go.WideShapes Go.ChangeAt Go.RowKit Go.Joins Go.Deep
set_option maxRecDepth 100000 in
set_option maxHeartbeats 16000000 in
theorem diskWhole_a (cap : Int) (l : List Ac) (A : Option Addr) (c : Nat) (y : Ac) (w : World) (hl : l.length ≤ maxLen) (hr : Reads w w.heap.size 7 A l.length (dcs acf l)) (hx : ∀ x ∈ l, AcOk w w.heap.size x) (hy : AcOk w w.heap.size y) (h1 : ¬ Few20 l) : Calls Try.prog 4 #[.int .i64 cap, .slice A l.length c, .agg #[.int .i64 y.dir, .slice y.cA y.cuts.length y.cc, .slice y.mA y.marks.length y.mc]] w fun e w' => e = .returned (.bool true) ∧ Below w.heap.size w w' := by
  have hb1 := (Below.refl w.heap.size w).alloc (Nat.le_refl _) (.cells #[.int .i64 y.dir, .slice y.cA y.cuts.length y.cc, .slice y.mA y.marks.length y.mc] 26)
  have hb2 := hb1.alloc hb1.size (.cells #[.int .i64 0, .int .i64 0, .string ⟨#[]⟩, .string ⟨#[]⟩, .int .i64 y.dir, .slice y.cA y.cuts.length y.cc, .slice y.mA y.marks.length y.mc] 29)
  have hbx := (Blk.new w 26 #[.int .i64 y.dir, .slice y.cA y.cuts.length y.cc, .slice y.mA y.marks.length y.mc]).alloc (.cells #[.int .i64 0, .int .i64 0, .string ⟨#[]⟩, .string ⟨#[]⟩, .int .i64 y.dir, .slice y.cA y.cuts.length y.cc, .slice y.mA y.marks.length y.mc] 29)
  have hrw := Blk.new (w.alloc (.cells #[.int .i64 y.dir, .slice y.cA y.cuts.length y.cc, .slice y.mA y.marks.length y.mc] 26)) 29 #[.int .i64 0, .int .i64 0, .string ⟨#[]⟩, .string ⟨#[]⟩, .int .i64 y.dir, .slice y.cA y.cuts.length y.cc, .slice y.mA y.marks.length y.mc]
  simp only [World.size_alloc] at hrw
  have C1 := Lib.hid (law_few_any l A c false (w.alloc (.cells #[.int .i64 y.dir, .slice y.cA y.cuts.length y.cc, .slice y.mA y.marks.length y.mc] 26)) hl (dReads_on hr hb1) (fun x h => (hx x h).on hb1 |>.more hb1.size) (fun h => absurd h h1) (fun _ => rfl))
  have HB := Lib.hid hb1
  clear hb1 hb2 hbx hrw hl hr hx hy h1
  go_enter Try.func4, Try.ntmps4
  go_wp2_with (first | (go_at_call 6; (with_reducible refine C1.out.mono ?_); rintro e w1 ⟨rfl, hw1⟩; subst hw1) | (go_at_call 7; refine (awake20_any _).mono ?_; rintro e w9 ⟨rfl, hb⟩; replace HB := Lib.hid (HB.out.trans (hb.mono HB.out.size)); clear hb) | fail)
  go_ret
  exact ⟨rfl, HB.out⟩
set_option maxRecDepth 100000 in
set_option maxHeartbeats 16000000 in
theorem diskWhole_b (cap : Int) (l : List Ac) (A : Option Addr) (c : Nat) (y : Ac) (w : World) (hl : l.length ≤ maxLen) (hr : Reads w w.heap.size 7 A l.length (dcs acf l)) (hx : ∀ x ∈ l, AcOk w w.heap.size x) (hy : AcOk w w.heap.size y) (h1 : Few20 l) (h2 : ¬ AcFew (dch y)) : Calls Try.prog 4 #[.int .i64 cap, .slice A l.length c, .agg #[.int .i64 y.dir, .slice y.cA y.cuts.length y.cc, .slice y.mA y.marks.length y.mc]] w fun e w' => e = .returned (.bool true) ∧ Below w.heap.size w w' := by
  have hb1 := (Below.refl w.heap.size w).alloc (Nat.le_refl _) (.cells #[.int .i64 y.dir, .slice y.cA y.cuts.length y.cc, .slice y.mA y.marks.length y.mc] 26)
  have hb2 := hb1.alloc hb1.size (.cells #[.int .i64 0, .int .i64 0, .string ⟨#[]⟩, .string ⟨#[]⟩, .int .i64 y.dir, .slice y.cA y.cuts.length y.cc, .slice y.mA y.marks.length y.mc] 29)
  have hbx := (Blk.new w 26 #[.int .i64 y.dir, .slice y.cA y.cuts.length y.cc, .slice y.mA y.marks.length y.mc]).alloc (.cells #[.int .i64 0, .int .i64 0, .string ⟨#[]⟩, .string ⟨#[]⟩, .int .i64 y.dir, .slice y.cA y.cuts.length y.cc, .slice y.mA y.marks.length y.mc] 29)
  have hrw := Blk.new (w.alloc (.cells #[.int .i64 y.dir, .slice y.cA y.cuts.length y.cc, .slice y.mA y.marks.length y.mc] 26)) 29 #[.int .i64 0, .int .i64 0, .string ⟨#[]⟩, .string ⟨#[]⟩, .int .i64 y.dir, .slice y.cA y.cuts.length y.cc, .slice y.mA y.marks.length y.mc]
  simp only [World.size_alloc] at hrw
  have C1 := Lib.hid (law_few_any l A c true (w.alloc (.cells #[.int .i64 y.dir, .slice y.cA y.cuts.length y.cc, .slice y.mA y.marks.length y.mc] 26)) hl (dReads_on hr hb1) (fun x h => (hx x h).on hb1 |>.more hb1.size) (fun _ => rfl) (fun h => absurd h1 h))
  have C2 := Lib.hid (law_few_any [dch y] (some ⟨w.heap.size + 1, 0, none⟩) 1 false ((w.alloc (.cells #[.int .i64 y.dir, .slice y.cA y.cuts.length y.cc, .slice y.mA y.marks.length y.mc] 26)).alloc (.cells #[.int .i64 0, .int .i64 0, .string ⟨#[]⟩, .string ⟨#[]⟩, .int .i64 y.dir, .slice y.cA y.cuts.length y.cc, .slice y.mA y.marks.length y.mc] 29)) (by simp; unfold maxLen; omega) (act_row (dch y) hrw) (fun x h => by rw [List.mem_singleton] at h; subst h; exact ((hy.dch).on hb2).more hb2.size) (fun h => absurd ((few_one _).1 h) h2) (fun _ => rfl))
  dsimp only [List.length_cons, List.length_nil] at C2
  have HB := Lib.hid hb2
  clear hb1 hb2 hbx hrw hl hr hx hy h1 h2
  go_enter Try.func4, Try.ntmps4
  go_wp2_with (first | (go_at_call 6; (with_reducible refine C1.out.mono ?_); rintro e w1 ⟨rfl, hw1⟩; subst hw1) | (go_at_call 6; (with_reducible refine C2.out.mono ?_); rintro e w1 ⟨rfl, hw1⟩; subst hw1) | (go_at_call 7; refine (awake20_any _).mono ?_; rintro e w9 ⟨rfl, hb⟩; replace HB := Lib.hid (HB.out.trans (hb.mono HB.out.size)); clear hb) | fail)
  go_ret
  exact ⟨rfl, HB.out⟩
set_option maxRecDepth 100000 in
set_option maxHeartbeats 16000000 in
theorem diskWhole_c (cap : Int) (l : List Ac) (A : Option Addr) (c : Nat) (y : Ac) (w : World) (hl : l.length ≤ maxLen) (hr : Reads w w.heap.size 7 A l.length (dcs acf l)) (hx : ∀ x ∈ l, AcOk w w.heap.size x) (hy : AcOk w w.heap.size y) (h1 : Few20 l) (h2 : AcFew (dch y)) (h3 : cap < 0) : Calls Try.prog 4 #[.int .i64 cap, .slice A l.length c, .agg #[.int .i64 y.dir, .slice y.cA y.cuts.length y.cc, .slice y.mA y.marks.length y.mc]] w fun e w' => e = .returned (.bool true) ∧ Below w.heap.size w w' := by
  have hb1 := (Below.refl w.heap.size w).alloc (Nat.le_refl _) (.cells #[.int .i64 y.dir, .slice y.cA y.cuts.length y.cc, .slice y.mA y.marks.length y.mc] 26)
  have hb2 := hb1.alloc hb1.size (.cells #[.int .i64 0, .int .i64 0, .string ⟨#[]⟩, .string ⟨#[]⟩, .int .i64 y.dir, .slice y.cA y.cuts.length y.cc, .slice y.mA y.marks.length y.mc] 29)
  have hbx := (Blk.new w 26 #[.int .i64 y.dir, .slice y.cA y.cuts.length y.cc, .slice y.mA y.marks.length y.mc]).alloc (.cells #[.int .i64 0, .int .i64 0, .string ⟨#[]⟩, .string ⟨#[]⟩, .int .i64 y.dir, .slice y.cA y.cuts.length y.cc, .slice y.mA y.marks.length y.mc] 29)
  have hrw := Blk.new (w.alloc (.cells #[.int .i64 y.dir, .slice y.cA y.cuts.length y.cc, .slice y.mA y.marks.length y.mc] 26)) 29 #[.int .i64 0, .int .i64 0, .string ⟨#[]⟩, .string ⟨#[]⟩, .int .i64 y.dir, .slice y.cA y.cuts.length y.cc, .slice y.mA y.marks.length y.mc]
  simp only [World.size_alloc] at hrw
  have C1 := Lib.hid (law_few_any l A c true (w.alloc (.cells #[.int .i64 y.dir, .slice y.cA y.cuts.length y.cc, .slice y.mA y.marks.length y.mc] 26)) hl (dReads_on hr hb1) (fun x h => (hx x h).on hb1 |>.more hb1.size) (fun _ => rfl) (fun h => absurd h1 h))
  have C2 := Lib.hid (law_few_any [dch y] (some ⟨w.heap.size + 1, 0, none⟩) 1 true ((w.alloc (.cells #[.int .i64 y.dir, .slice y.cA y.cuts.length y.cc, .slice y.mA y.marks.length y.mc] 26)).alloc (.cells #[.int .i64 0, .int .i64 0, .string ⟨#[]⟩, .string ⟨#[]⟩, .int .i64 y.dir, .slice y.cA y.cuts.length y.cc, .slice y.mA y.marks.length y.mc] 29)) (by simp; unfold maxLen; omega) (act_row (dch y) hrw) (fun x h => by rw [List.mem_singleton] at h; subst h; exact ((hy.dch).on hb2).more hb2.size) (fun _ => rfl) (fun h => absurd ((few_one _).2 h2) h))
  dsimp only [List.length_cons, List.length_nil] at C2
  have HB := Lib.hid hb2
  clear hb1 hb2 hbx hrw hl hr hx hy h1 h2
  go_enter Try.func4, Try.ntmps4
  go_wp2_with (first | (go_at_call 6; (with_reducible refine C1.out.mono ?_); rintro e w1 ⟨rfl, hw1⟩; subst hw1) | (go_at_call 6; (with_reducible refine C2.out.mono ?_); rintro e w1 ⟨rfl, hw1⟩; subst hw1) | (go_at_call 7; refine (awake20_any _).mono ?_; rintro e w9 ⟨rfl, hb⟩; replace HB := Lib.hid (HB.out.trans (hb.mono HB.out.size)); clear hb) | fail)
  go_ret
  exact ⟨rfl, HB.out⟩
set_option maxRecDepth 100000 in
set_option maxHeartbeats 16000000 in
theorem diskWhole_d (cap : Int) (l : List Ac) (A : Option Addr) (c : Nat) (y : Ac) (w : World) (hl : l.length ≤ maxLen) (hr : Reads w w.heap.size 7 A l.length (dcs acf l)) (hx : ∀ x ∈ l, AcOk w w.heap.size x) (hy : AcOk w w.heap.size y) (h1 : Few20 l) (h2 : AcFew (dch y)) (h3 : 10000000 < cap) : Calls Try.prog 4 #[.int .i64 cap, .slice A l.length c, .agg #[.int .i64 y.dir, .slice y.cA y.cuts.length y.cc, .slice y.mA y.marks.length y.mc]] w fun e w' => e = .returned (.bool true) ∧ Below w.heap.size w w' := by
  have hb1 := (Below.refl w.heap.size w).alloc (Nat.le_refl _) (.cells #[.int .i64 y.dir, .slice y.cA y.cuts.length y.cc, .slice y.mA y.marks.length y.mc] 26)
  have hb2 := hb1.alloc hb1.size (.cells #[.int .i64 0, .int .i64 0, .string ⟨#[]⟩, .string ⟨#[]⟩, .int .i64 y.dir, .slice y.cA y.cuts.length y.cc, .slice y.mA y.marks.length y.mc] 29)
  have hbx := (Blk.new w 26 #[.int .i64 y.dir, .slice y.cA y.cuts.length y.cc, .slice y.mA y.marks.length y.mc]).alloc (.cells #[.int .i64 0, .int .i64 0, .string ⟨#[]⟩, .string ⟨#[]⟩, .int .i64 y.dir, .slice y.cA y.cuts.length y.cc, .slice y.mA y.marks.length y.mc] 29)
  have hrw := Blk.new (w.alloc (.cells #[.int .i64 y.dir, .slice y.cA y.cuts.length y.cc, .slice y.mA y.marks.length y.mc] 26)) 29 #[.int .i64 0, .int .i64 0, .string ⟨#[]⟩, .string ⟨#[]⟩, .int .i64 y.dir, .slice y.cA y.cuts.length y.cc, .slice y.mA y.marks.length y.mc]
  simp only [World.size_alloc] at hrw
  have C1 := Lib.hid (law_few_any l A c true (w.alloc (.cells #[.int .i64 y.dir, .slice y.cA y.cuts.length y.cc, .slice y.mA y.marks.length y.mc] 26)) hl (dReads_on hr hb1) (fun x h => (hx x h).on hb1 |>.more hb1.size) (fun _ => rfl) (fun h => absurd h1 h))
  have C2 := Lib.hid (law_few_any [dch y] (some ⟨w.heap.size + 1, 0, none⟩) 1 true ((w.alloc (.cells #[.int .i64 y.dir, .slice y.cA y.cuts.length y.cc, .slice y.mA y.marks.length y.mc] 26)).alloc (.cells #[.int .i64 0, .int .i64 0, .string ⟨#[]⟩, .string ⟨#[]⟩, .int .i64 y.dir, .slice y.cA y.cuts.length y.cc, .slice y.mA y.marks.length y.mc] 29)) (by simp; unfold maxLen; omega) (act_row (dch y) hrw) (fun x h => by rw [List.mem_singleton] at h; subst h; exact ((hy.dch).on hb2).more hb2.size) (fun _ => rfl) (fun h => absurd ((few_one _).2 h2) h))
  dsimp only [List.length_cons, List.length_nil] at C2
  have HB := Lib.hid hb2
  clear hb1 hb2 hbx hrw hl hr hx hy h1 h2
  have h4 : ¬ cap < 0 := by omega
  go_enter Try.func4, Try.ntmps4
  go_wp2_with (first | (go_at_call 6; (with_reducible refine C1.out.mono ?_); rintro e w1 ⟨rfl, hw1⟩; subst hw1) | (go_at_call 6; (with_reducible refine C2.out.mono ?_); rintro e w1 ⟨rfl, hw1⟩; subst hw1) | (go_at_call 7; refine (awake20_any _).mono ?_; rintro e w9 ⟨rfl, hb⟩; replace HB := Lib.hid (HB.out.trans (hb.mono HB.out.size)); clear hb) | fail)
  go_ret
  exact ⟨rfl, HB.out⟩
set_option maxRecDepth 100000 in
set_option maxHeartbeats 64000000 in
theorem diskWhole_e (cap : Int) (l : List Ac) (A : Option Addr) (c : Nat) (y : Ac) (w : World) (hl : l.length ≤ maxLen) (hr : Reads w w.heap.size 7 A l.length (dcs acf l)) (hx : ∀ x ∈ l, AcOk w w.heap.size x) (hy : AcOk w w.heap.size y) (h1 : Few20 l) (h2 : AcFew (dch y)) (h3 : 0 ≤ cap ∧ cap ≤ 10000000) : Calls Try.prog 4 #[.int .i64 cap, .slice A l.length c, .agg #[.int .i64 y.dir, .slice y.cA y.cuts.length y.cc, .slice y.mA y.marks.length y.mc]] w fun e w' => e = .returned (.bool true) ∧ Below w.heap.size w w' := by
  have hb1 := (Below.refl w.heap.size w).alloc (Nat.le_refl _) (.cells #[.int .i64 y.dir, .slice y.cA y.cuts.length y.cc, .slice y.mA y.marks.length y.mc] 26)
  have hb2 := hb1.alloc hb1.size (.cells #[.int .i64 0, .int .i64 0, .string ⟨#[]⟩, .string ⟨#[]⟩, .int .i64 y.dir, .slice y.cA y.cuts.length y.cc, .slice y.mA y.marks.length y.mc] 29)
  have hbx := (Blk.new w 26 #[.int .i64 y.dir, .slice y.cA y.cuts.length y.cc, .slice y.mA y.marks.length y.mc]).alloc (.cells #[.int .i64 0, .int .i64 0, .string ⟨#[]⟩, .string ⟨#[]⟩, .int .i64 y.dir, .slice y.cA y.cuts.length y.cc, .slice y.mA y.marks.length y.mc] 29)
  have hrw := Blk.new (w.alloc (.cells #[.int .i64 y.dir, .slice y.cA y.cuts.length y.cc, .slice y.mA y.marks.length y.mc] 26)) 29 #[.int .i64 0, .int .i64 0, .string ⟨#[]⟩, .string ⟨#[]⟩, .int .i64 y.dir, .slice y.cA y.cuts.length y.cc, .slice y.mA y.marks.length y.mc]
  simp only [World.size_alloc] at hrw
  have C1 := Lib.hid (law_few_any l A c true (w.alloc (.cells #[.int .i64 y.dir, .slice y.cA y.cuts.length y.cc, .slice y.mA y.marks.length y.mc] 26)) hl (dReads_on hr hb1) (fun x h => (hx x h).on hb1 |>.more hb1.size) (fun _ => rfl) (fun h => absurd h1 h))
  have C2 := Lib.hid (law_few_any [dch y] (some ⟨w.heap.size + 1, 0, none⟩) 1 true ((w.alloc (.cells #[.int .i64 y.dir, .slice y.cA y.cuts.length y.cc, .slice y.mA y.marks.length y.mc] 26)).alloc (.cells #[.int .i64 0, .int .i64 0, .string ⟨#[]⟩, .string ⟨#[]⟩, .int .i64 y.dir, .slice y.cA y.cuts.length y.cc, .slice y.mA y.marks.length y.mc] 29)) (by simp; unfold maxLen; omega) (act_row (dch y) hrw) (fun x h => by rw [List.mem_singleton] at h; subst h; exact ((hy.dch).on hb2).more hb2.size) (fun _ => rfl) (fun h => absurd ((few_one _).2 h2) h))
  dsimp only [List.length_cons, List.length_nil] at C2
  have PN := Lib.hid fun W => p_dnew_yes cap W h3
  have HB2 := Lib.hid hb2
  have HBx := Lib.hid hbx
  have HC : Hid (0 < l.length → ∃ b off, A = some ⟨b, off, none⟩ ∧ b < w.heap.size ∧ ∀ i (hi : i < l.length), ∀ j u, (acf l[i])[j]? = some u → w.cell? ⟨b, off + i * 7 + j, none⟩ = some u) := Lib.hid fun h => act_cells hr rfl h
  have HX : Hid (∀ j (hj : j < l.length), AcOk w w.heap.size l[j] ∧ AcFew l[j]) := Lib.hid fun j hj => ⟨hx _ (List.getElem_mem hj), h1.2 _ (List.getElem_mem hj)⟩
  have HY := Lib.hid hy
  have HYm : Hid (∀ m ∈ y.marks, m.length ≤ 100000) := Lib.hid fun m hm => by have := h2.2.2.2 m hm; omega
  have hn60 := h1.1
  have hc1 : ¬ cap < 0 := by omega
  have hc2 : ¬ 10000000 < cap := by omega
  have HSm0 := Lib.hid (dsm_new cap h3)
  have HFi0 : Hid (DFits (dnew cap)) := Lib.hid (dnew_fits h3.1)
  obtain ⟨n, hln⟩ : ∃ n, l.length = n := ⟨_, rfl⟩
  have HL := Lib.hid hln
  rw [hln] at C1 hn60 ⊢
  clear hb1 hb2 hbx hrw hl hr hx hy h1 h2 hln
  go_enter Try.func4, Try.ntmps4
  go_wp2_with (first | (go_at_call 6; (with_reducible refine C1.out.mono ?_); rintro e w1 ⟨rfl, hw1⟩; subst hw1) | (go_at_call 6; (with_reducible refine C2.out.mono ?_); rintro e w1 ⟨rfl, hw1⟩; subst hw1) | (go_at_call 8; (with_reducible refine (PN.out _).mono ?_); rintro e w3 ⟨g, S0, rfl, hd, hs, hb⟩; have HA0 := Lib.hid (DAt.mk hd HSm0.out hs hb : DAt ((w.alloc (.cells #[.int .i64 y.dir, .slice y.cA y.cuts.length y.cc, .slice y.mA y.marks.length y.mc] 26)).alloc (.cells #[.int .i64 0, .int .i64 0, .string ⟨#[]⟩, .string ⟨#[]⟩, .int .i64 y.dir, .slice y.cA y.cuts.length y.cc, .slice y.mA y.marks.length y.mc] 29)) w3 S0 g (dnew cap) 0); clear hd hs hb PN) | fail)
  generalize ((w.alloc (.cells #[.int .i64 y.dir, .slice y.cA y.cuts.length y.cc, .slice y.mA y.marks.length y.mc] 26)).alloc (.cells #[.int .i64 0, .int .i64 0, .string ⟨#[]⟩, .string ⟨#[]⟩, .int .i64 y.dir, .slice y.cA y.cuts.length y.cc, .slice y.mA y.marks.length y.mc] 29)) = w2 at *
  have hcap0 : Hid ((dnew cap).cap = cap) := Lib.hid rfl
  go_loopw [9, 10] (fun fv iv wr => ∃ (i : Nat) (S : Nat → Prop) (E : Dk) (fb : Bool), i ≤ n ∧ iv = .int .i64 (i : Int) ∧ fv = .bool fb ∧ Hid (E.cap = cap) ∧ Hid (fb = false → DFits E) ∧ Hid (DAt w2 wr S g E i)) (fun _ iv _ => n - (intOf iv).toNat)
  case atStart => exact ⟨0, S0, dnew cap, false, by omega, rfl, rfl, hcap0, Lib.hid fun _ => HFi0.out, HA0⟩
  case round =>
    obtain ⟨i, S, E, fb, hi, rfl, rfl, HCap, HFi, HD⟩ := hrel
    by_cases hlt : i < n
    · have hil : i < l.length := by have := HL.out; omega
      obtain ⟨b, off, rfl, hb, hcell⟩ := HC.out (by omega)
      obtain ⟨hok, hfew⟩ := HX.out i hil
      have hcl : ∀ W, Below w.heap.size w W → ∀ j u, (acf l[i])[j]? = some u → W.cell? ⟨b, off + i * 7 + j, none⟩ = some u := fun W hW j u hu => (hW.cell (p := ⟨b, off + i * 7 + j, none⟩) hb).trans (hcell i hil j u hu)
      have hii : (0 : Int) ≤ (i : Int) ∧ (i : Int) < (n : Int) := by omega
      generalize l[i] = x at *
      have HDo := Lib.hid (dwh_do HD.out HB2.out (by omega) x hok hfew)
      have HCap2 : Hid ((dDoF E x).1.cap = cap) := Lib.hid (by rw [ddo_cap]; exact HCap.out)
      have HFi2 : Hid (fb = false → x.kind ≠ 9 → DFits (dDoF E x).1) := Lib.hid fun h1 h2 => ddo_fits HD.out.sm.hist (HFi.out h1) x h2
      have HSm2 := Lib.hid (dsm_do HD.out.sm x hok.num.2)
      have HCl := Lib.hid hcl
      have HUs : Hid (∀ W S2, DAt w2 W S2 g (dDoF E x).1 (i + 1) → Calls Try.prog 17 #[.pointer (some ⟨g, 0, none⟩)] W fun e w' => e = .returned (.int .i64 (if (dDoF E x).1.dead = true then 0 else ((dDoF E x).1.used : Int))) ∧ Below W.heap.size W w') := Lib.hid fun W S2 h => p_dused_any W h.dr (h.sm.more (by omega))
      have hct := hcl wr (HD.out.out HB2.out)
      obtain ⟨kind, nn, s, u, dir, cuts, marks, cA, cc, mA, mc⟩ := x
      have c0 := hct 0 _ rfl; have c1 := hct 1 _ rfl; have c2 := hct 2 _ rfl; have c3 := hct 3 _ rfl; have c4 := hct 4 _ rfl; have c5 := hct 5 _ rfl; have c6 := hct 6 _ rfl
      dsimp only [acf] at HDo c0 c1 c2 c3 c4 c5 c6
      rw [Nat.add_zero] at c0
      dsimp only at HFi2
      clear hcl hct hok hfew hcell hb
      generalize dDoF E ⟨kind, nn, s, u, dir, cuts, marks, cA, cc, mA, mc⟩ = R at *
      obtain ⟨E2, r2⟩ := R
      dsimp only at HDo HCap2 HFi2 HSm2 HUs
      by_cases hk9 : kind = 9
      · have q9 : (kind == 9) = true := by rw [beq_iff_eq]; exact hk9
        subst hk9
        cases fb with
        | true =>
          go_wp2_with (first | (go_at_call 9; (with_reducible refine HDo.out.mono ?_); rintro e w9 ⟨rfl, ho⟩; obtain ⟨S9, hA9, -, -⟩ := HD.out.op ho HSm2.out; have HD9 := Lib.hid hA9; clear c0; have c0 := HCl.out w9 (hA9.out HB2.out) 0 _ rfl; rw [Nat.add_zero] at c0; dsimp only [acf] at c0; clear hA9 ho HDo) | fail)
          go_roundw
          case rel => exact ⟨i + 1, S9, E2, true, by omega, iv (by omega), rfl, HCap2, Lib.hid (fun h => by cases h), HD9⟩
          case measure => simp only [intOf]; omega
        | false =>
          go_wp2_with (first | (go_at_call 9; (with_reducible refine HDo.out.mono ?_); rintro e w9 ⟨rfl, ho⟩; obtain ⟨S9, hA9, -, -⟩ := HD.out.op ho HSm2.out; have HD9 := Lib.hid hA9; clear c0; have c0 := HCl.out w9 (hA9.out HB2.out) 0 _ rfl; rw [Nat.add_zero] at c0; dsimp only [acf] at c0; clear hA9 ho HDo) | fail)
          go_roundw
          case rel => exact ⟨i + 1, S9, E2, true, by omega, iv (by omega), rfl, HCap2, Lib.hid (fun h => by cases h), HD9⟩
          case measure => simp only [intOf]; omega
      · have q9 : (kind == 9) = false := by rw [beq_eq_false_iff_ne]; exact hk9
        cases fb with
        | true =>
          go_wp2_with (first | (go_at_call 9; (with_reducible refine HDo.out.mono ?_); rintro e w9 ⟨rfl, ho⟩; obtain ⟨S9, hA9, -, -⟩ := HD.out.op ho HSm2.out; have HD9 := Lib.hid hA9; clear c0; have c0 := HCl.out w9 (hA9.out HB2.out) 0 _ rfl; rw [Nat.add_zero] at c0; dsimp only [acf] at c0; clear hA9 ho HDo) | fail)
          go_roundw
          case rel => exact ⟨i + 1, S9, E2, true, by omega, iv (by omega), rfl, HCap2, Lib.hid (fun h => by cases h), HD9⟩
          case measure => simp only [intOf]; omega
        | false =>
          have HF3 := Lib.hid (HFi2.out rfl hk9)
          obtain ⟨us, hus⟩ : ∃ us : Int, (if E2.dead = true then 0 else (E2.used : Int)) = us := ⟨_, rfl⟩
          have hle : ¬ cap < us := by
            rw [← hus]
            split
            · omega
            · have h5 := HF3.out
              have h6 := HCap2.out
              unfold DFits at h5
              omega
          rw [hus] at HUs
          clear hus
          go_wp2_with (first | (go_at_call 9; (with_reducible refine HDo.out.mono ?_); rintro e w9 ⟨rfl, ho⟩; obtain ⟨S9, hA9, -, -⟩ := HD.out.op ho HSm2.out; have HD9 := Lib.hid hA9; clear c0; have c0 := HCl.out w9 (hA9.out HB2.out) 0 _ rfl; rw [Nat.add_zero] at c0; dsimp only [acf] at c0; clear hA9 ho HDo) | (go_at_call 17; (with_reducible refine (HUs.out _ _ HD9.out).mono ?_); rintro e w10 ⟨rfl, hb⟩; replace HD9 := Lib.hid (HD9.out.on hb); clear hb) | fail)
          go_roundw
          case rel => exact ⟨i + 1, S9, E2, false, by omega, iv (by omega), rfl, HCap2, Lib.hid fun _ => HF3.out, HD9⟩
          case measure => simp only [intOf]; omega
    · obtain rfl : i = n := by omega
      have hz : ¬ (i : Int) < (i : Int) := by omega
      clear HCap HFi HC HX
      obtain ⟨dd, hdd⟩ : ∃ dd, E.dead = dd := ⟨_, rfl⟩
      have HDd := Lib.hid hdd
      have HOn : Hid (Calls Try.prog 18 #[.pointer (some ⟨g, 0, none⟩)] wr fun e w' => e = .returned (.bool (!dd)) ∧ Below wr.heap.size wr w') := Lib.hid (by have := p_don_any wr HD.out.dr (HD.out.sm.more (by omega)); rw [hdd] at this; exact this)
      clear hdd
      go_upto_if 78 with (first | (go_at_call 18; (with_reducible refine HOn.out.mono ?_); rintro e w10 ⟨rfl, hb⟩; replace HD := Lib.hid (HD.out.on hb); clear hb HOn) | fail)
      go_cut [] (fun wx => ∃ (S2 : Nat → Prop) (E2 : Dk), Hid (DAt w2 wx S2 g E2 100) ∧ Hid (E2.dead = false))
      case first =>
        cases dd with
        | false =>
          go_wp2_with fail
          go_meet
          case rel => exact ⟨S, E, Lib.hid (HD.out.more (by omega)), HDd⟩
        | true =>
          have HBo := Lib.hid (dwh_boot HD.out HB2.out (by omega) y HY.out HYm.out)
          have k0 := (HBx.out.below HD.out.below HBx.out.lt).cell 0; have k1 := (HBx.out.below HD.out.below HBx.out.lt).cell 1; have k2 := (HBx.out.below HD.out.below HBx.out.lt).cell 2; simp only [List.getElem?_toArray, List.getElem?_cons_zero, List.getElem?_cons_succ] at k0 k1 k2
          go_wp2_with (first | (go_at_call 14; (with_reducible refine HBo.out.mono ?_); rintro e w11 ⟨rfl, ho⟩; obtain ⟨S11, hA, -, -⟩ := HD.out.op ho (dsm_boot HD.out.sm y.dir y.cuts y.marks); have HD11 := Lib.hid (hA.more (by omega : i + 1 ≤ 100)); clear hA ho HBo) | fail)
          go_meet
          case rel => exact ⟨S11, _, HD11, Lib.hid rfl⟩
      case rest =>
        obtain ⟨S2, E2, HD2, HAl⟩ := hcut
        clear HD HDd
        have HLs := Lib.hid (p_dlist_any wc HD2.out.dr (HD2.out.sm.more (by omega)))
        have hdl : (dlistF E2).length ≤ 100 := by
          have := HD2.out.sm.dir
          unfold dlistF
          split
          · simp
          · rw [List.length_map]; omega
        obtain ⟨N, hN⟩ : ∃ N, dlistF E2 = N := ⟨_, rfl⟩
        have HNm := Lib.hid hN
        rw [hN] at HLs hdl
        clear hN
        go_wp2_with (first | (go_at_call 10; (with_reducible refine HLs.out.mono ?_); rintro e w11 ⟨A5, c5, rfl, hc5, hr5, hn5, hb5⟩; have HK5 := Lib.hid (HD2.out.kp hr5 hn5); replace HD2 := Lib.hid (HD2.out.on hb5); clear hr5 hn5 hb5 HLs) | fail)
        have HD0 : Hid (DAt w2 w11 S2 g (dsyncs E2 (N.take 0)) (100 + 0)) := HD2
        obtain ⟨nl, hnl⟩ : ∃ nl, N.length = nl := ⟨_, rfl⟩
        have HNl := Lib.hid hnl
        rw [hnl] at HK5 hdl
        simp only [hnl]
        clear hnl
        go_loopw [12] (fun kv wr => ∃ (k : Nat) (S : Nat → Prop), k ≤ nl ∧ kv = .int .i64 (k : Int) ∧ Hid (DAt w2 wr S g (dsyncs E2 (N.take k)) (100 + k)) ∧ Hid (DKp wr S 1 A5 nl (dcs sfc N))) (fun kv _ => nl - (intOf kv).toNat)
        case atStart => exact ⟨0, S2, by omega, rfl, HD0, HK5⟩
        case round =>
          obtain ⟨k, S, hk, rfl, HD, HK⟩ := hrel
          by_cases hlt : k < nl
          · have hkl : k < N.length := by have := HNl.out; omega
            obtain ⟨b, off, e5, hb, hcell⟩ := txt_cells HK.out.row HNl.out (by omega)
            have y0 := hcell k hkl
            have hki : (0 : Int) ≤ (k : Int) ∧ (k : Int) < (nl : Int) := by omega
            have hsn := Lib.hid (dsyncs_snoc E2 N k hkl)
            have hsy := p_dsync_any wr HD.out.dr (HD.out.sm.more (by omega)) N[k] (by have h9 := HD2.out.dr.listed HD2.out.sm; rw [HNm.out] at h9; exact h9 _ (List.getElem_mem hkl))
            have HSm := Lib.hid (dsm_sync HD.out.sm N[k])
            generalize (dsyncF (dsyncs E2 (N.take k)) N[k]).2 = rr at *
            generalize (dsyncF (dsyncs E2 (N.take k)) N[k]).1 = G at *
            generalize N[k] = s at *
            have HSy := Lib.hid hsy
            clear hcell hsy hb
            subst e5
            go_wp2_with (first | (go_at_call 11; (with_reducible refine HSy.out.mono ?_); rintro e w12 ⟨rfl, ho⟩; obtain ⟨S12, hA, hT, hS⟩ := HD.out.op ho HSm.out; have HD12 := Lib.hid hA; have HK12 := Lib.hid (HK.out.op hT hS); clear hA hT hS ho HSy) | fail)
            go_roundw
            case rel => exact ⟨k + 1, S12, by omega, iv (by omega), by rw [hsn.out]; exact HD12, HK12⟩
            case measure => simp only [intOf]; omega
          · obtain rfl : k = nl := by omega
            have hz : ¬ (k : Int) < (k : Int) := by omega
            have e9 : N.take k = N := List.take_of_length_le (by have := HNl.out; omega)
            rw [e9] at HD
            clear e9 HK
            have hG : dsyncs E2 N = dsyncs E2 (dlistF E2) := by rw [HNm.out]
            have HW : Hid ((ddirF (dsyncs E2 N)).1.dead = false → dbootF (doffF (ddirF (dsyncs E2 N)).1) y.dir y.cuts y.marks = { (ddirF (dsyncs E2 N)).1 with armed := 0 } ∧ (ddirF (dsyncs E2 N)).1.chg = []) := Lib.hid (by rw [hG]; exact fun h => dwhole_sync HD2.out.sm.hist HAl.out h y.dir y.cuts y.marks)
            clear hG
            generalize dsyncs E2 N = G at *
            have HD400 := Lib.hid (HD.out.more (by omega : 100 + k ≤ 400))
            have hdi := p_ddirs_any wr HD400.out.dr (HD400.out.sm.more (by omega))
            have HSd := Lib.hid (dsm_dirs HD400.out.sm)
            clear HD HD2
            generalize (ddirF G).2 = rr at *
            generalize (ddirF G).1 = F at *
            have HDi := Lib.hid hdi
            clear hdi
            have POn : Hid (∀ W S, DAt w2 W S g F 401 → Calls Try.prog 18 #[.pointer (some ⟨g, 0, none⟩)] W fun e w' => e = .returned (.bool (!F.dead)) ∧ Below W.heap.size W w') := Lib.hid fun W S h => p_don_any W h.dr (h.sm.more (by omega))
            obtain ⟨fd, hfd⟩ : ∃ fd, F.dead = fd := ⟨_, rfl⟩
            cases fd with
            | true =>
              rw [hfd] at POn
              clear hfd HW
              go_wp2_with (first | (go_at_call 12; (with_reducible refine HDi.out.mono ?_); rintro e w13 ⟨rfl, ho⟩; obtain ⟨S13, hA, -, -⟩ := HD400.out.op ho HSd.out; have HD := Lib.hid hA; clear hA ho HDi) | (go_at_call 18; (with_reducible refine (POn.out _ _ HD.out).mono ?_); rintro e w14 ⟨rfl, hb⟩; replace HD := Lib.hid (HD.out.on hb); clear hb POn) | (go_at_call 7; refine (awake20_any _).mono ?_; rintro e w19 ⟨rfl, hb⟩; replace HD := Lib.hid (HD.out.on hb); clear hb) | fail)
              go_ret
              exact ⟨rfl, HD.out.out HB2.out⟩
            | false =>
              obtain ⟨hw1, hw2⟩ := HW.out hfd
              rw [hfd] at POn
              have PA1 : Hid (∀ W S, DAt w2 W S g F 401 → Calls Try.prog 13 #[.pointer (some ⟨g, 0, none⟩)] W fun e w' => DTwo W w' e (dlistF F) (dtextsF F)) := Lib.hid fun W S h => law_all_any W h.dr (h.sm.more (by omega))
              have POf : Hid (∀ W S, DAt w2 W S g F 401 → Calls Try.prog 19 #[.pointer (some ⟨g, 0, none⟩)] W fun e w' => e = .returned (.int .i64 0) ∧ DOp W w' S g (doffF F)) := Lib.hid fun W S h => p_doff_any W h.dr (h.sm.more (by omega))
              have PLi : Hid (∀ W S, DAt w2 W S g (doffF F) 402 → Calls Try.prog 10 #[.pointer (some ⟨g, 0, none⟩)] W fun e w' => ∃ A c, e = .returned (.slice A 0 c) ∧ Below W.heap.size W w') := Lib.hid fun W S h => by
                refine (p_dlist_any W h.dr (h.sm.more (by omega))).mono fun e w9 he => ?_
                obtain ⟨A, c, h1, _, _, _, h5⟩ := he
                rw [show dlistF (doffF F) = [] from rfl] at h1
                exact ⟨A, c, h1, h5⟩
              have PBo : Hid (∀ W S, DAt w2 W S g (doffF F) 402 → Calls Try.prog 14 #[.pointer (some ⟨g, 0, none⟩), .agg (chf y).toArray] W fun e w' => e = .returned (.int .i64 0) ∧ DOp W w' S g { F with armed := 0 }) := Lib.hid fun W S h => by
                have := dwh_boot h HB2.out (by omega) y HY.out HYm.out
                rw [hw1] at this
                exact this
              have HSb : Hid (∀ W S, DAt w2 W S g (doffF F) 402 → DSm 403 { F with armed := 0 }) := Lib.hid fun W S h => by
                have := dsm_boot h.sm y.dir y.cuts y.marks
                rw [hw1] at this
                exact this
              have PA2 : Hid (∀ W S, DAt w2 W S g { F with armed := 0 } 403 → Calls Try.prog 13 #[.pointer (some ⟨g, 0, none⟩)] W fun e w' => DTwo W w' e (dlistF F) (dtextsF F)) := Lib.hid fun W S h => by have := law_all_any (D := { F with armed := 0 }) W h.dr (h.sm.more (by omega : 403 ≤ 1000)); exact this
              have PPe : Hid (∀ W S, DAt w2 W S g { F with armed := 0 } 403 → Calls Try.prog 21 #[.pointer (some ⟨g, 0, none⟩)] W fun e w' => e = .returned (.int .i64 0) ∧ Below W.heap.size W w') := Lib.hid fun W S h => by
                have := p_dpend_any W h.dr (h.sm.more (by omega))
                dsimp only at this
                rw [hfd, if_neg (by decide), hw2] at this
                exact this
              have hlen : (dlistF F).length ≤ 1000 ∧ (dtextsF F).length ≤ 1000 := by
                have h1 : (dlistF F).length ≤ 1000 := by
                  have := HSd.out.dir
                  unfold dlistF
                  split
                  · simp
                  · rw [List.length_map]; omega
                exact ⟨h1, by unfold dtextsF; rw [List.length_map]; exact h1⟩
              obtain ⟨hl1, hl2⟩ := hlen
              generalize dtextsF F = Ts at *
              generalize dlistF F = Ls at *
              clear HW hw1 hw2 hfd
              dsimp only [chf] at PBo
              go_wp2_with (first | (go_at_call 12; (with_reducible refine HDi.out.mono ?_); rintro e w13 ⟨rfl, ho⟩; obtain ⟨S13, hA, -, -⟩ := HD400.out.op ho HSd.out; have HD := Lib.hid hA; clear hA ho HDi) | (go_at_call 18; (with_reducible refine (POn.out _ _ HD.out).mono ?_); rintro e w14 ⟨rfl, hb⟩; replace HD := Lib.hid (HD.out.on hb); clear hb POn) | (go_at_call 13; (with_reducible refine (PA1.out _ _ HD.out).mono ?_); rintro e w20 ⟨Aa, ca, Ab, cb, rfl, ra, rb, na, nb, hb⟩; have HKa := Lib.hid (HD.out.kp ra na); have HKb := Lib.hid (HD.out.kp rb nb); replace HD := Lib.hid (HD.out.on hb); clear hb ra rb na nb PA1) | (go_at_call 19; (with_reducible refine (POf.out _ _ HD.out).mono ?_); rintro e w21 ⟨rfl, ho⟩; obtain ⟨S21, hA, hT, hS⟩ := HD.out.op ho (dsm_off HD.out.sm); replace HKa := Lib.hid (HKa.out.op hT hS); replace HKb := Lib.hid (HKb.out.op hT hS); clear HD ho POf hT hS; have HD := Lib.hid hA; clear hA) | (go_at_call 10; (with_reducible refine (PLi.out _ _ HD.out).mono ?_); rintro e w22 ⟨A22, c22, rfl, hb⟩; replace HKa := Lib.hid (HKa.out.on hb); replace HKb := Lib.hid (HKb.out.on hb); replace HD := Lib.hid (HD.out.on hb); clear hb PLi; have k0 := (HBx.out.below HD.out.below HBx.out.lt).cell 0; have k1 := (HBx.out.below HD.out.below HBx.out.lt).cell 1; have k2 := (HBx.out.below HD.out.below HBx.out.lt).cell 2; simp only [List.getElem?_toArray, List.getElem?_cons_zero, List.getElem?_cons_succ] at k0 k1 k2) | (go_at_call 14; (with_reducible refine (PBo.out _ _ HD.out).mono ?_); rintro e w23 ⟨rfl, ho⟩; obtain ⟨S23, hA, hT, hS⟩ := HD.out.op ho (HSb.out _ _ HD.out); replace HKa := Lib.hid (HKa.out.op hT hS); replace HKb := Lib.hid (HKb.out.op hT hS); clear HD ho PBo hT hS; have HD := Lib.hid hA; clear hA) | (go_at_call 13; (with_reducible refine (PA2.out _ _ HD.out).mono ?_); rintro e w24 ⟨Ax, cx, Ay, cy, rfl, rx, ry, -, -, hb⟩; have HRx := Lib.hid rx; have HRy := Lib.hid ry; replace HKa := Lib.hid (HKa.out.on hb); replace HKb := Lib.hid (HKb.out.on hb); replace HD := Lib.hid (HD.out.on hb); clear hb rx ry PA2) | (go_at_call 20; (with_reducible refine (law_same_yes Ls _ _ _ _ _ (by omega) HKa.out.row HRx.out).mono ?_); rintro e w25 ⟨rfl, hb⟩; have HRz := Lib.hid (dReads_on HRy.out hb); replace HKb := Lib.hid (HKb.out.on hb); replace HD := Lib.hid (HD.out.on hb); clear hb HRx HKa) | (go_at_call 20; (with_reducible refine (law_same_yes Ts _ _ _ _ _ (by omega) HKb.out.row HRz.out).mono ?_); rintro e w26 ⟨rfl, hb⟩; replace HD := Lib.hid (HD.out.on hb); clear hb HRz HKb) | (go_at_call 21; (with_reducible refine (PPe.out _ _ HD.out).mono ?_); rintro e w27 ⟨rfl, hb⟩; replace HD := Lib.hid (HD.out.on hb); clear hb PPe) | (go_at_call 7; refine (awake20_any _).mono ?_; rintro e w19 ⟨rfl, hb⟩; replace HD := Lib.hid (HD.out.on hb); clear hb) | fail)
              go_ret
              exact ⟨rfl, HD.out.out HB2.out⟩
theorem diskWhole_walk (cap : Int) (l : List Ac) (A : Option Addr) (c : Nat) (y : Ac) (w : World) (hl : l.length ≤ maxLen) (hr : Reads w w.heap.size 7 A l.length (dcs acf l)) (hx : ∀ x ∈ l, AcOk w w.heap.size x) (hy : AcOk w w.heap.size y) : Calls Try.prog 4 #[.int .i64 cap, .slice A l.length c, .agg (chf y).toArray] w fun e w' => e = .returned (.bool true) ∧ Below w.heap.size w w' := by
  by_cases h1 : Few20 l
  · by_cases h2 : AcFew (dch y)
    · by_cases h3 : cap < 0
      · exact diskWhole_c cap l A c y w hl hr hx hy h1 h2 h3
      · by_cases h4 : 10000000 < cap
        · exact diskWhole_d cap l A c y w hl hr hx hy h1 h2 h4
        · exact diskWhole_e cap l A c y w hl hr hx hy h1 h2 (by omega)
    · exact diskWhole_b cap l A c y w hl hr hx hy h1 h2
  · exact diskWhole_a cap l A c y w hl hr hx hy h1
namespace DiskWhole
set_option maxRecDepth 100000 in
theorem lifted (os : Os) (started : os.Started) (H : Type) (enc : TypeId × Value → H) :
    ReturnsInHanded {} Try.checked os 4 .any (Rows.diskWholeSpec.pre6 enc Try.prog Try.f4 Rows.diskWholeRow.domain false) (Rows.diskWholeSpec.post enc Try.prog Try.f4 false true false false) := by
  refine law_sized (C := Try.checked) (tb := 4) ownP started (by kernel_rfl) Try.func4
    (ChangeSpec.witness6 (enc := enc) (C := Try.checked) false ⟨#[], #[.int .i64 0, .slice none 0 0, .agg #[.int .i64 0, .slice none 0 0, .slice none 0 0]], []⟩ 8 (by kernel_rfl) (by kernel_rfl) (by kernel_rfl) (by kernel_rfl))
    laidP (by kernel_rfl) rfl (by kernel_rfl) Try.underlying4 (by intro ds h; match ds, h with | [_, _, _], _ => rfl) ?_
  intro W base args ds p hval0 hA0 hlt _
  have hval : ∀ (j : Nat) t v, Try.f4.params[j]? = some t → args[j]? = some v → Value.okWide Try.prog W .any base t v := hval0
  have hA : DataW.TrodAll enc Try.prog W 0 (fun _ => true) true Try.f4.params.toList args.toList ds p := hA0
  rw [Try.params4] at hA hval
  obtain ⟨v0, v1, v2, d0, d1, d2, p0, p1, p2, rfl, rfl, rfl, h0, h1, h2⟩ := trodAll_three hA
  obtain ⟨cap, rfl, rfl, rfl, wcap⟩ := open_int Try.underlying3 (hval 0 3 v0 rfl rfl) h0
  obtain ⟨Al, l, cl, rfl, ml, rl, hl⟩ := open_acts (hval 1 22 v1 rfl rfl) h1
  obtain ⟨y, rfl, hy⟩ := open_choice (hval 2 26 v2 rfl rfl) h2
  exact diskWhole_walk cap l Al cl y W ml rl hl hy
theorem holds : Rows.DiskWholeSaid :=
  OpenClaim.holds_of_wide 4 Try.f4 rfl rfl rfl rfl rfl rfl rfl ⟨rfl, rfl, rfl, rfl, rfl⟩ rfl rfl rfl rfl rfl (by kernel_rfl) Try.func4 (by kernel_rfl)
    (of_decide_eq_true (by kernel_rfl)) (by unfold Func.isWrapper; first | (rw [if_pos (by decide +kernel)]; kernel_rfl) | (rw [if_neg (by decide +kernel)]; exact ⟨rfl, rfl⟩))
    (fun os started H enc _ => lifted os started H enc)
end DiskWhole
end Go.Proofs.Ytgoahcmgpjacjaa
