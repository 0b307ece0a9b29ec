/-
  What was synced, by a name that was synced, is there behind any fall, if no act cut, removed, renamed or replaced it; the layer's probe holds (DiskSafe). No condition.
-/
import Derived.Test.YtgoahcmgpjacjaaDisWi
import Derived.Test.YtgoahcmgpjacjaaDisSf
import Derived.Test.YtgoahcmgpjacjaaFrame
import Derived.Deep.QuietTactic
import Derived.BigQuiet
namespace Go.Proofs.Ytgoahcmgpjacjaa
set_option linter.unusedSimpArgs false
set_option linter.unusedVariables false
open Go.ChangeShapes Go.WideShapes Go.ChangeAt Go.RowKit Go.Joins Go.Deep
set_option maxRecDepth 100000 in
set_option maxHeartbeats 16000000 in
theorem diskSafe_a (l : List Ac) (A : Option Addr) (c : Nat) (q : List Ac) (Aq : Option Addr) (cq : Nat) (y : Ac) (w : World) (hl : l.length ≤ maxLen) (hr : Reads w w.heap.size 7 A l.length (dcs acf l)) (hx : ∀ x ∈ l, AcOk w w.heap.size x) (hlq : q.length ≤ maxLen) (hrq : Reads w w.heap.size 7 Aq q.length (dcs acf q)) (hxq : ∀ x ∈ q, AcOk w w.heap.size x) (hy : AcOk w w.heap.size y) (h1 : ¬ Few20 l) : Calls Try.prog 3 #[.slice A l.length c, .slice Aq q.length cq, .agg #[.int .i64 y.dir, .slice y.cA y.cuts.length y.cc, .slice y.mA y.marks.length y.mc]] w fun e w' => e = .returned (.bool true) ∧ Below w.heap.size w w' := by
  have hb1 := (Below.refl w.heap.size w).alloc (Nat.le_refl _) (.cells #[.int .i64 y.dir, .slice y.cA y.cuts.length y.cc, .slice y.mA y.marks.length y.mc] 26)
  have hb2 := hb1.alloc hb1.size (.cells #[.int .i64 0, .int .i64 0, .string ⟨#[]⟩, .string ⟨#[]⟩, .int .i64 y.dir, .slice y.cA y.cuts.length y.cc, .slice y.mA y.marks.length y.mc] 29)
  have hbx := (Blk.new w 26 #[.int .i64 y.dir, .slice y.cA y.cuts.length y.cc, .slice y.mA y.marks.length y.mc]).alloc (.cells #[.int .i64 0, .int .i64 0, .string ⟨#[]⟩, .string ⟨#[]⟩, .int .i64 y.dir, .slice y.cA y.cuts.length y.cc, .slice y.mA y.marks.length y.mc] 29)
  have hrw := Blk.new (w.alloc (.cells #[.int .i64 y.dir, .slice y.cA y.cuts.length y.cc, .slice y.mA y.marks.length y.mc] 26)) 29 #[.int .i64 0, .int .i64 0, .string ⟨#[]⟩, .string ⟨#[]⟩, .int .i64 y.dir, .slice y.cA y.cuts.length y.cc, .slice y.mA y.marks.length y.mc]
  simp only [World.size_alloc] at hrw
  have C1 := Lib.hid (law_few_any l A c false (w.alloc (.cells #[.int .i64 y.dir, .slice y.cA y.cuts.length y.cc, .slice y.mA y.marks.length y.mc] 26)) hl (dReads_on hr hb1) (fun x h => (hx x h).on hb1 |>.more hb1.size) (fun h => absurd h h1) (fun _ => rfl))
  have HB := Lib.hid hb1
  clear hb1 hb2 hbx hrw hl hr hx hlq hrq hxq hy
  go_enter Try.func3, Try.ntmps3
  go_wp2_with (first | (go_at_call 6; (with_reducible refine C1.out.mono ?_); rintro e w1 ⟨rfl, hw1⟩; subst hw1; clear C1) | (go_at_call 7; refine (awake20_any _).mono ?_; rintro e w9 ⟨rfl, hb⟩; replace HB := Lib.hid (HB.out.trans (hb.mono HB.out.size)); clear hb) | fail)
  go_ret
  exact ⟨rfl, HB.out⟩
set_option maxRecDepth 100000 in
set_option maxHeartbeats 16000000 in
theorem diskSafe_b (l : List Ac) (A : Option Addr) (c : Nat) (q : List Ac) (Aq : Option Addr) (cq : Nat) (y : Ac) (w : World) (hl : l.length ≤ maxLen) (hr : Reads w w.heap.size 7 A l.length (dcs acf l)) (hx : ∀ x ∈ l, AcOk w w.heap.size x) (hlq : q.length ≤ maxLen) (hrq : Reads w w.heap.size 7 Aq q.length (dcs acf q)) (hxq : ∀ x ∈ q, AcOk w w.heap.size x) (hy : AcOk w w.heap.size y) (h1 : Few20 l) (h2 : ¬ Few20 q) : Calls Try.prog 3 #[.slice A l.length c, .slice Aq q.length cq, .agg #[.int .i64 y.dir, .slice y.cA y.cuts.length y.cc, .slice y.mA y.marks.length y.mc]] w fun e w' => e = .returned (.bool true) ∧ Below w.heap.size w w' := by
  have hb1 := (Below.refl w.heap.size w).alloc (Nat.le_refl _) (.cells #[.int .i64 y.dir, .slice y.cA y.cuts.length y.cc, .slice y.mA y.marks.length y.mc] 26)
  have hb2 := hb1.alloc hb1.size (.cells #[.int .i64 0, .int .i64 0, .string ⟨#[]⟩, .string ⟨#[]⟩, .int .i64 y.dir, .slice y.cA y.cuts.length y.cc, .slice y.mA y.marks.length y.mc] 29)
  have hbx := (Blk.new w 26 #[.int .i64 y.dir, .slice y.cA y.cuts.length y.cc, .slice y.mA y.marks.length y.mc]).alloc (.cells #[.int .i64 0, .int .i64 0, .string ⟨#[]⟩, .string ⟨#[]⟩, .int .i64 y.dir, .slice y.cA y.cuts.length y.cc, .slice y.mA y.marks.length y.mc] 29)
  have hrw := Blk.new (w.alloc (.cells #[.int .i64 y.dir, .slice y.cA y.cuts.length y.cc, .slice y.mA y.marks.length y.mc] 26)) 29 #[.int .i64 0, .int .i64 0, .string ⟨#[]⟩, .string ⟨#[]⟩, .int .i64 y.dir, .slice y.cA y.cuts.length y.cc, .slice y.mA y.marks.length y.mc]
  simp only [World.size_alloc] at hrw
  have C1 := Lib.hid (law_few_any l A c true (w.alloc (.cells #[.int .i64 y.dir, .slice y.cA y.cuts.length y.cc, .slice y.mA y.marks.length y.mc] 26)) hl (dReads_on hr hb1) (fun x h => (hx x h).on hb1 |>.more hb1.size) (fun _ => rfl) (fun h => absurd h1 h))
  have C2 := Lib.hid (law_few_any q Aq cq false (w.alloc (.cells #[.int .i64 y.dir, .slice y.cA y.cuts.length y.cc, .slice y.mA y.marks.length y.mc] 26)) hlq (dReads_on hrq hb1) (fun x h => (hxq x h).on hb1 |>.more hb1.size) (fun h => absurd h h2) (fun _ => rfl))
  have HB := Lib.hid hb1
  clear hb1 hb2 hbx hrw hl hr hx hlq hrq hxq hy
  go_enter Try.func3, Try.ntmps3
  go_wp2_with (first | (go_at_call 6; (with_reducible refine C1.out.mono ?_); rintro e w1 ⟨rfl, hw1⟩; subst hw1; clear C1) | (go_at_call 6; (with_reducible refine C2.out.mono ?_); rintro e w1 ⟨rfl, hw1⟩; subst hw1; clear C2) | (go_at_call 7; refine (awake20_any _).mono ?_; rintro e w9 ⟨rfl, hb⟩; replace HB := Lib.hid (HB.out.trans (hb.mono HB.out.size)); clear hb) | fail)
  go_ret
  exact ⟨rfl, HB.out⟩
set_option maxRecDepth 100000 in
set_option maxHeartbeats 16000000 in
theorem diskSafe_c (l : List Ac) (A : Option Addr) (c : Nat) (q : List Ac) (Aq : Option Addr) (cq : Nat) (y : Ac) (w : World) (hl : l.length ≤ maxLen) (hr : Reads w w.heap.size 7 A l.length (dcs acf l)) (hx : ∀ x ∈ l, AcOk w w.heap.size x) (hlq : q.length ≤ maxLen) (hrq : Reads w w.heap.size 7 Aq q.length (dcs acf q)) (hxq : ∀ x ∈ q, AcOk w w.heap.size x) (hy : AcOk w w.heap.size y) (h1 : Few20 l) (h2 : Few20 q) (h3 : ¬ AcFew (dch y)) : Calls Try.prog 3 #[.slice A l.length c, .slice Aq q.length cq, .agg #[.int .i64 y.dir, .slice y.cA y.cuts.length y.cc, .slice y.mA y.marks.length y.mc]] w fun e w' => e = .returned (.bool true) ∧ Below w.heap.size w w' := by
  have hb1 := (Below.refl w.heap.size w).alloc (Nat.le_refl _) (.cells #[.int .i64 y.dir, .slice y.cA y.cuts.length y.cc, .slice y.mA y.marks.length y.mc] 26)
  have hb2 := hb1.alloc hb1.size (.cells #[.int .i64 0, .int .i64 0, .string ⟨#[]⟩, .string ⟨#[]⟩, .int .i64 y.dir, .slice y.cA y.cuts.length y.cc, .slice y.mA y.marks.length y.mc] 29)
  have hbx := (Blk.new w 26 #[.int .i64 y.dir, .slice y.cA y.cuts.length y.cc, .slice y.mA y.marks.length y.mc]).alloc (.cells #[.int .i64 0, .int .i64 0, .string ⟨#[]⟩, .string ⟨#[]⟩, .int .i64 y.dir, .slice y.cA y.cuts.length y.cc, .slice y.mA y.marks.length y.mc] 29)
  have hrw := Blk.new (w.alloc (.cells #[.int .i64 y.dir, .slice y.cA y.cuts.length y.cc, .slice y.mA y.marks.length y.mc] 26)) 29 #[.int .i64 0, .int .i64 0, .string ⟨#[]⟩, .string ⟨#[]⟩, .int .i64 y.dir, .slice y.cA y.cuts.length y.cc, .slice y.mA y.marks.length y.mc]
  simp only [World.size_alloc] at hrw
  have C1 := Lib.hid (law_few_any l A c true (w.alloc (.cells #[.int .i64 y.dir, .slice y.cA y.cuts.length y.cc, .slice y.mA y.marks.length y.mc] 26)) hl (dReads_on hr hb1) (fun x h => (hx x h).on hb1 |>.more hb1.size) (fun _ => rfl) (fun h => absurd h1 h))
  have C2 := Lib.hid (law_few_any q Aq cq true (w.alloc (.cells #[.int .i64 y.dir, .slice y.cA y.cuts.length y.cc, .slice y.mA y.marks.length y.mc] 26)) hlq (dReads_on hrq hb1) (fun x h => (hxq x h).on hb1 |>.more hb1.size) (fun _ => rfl) (fun h => absurd h2 h))
  have C3 := Lib.hid (law_few_any [dch y] (some ⟨w.heap.size + 1, 0, none⟩) 1 false ((w.alloc (.cells #[.int .i64 y.dir, .slice y.cA y.cuts.length y.cc, .slice y.mA y.marks.length y.mc] 26)).alloc (.cells #[.int .i64 0, .int .i64 0, .string ⟨#[]⟩, .string ⟨#[]⟩, .int .i64 y.dir, .slice y.cA y.cuts.length y.cc, .slice y.mA y.marks.length y.mc] 29)) (by simp; unfold maxLen; omega) (act_row (dch y) hrw) (fun x h => by rw [List.mem_singleton] at h; subst h; exact ((hy.dch).on hb2).more hb2.size) (fun h => absurd ((few_one _).1 h) h3) (fun _ => rfl))
  dsimp only [List.length_cons, List.length_nil] at C3
  have HB := Lib.hid hb2
  clear hb1 hb2 hbx hrw hl hr hx hlq hrq hxq hy
  go_enter Try.func3, Try.ntmps3
  go_wp2_with (first | (go_at_call 6; (with_reducible refine C1.out.mono ?_); rintro e w1 ⟨rfl, hw1⟩; subst hw1; clear C1) | (go_at_call 6; (with_reducible refine C2.out.mono ?_); rintro e w1 ⟨rfl, hw1⟩; subst hw1; clear C2) | (go_at_call 6; (with_reducible refine C3.out.mono ?_); rintro e w1 ⟨rfl, hw1⟩; subst hw1; clear C3) | (go_at_call 7; refine (awake20_any _).mono ?_; rintro e w9 ⟨rfl, hb⟩; replace HB := Lib.hid (HB.out.trans (hb.mono HB.out.size)); clear hb) | fail)
  go_ret
  exact ⟨rfl, HB.out⟩
set_option maxRecDepth 100000 in
set_option maxHeartbeats 64000000 in
theorem diskSafe_e (l : List Ac) (A : Option Addr) (c : Nat) (q : List Ac) (Aq : Option Addr) (cq : Nat) (y : Ac) (w : World) (hl : l.length ≤ maxLen) (hr : Reads w w.heap.size 7 A l.length (dcs acf l)) (hx : ∀ x ∈ l, AcOk w w.heap.size x) (hlq : q.length ≤ maxLen) (hrq : Reads w w.heap.size 7 Aq q.length (dcs acf q)) (hxq : ∀ x ∈ q, AcOk w w.heap.size x) (hy : AcOk w w.heap.size y) (h1 : Few20 l) (h2 : Few20 q) (h3 : AcFew (dch y)) : Calls Try.prog 3 #[.slice A l.length c, .slice Aq q.length cq, .agg #[.int .i64 y.dir, .slice y.cA y.cuts.length y.cc, .slice y.mA y.marks.length y.mc]] w fun e w' => e = .returned (.bool true) ∧ Below w.heap.size w w' := by
  have hb1 := (Below.refl w.heap.size w).alloc (Nat.le_refl _) (.cells #[.int .i64 y.dir, .slice y.cA y.cuts.length y.cc, .slice y.mA y.marks.length y.mc] 26)
  have hb2 := hb1.alloc hb1.size (.cells #[.int .i64 0, .int .i64 0, .string ⟨#[]⟩, .string ⟨#[]⟩, .int .i64 y.dir, .slice y.cA y.cuts.length y.cc, .slice y.mA y.marks.length y.mc] 29)
  have hbx := (Blk.new w 26 #[.int .i64 y.dir, .slice y.cA y.cuts.length y.cc, .slice y.mA y.marks.length y.mc]).alloc (.cells #[.int .i64 0, .int .i64 0, .string ⟨#[]⟩, .string ⟨#[]⟩, .int .i64 y.dir, .slice y.cA y.cuts.length y.cc, .slice y.mA y.marks.length y.mc] 29)
  have hrw := Blk.new (w.alloc (.cells #[.int .i64 y.dir, .slice y.cA y.cuts.length y.cc, .slice y.mA y.marks.length y.mc] 26)) 29 #[.int .i64 0, .int .i64 0, .string ⟨#[]⟩, .string ⟨#[]⟩, .int .i64 y.dir, .slice y.cA y.cuts.length y.cc, .slice y.mA y.marks.length y.mc]
  simp only [World.size_alloc] at hrw
  have C1 := Lib.hid (law_few_any l A c true (w.alloc (.cells #[.int .i64 y.dir, .slice y.cA y.cuts.length y.cc, .slice y.mA y.marks.length y.mc] 26)) hl (dReads_on hr hb1) (fun x h => (hx x h).on hb1 |>.more hb1.size) (fun _ => rfl) (fun h => absurd h1 h))
  have C2 := Lib.hid (law_few_any q Aq cq true (w.alloc (.cells #[.int .i64 y.dir, .slice y.cA y.cuts.length y.cc, .slice y.mA y.marks.length y.mc] 26)) hlq (dReads_on hrq hb1) (fun x h => (hxq x h).on hb1 |>.more hb1.size) (fun _ => rfl) (fun h => absurd h2 h))
  have C3 := Lib.hid (law_few_any [dch y] (some ⟨w.heap.size + 1, 0, none⟩) 1 true ((w.alloc (.cells #[.int .i64 y.dir, .slice y.cA y.cuts.length y.cc, .slice y.mA y.marks.length y.mc] 26)).alloc (.cells #[.int .i64 0, .int .i64 0, .string ⟨#[]⟩, .string ⟨#[]⟩, .int .i64 y.dir, .slice y.cA y.cuts.length y.cc, .slice y.mA y.marks.length y.mc] 29)) (by simp; unfold maxLen; omega) (act_row (dch y) hrw) (fun x h => by rw [List.mem_singleton] at h; subst h; exact ((hy.dch).on hb2).more hb2.size) (fun _ => rfl) (fun h => absurd ((few_one _).2 h3) h))
  dsimp only [List.length_cons, List.length_nil] at C3
  have PN := Lib.hid fun W => p_dnew_yes 10000 W (by decide)
  have HB2 := Lib.hid hb2
  have HBx := Lib.hid hbx
  have HC : Hid (0 < l.length → ∃ b off, A = some ⟨b, off, none⟩ ∧ b < w.heap.size ∧ ∀ i (hi : i < l.length), ∀ j u, (acf l[i])[j]? = some u → w.cell? ⟨b, off + i * 7 + j, none⟩ = some u) := Lib.hid fun h => act_cells hr rfl h
  have HX : Hid (∀ j (hj : j < l.length), AcOk w w.heap.size l[j] ∧ AcFew l[j]) := Lib.hid fun j hj => ⟨hx _ (List.getElem_mem hj), h1.2 _ (List.getElem_mem hj)⟩
  have HCq : Hid (0 < q.length → ∃ b off, Aq = some ⟨b, off, none⟩ ∧ b < w.heap.size ∧ ∀ i (hi : i < q.length), ∀ j u, (acf q[i])[j]? = some u → w.cell? ⟨b, off + i * 7 + j, none⟩ = some u) := Lib.hid fun h => act_cells hrq rfl h
  have HXq : Hid (∀ j (hj : j < q.length), AcOk w w.heap.size q[j] ∧ AcFew q[j]) := Lib.hid fun j hj => ⟨hxq _ (List.getElem_mem hj), h2.2 _ (List.getElem_mem hj)⟩
  have HRq := Lib.hid hrq
  have HY := Lib.hid hy
  have HYm : Hid (∀ m ∈ y.marks, m.length ≤ 100000) := Lib.hid fun m hm => by have := h3.2.2.2 m hm; omega
  have hn60 := h1.1
  have hq60 := h2.1
  have HSm0 := Lib.hid (dsm_new 10000 (by decide))
  have HAl0 : Hid (DAl (dnew 10000)) := Lib.hid ⟨rfl, rfl⟩
  obtain ⟨n, hln⟩ : ∃ n, l.length = n := ⟨_, rfl⟩
  have HL := Lib.hid hln
  obtain ⟨nq, hlqn⟩ : ∃ nq, q.length = nq := ⟨_, rfl⟩
  have HLq := Lib.hid hlqn
  rw [hln] at C1 hn60 ⊢
  rw [hlqn] at C2 hq60 ⊢
  clear hb1 hb2 hbx hrw hl hr hx hlq hrq hxq hy h1 h2 h3 hln hlqn
  go_enter Try.func3, Try.ntmps3
  go_wp2_with (first | (go_at_call 6; (with_reducible refine C1.out.mono ?_); rintro e w1 ⟨rfl, hw1⟩; subst hw1; clear C1) | (go_at_call 6; (with_reducible refine C2.out.mono ?_); rintro e w1 ⟨rfl, hw1⟩; subst hw1; clear C2) | (go_at_call 6; (with_reducible refine C3.out.mono ?_); rintro e w1 ⟨rfl, hw1⟩; subst hw1; clear C3) | (go_at_call 8; (with_reducible refine (PN.out _).mono ?_); rintro e w3 ⟨g, S0, rfl, hd, hs, hb⟩; have HA0 := Lib.hid (DAt.mk hd HSm0.out hs hb : DAt ((w.alloc (.cells #[.int .i64 y.dir, .slice y.cA y.cuts.length y.cc, .slice y.mA y.marks.length y.mc] 26)).alloc (.cells #[.int .i64 0, .int .i64 0, .string ⟨#[]⟩, .string ⟨#[]⟩, .int .i64 y.dir, .slice y.cA y.cuts.length y.cc, .slice y.mA y.marks.length y.mc] 29)) w3 S0 g (dnew 10000) 0); clear hd hs hb PN) | fail)
  generalize ((w.alloc (.cells #[.int .i64 y.dir, .slice y.cA y.cuts.length y.cc, .slice y.mA y.marks.length y.mc] 26)).alloc (.cells #[.int .i64 0, .int .i64 0, .string ⟨#[]⟩, .string ⟨#[]⟩, .int .i64 y.dir, .slice y.cA y.cuts.length y.cc, .slice y.mA y.marks.length y.mc] 29)) = w2 at *
  go_loopw [9] (fun iv wr => ∃ (i : Nat) (S : Nat → Prop) (E : Dk), i ≤ n ∧ iv = .int .i64 (i : Int) ∧ Hid (DAl E) ∧ Hid (DAt w2 wr S g E i)) (fun iv _ => n - (intOf iv).toNat)
  case atStart => exact ⟨0, S0, dnew 10000, by omega, rfl, HAl0, HA0⟩
  case round =>
    obtain ⟨i, S, E, hi, rfl, HAl, HD⟩ := hrel
    by_cases hlt : i < n
    · have hil : i < l.length := by have := HL.out; omega
      obtain ⟨b, off, rfl, hb, hcell⟩ := HC.out (by omega)
      obtain ⟨hok, hfew⟩ := HX.out i hil
      have hct : ∀ j u, (acf l[i])[j]? = some u → wr.cell? ⟨b, off + i * 7 + j, none⟩ = some u := fun j u hu => ((HD.out.out HB2.out).cell (p := ⟨b, off + i * 7 + j, none⟩) hb).trans (hcell i hil j u hu)
      have hii : (0 : Int) ≤ (i : Int) ∧ (i : Int) < (n : Int) := by omega
      generalize l[i] = x at *
      have HDo := Lib.hid (dwh_do HD.out HB2.out (by omega) x hok hfew)
      have HAl2 : Hid (x.kind ≠ 7 → x.kind ≠ 8 → DAl (dDoF E x).1) := Lib.hid fun h7 h8 => dalive_do HAl.out x h7 h8
      have HSm2 := Lib.hid (dsm_do HD.out.sm x hok.num.2)
      obtain ⟨kind, nn, s, u, dir, cuts, marks, cA, cc, mA, mc⟩ := x
      have c0 := hct 0 _ rfl; have c1 := hct 1 _ rfl; have c2 := hct 2 _ rfl; have c3 := hct 3 _ rfl; have c4 := hct 4 _ rfl; have c5 := hct 5 _ rfl; have c6 := hct 6 _ rfl
      dsimp only [acf] at HDo c0 c1 c2 c3 c4 c5 c6
      rw [Nat.add_zero] at c0
      dsimp only at HAl2
      clear hct hok hfew hcell hb
      generalize dDoF E ⟨kind, nn, s, u, dir, cuts, marks, cA, cc, mA, mc⟩ = R at *
      obtain ⟨E2, r2⟩ := R
      dsimp only at HDo HAl2 HSm2
      have HD1 := Lib.hid (HD.out.more (Nat.le_succ i))
      by_cases hk8 : kind = 8
      · subst hk8
        go_wp2
        go_roundw
        case rel => exact ⟨i + 1, S, E, by omega, iv (by omega), HAl, HD1⟩
        case measure => simp only [intOf]; omega
      by_cases hk7 : kind = 7
      · subst hk7
        go_wp2
        go_roundw
        case rel => exact ⟨i + 1, S, E, by omega, iv (by omega), HAl, HD1⟩
        case measure => simp only [intOf]; omega
      have q8 : (kind != 8) = true := by rw [bne_iff_ne]; exact hk8
      have q7 : (kind != 7) = true := by rw [bne_iff_ne]; exact hk7
      have HAl3 := Lib.hid (HAl2.out hk7 hk8)
      go_wp2_with (first | (go_at_call 9; (with_reducible refine HDo.out.mono ?_); rintro e w9 ⟨rfl, ho⟩; obtain ⟨S9, hA9, -, -⟩ := HD.out.op ho HSm2.out; have HD9 := Lib.hid hA9; clear hA9 ho HDo) | fail)
      go_roundw
      case rel => exact ⟨i + 1, S9, E2, by omega, iv (by omega), HAl3, HD9⟩
      case measure => simp only [intOf]; omega
    · obtain rfl : i = n := by omega
      have hz : ¬ (i : Int) < (i : Int) := by omega
      clear HC HX HAl0 HA0
      have HLs := Lib.hid (p_dlist_any wr HD.out.dr (HD.out.sm.more (by omega)))
      have hdl : (dlistF E).length ≤ 60 := by
        have := HD.out.sm.dir
        unfold dlistF
        split
        · simp
        · rw [List.length_map]; omega
      have HTo : Hid (∀ k (hk : k < (dlistF E).length), (dsyncF (dsyncs E ((dlistF E).take k)) (dlistF E)[k]).2 = 0) := Lib.hid fun k hk => dsync_told HD.out.sm.hist HAl.out k hk
      have HDn : Hid (DDone (ddirF (dsyncs E (dlistF E))).1 ∧ (ddirF (dsyncs E (dlistF E))).2 = 0) := Lib.hid ⟨ddone HD.out.sm.hist HAl.out, by
        have hl9 : dlistF E = E.dir.map (·.1) := by unfold dlistF; rw [HAl.out.1, if_neg (by decide)]
        obtain ⟨h1, -, -⟩ := dsyncs_alive HD.out.sm.hist HAl.out E.dir.length (Nat.le_refl _)
        rw [List.take_of_length_le (by rw [hl9, List.length_map]; exact Nat.le_refl _)] at h1
        exact (ddir_alive h1).1⟩
      have HNb := Lib.hid (HD.out.dr.listed HD.out.sm)
      generalize dlistF E = N at *
      go_wp2_with (first | (go_at_call 10; (with_reducible refine HLs.out.mono ?_); rintro e w11 ⟨A5, c5, rfl, hc5, hr5, hn5, hb5⟩; have HK5 := Lib.hid (HD.out.kp hr5 hn5); replace HD := Lib.hid (HD.out.on hb5); clear hr5 hn5 hb5 HLs) | fail)
      have HD0 : Hid (DAt w2 w11 S g (dsyncs E (N.take 0)) (100 + 0)) := Lib.hid (HD.out.more (by omega))
      obtain ⟨nl, hnl⟩ : ∃ nl, N.length = nl := ⟨_, rfl⟩
      have HNl := Lib.hid hnl
      rw [hnl] at HK5 hdl
      simp only [hnl]
      clear hnl HD
      go_loopw [11] (fun kv wr => ∃ (k : Nat) (S : Nat → Prop), k ≤ nl ∧ kv = .int .i64 (k : Int) ∧ Hid (DAt w2 wr S g (dsyncs E (N.take k)) (100 + k)) ∧ Hid (DKp wr S 1 A5 nl (dcs sfc N))) (fun kv _ => nl - (intOf kv).toNat)
      case atStart => exact ⟨0, S, by omega, rfl, HD0, HK5⟩
      case round =>
        obtain ⟨k, S, hk, rfl, HD, HK⟩ := hrel
        by_cases hlt : k < nl
        · have hkl : k < N.length := by have := HNl.out; omega
          obtain ⟨b, off, e5, hb, hcell⟩ := txt_cells HK.out.row HNl.out (by omega)
          have y0 := hcell k hkl
          have hki : (0 : Int) ≤ (k : Int) ∧ (k : Int) < (nl : Int) := by omega
          have hsn := Lib.hid (dsyncs_snoc E N k hkl)
          have hsy := p_dsync_any wr HD.out.dr (HD.out.sm.more (by omega)) N[k] (HNb.out _ (List.getElem_mem hkl))
          have HSm := Lib.hid (dsm_sync HD.out.sm N[k])
          rw [HTo.out k hkl] at hsy
          generalize (dsyncF (dsyncs E (N.take k)) N[k]).1 = G at *
          generalize N[k] = s at *
          have HSy := Lib.hid hsy
          clear hcell hsy hb
          subst e5
          go_wp2_with (first | (go_at_call 11; (with_reducible refine HSy.out.mono ?_); rintro e w12 ⟨rfl, ho⟩; obtain ⟨S12, hA, hT, hS⟩ := HD.out.op ho HSm.out; have HD12 := Lib.hid hA; have HK12 := Lib.hid (HK.out.op hT hS); clear hA hT hS ho HSy) | fail)
          go_roundw
          case rel => exact ⟨k + 1, S12, by omega, iv (by omega), by rw [hsn.out]; exact HD12, HK12⟩
          case measure => simp only [intOf]; omega
        · obtain rfl : k = nl := by omega
          have hz : ¬ (k : Int) < (k : Int) := by omega
          have e9 : N.take k = N := List.take_of_length_le (by have := HNl.out; omega)
          rw [e9] at HD
          clear e9 HK HTo
          generalize dsyncs E N = G at *
          have HD2 := Lib.hid (HD.out.more (by omega : 100 + k ≤ 200))
          have hdi := p_ddirs_any wr HD2.out.dr (HD2.out.sm.more (by omega))
          have HSd := Lib.hid (dsm_dirs HD2.out.sm)
          obtain ⟨hdone, hd0⟩ := HDn.out
          rw [hd0] at hdi
          have HDone := Lib.hid hdone
          clear HD hdone hd0 HDn
          generalize (ddirF G).1 = F at *
          have HDi := Lib.hid hdi
          clear hdi
          have PA1 : Hid (∀ W S, DAt w2 W S g F 201 → Calls Try.prog 13 #[.pointer (some ⟨g, 0, none⟩)] W fun e w' => DTwo W w' e (dlistF F) (dtextsF F)) := Lib.hid fun W S h => law_all_any W h.dr (h.sm.more (by omega))
          have HRd : Hid (∀ i (hi : i < (dlistF F).length) (hj : i < (dtextsF F).length), (∀ x ∈ q, ¬ ourP x (dlistF F)[i]) → ∃ x, dreadF (dbootF (ddos F q) y.dir y.cuts y.marks) (dlistF F)[i] = (x, 0) ∧ x.take (dtextsF F)[i].length = (dtextsF F)[i] ∧ (dtextsF F)[i].length ≤ x.length) := Lib.hid fun i hi hj h => dsafe_read HDone.out q y.dir y.cuts y.marks i hi hj h
          have hlen : (dlistF F).length ≤ 1000 ∧ (dtextsF F).length = (dlistF F).length := by
            refine ⟨?_, by unfold dtextsF; rw [List.length_map]⟩
            have := HSd.out.dir
            unfold dlistF
            split
            · simp
            · rw [List.length_map]; omega
          obtain ⟨hl1, hl2⟩ := hlen
          generalize dtextsF F = Ts at *
          generalize dlistF F = Ls at *
          clear HDone
          go_wp2_with (first | (go_at_call 12; (with_reducible refine HDi.out.mono ?_); rintro e w13 ⟨rfl, ho⟩; obtain ⟨S13, hA, -, -⟩ := HD2.out.op ho HSd.out; have HD := Lib.hid hA; clear hA ho HDi) | (go_at_call 13; (with_reducible refine (PA1.out _ _ HD.out).mono ?_); rintro e w20 ⟨Aa, ca, Ab, cb, rfl, ra, rb, na, nb, hb⟩; have HKa := Lib.hid (HD.out.kp ra na); have HKb := Lib.hid (HD.out.kp rb nb); replace HD := Lib.hid (HD.out.on hb); clear hb ra rb na nb PA1) | fail)
          obtain ⟨nL, hnL⟩ : ∃ nL, Ls.length = nL := ⟨_, rfl⟩
          have HnL := Lib.hid hnL
          have HnT := Lib.hid (hl2.trans hnL)
          rw [hnL] at hl1
          simp only [hl2, hnL] at HKa HKb ⊢
          have HD0q : Hid (DAt w2 w20 S13 g (ddos F (q.take 0)) (300 + 0)) := Lib.hid (HD.out.more (by omega))
          clear hnL hl2 HD
          go_loopw [14] (fun kv wr => ∃ (k : Nat) (S : Nat → Prop), k ≤ nq ∧ kv = .int .i64 (k : Int) ∧ Hid (DAt w2 wr S g (ddos F (q.take k)) (300 + k)) ∧ Hid (DKp wr S 1 Aa nL (dcs sfc Ls)) ∧ Hid (DKp wr S 1 Ab nL (dcs sfc Ts))) (fun kv _ => nq - (intOf kv).toNat)
          case atStart => exact ⟨0, S13, by omega, rfl, HD0q, HKa, HKb⟩
          case round =>
            obtain ⟨k, S, hk, rfl, HD, HKa, HKb⟩ := hrel
            by_cases hlt : k < nq
            · have hkl : k < q.length := by have := HLq.out; omega
              obtain ⟨b, off, e5, hb, hcell⟩ := HCq.out (by omega)
              obtain ⟨hok, hfew⟩ := HXq.out k hkl
              have hct : ∀ j u, (acf q[k])[j]? = some u → wr.cell? ⟨b, off + k * 7 + j, none⟩ = some u := fun j u hu => ((HD.out.out HB2.out).cell (p := ⟨b, off + k * 7 + j, none⟩) hb).trans (hcell k hkl j u hu)
              have hki : (0 : Int) ≤ (k : Int) ∧ (k : Int) < (nq : Int) := by omega
              have hsn := Lib.hid (ddos_snoc F q k hkl)
              generalize q[k] = x at *
              have HDo := Lib.hid (dwh_do HD.out HB2.out (by omega) x hok hfew)
              have HSm2 := Lib.hid (dsm_do HD.out.sm x hok.num.2)
              obtain ⟨kind, nn, s, u, dir, cuts, marks, cA, cc, mA, mc⟩ := x
              have c0 := hct 0 _ rfl; have c1 := hct 1 _ rfl; have c2 := hct 2 _ rfl; have c3 := hct 3 _ rfl; have c4 := hct 4 _ rfl; have c5 := hct 5 _ rfl; have c6 := hct 6 _ rfl
              dsimp only [acf] at HDo c0 c1 c2 c3 c4 c5 c6
              rw [Nat.add_zero] at c0
              clear hct hok hfew hcell hb
              subst e5
              generalize dDoF (ddos F (q.take k)) ⟨kind, nn, s, u, dir, cuts, marks, cA, cc, mA, mc⟩ = R at *
              obtain ⟨E2, r2⟩ := R
              dsimp only at HDo HSm2 hsn
              go_wp2_with (first | (go_at_call 9; (with_reducible refine HDo.out.mono ?_); rintro e w9 ⟨rfl, ho⟩; obtain ⟨S9, hA9, hT, hS⟩ := HD.out.op ho HSm2.out; have HD9 := Lib.hid hA9; have HKa9 := Lib.hid (HKa.out.op hT hS); have HKb9 := Lib.hid (HKb.out.op hT hS); clear hA9 ho HDo hT hS) | fail)
              go_roundw
              case rel => exact ⟨k + 1, S9, by omega, iv (by omega), by rw [hsn.out]; exact HD9, HKa9, HKb9⟩
              case measure => simp only [intOf]; omega
            · obtain rfl : k = nq := by omega
              have hz : ¬ (k : Int) < (k : Int) := by omega
              have e9 : q.take k = q := List.take_of_length_le (by have := HLq.out; omega)
              rw [e9] at HD
              clear e9 HCq HXq
              have HD4 := Lib.hid (HD.out.more (by omega : 300 + k ≤ 400))
              have HBo := Lib.hid (dwh_boot HD4.out HB2.out (by omega) y HY.out HYm.out)
              have HSb := Lib.hid (dsm_boot HD4.out.sm y.dir y.cuts y.marks)
              clear HD
              generalize dbootF (ddos F q) y.dir y.cuts y.marks = Z at *
              dsimp only [chf] at HBo
              have k0 := (HBx.out.below HD4.out.below HBx.out.lt).cell 0; have k1 := (HBx.out.below HD4.out.below HBx.out.lt).cell 1; have k2 := (HBx.out.below HD4.out.below HBx.out.lt).cell 2; simp only [List.getElem?_toArray, List.getElem?_cons_zero, List.getElem?_cons_succ] at k0 k1 k2
              go_wp2_with (first | (go_at_call 14; (with_reducible refine HBo.out.mono ?_); rintro e w23 ⟨rfl, ho⟩; obtain ⟨S23, hA, hT, hS⟩ := HD4.out.op ho HSb.out; have HD5 := Lib.hid hA; have HKc := Lib.hid (HKa.out.op hT hS); have HKd := Lib.hid (HKb.out.op hT hS); clear HKa HKb ho HBo hT hS hA) | fail)
              go_loopw [15, 16, 17] (fun iv _ _ wr => ∃ i : Nat, i ≤ nL ∧ iv = .int .i64 (i : Int) ∧ Hid (DAt w2 wr S23 g Z 401) ∧ Hid (DKp wr S23 1 Aa nL (dcs sfc Ls)) ∧ Hid (DKp wr S23 1 Ab nL (dcs sfc Ts))) (fun iv _ _ _ => nL - (intOf iv).toNat)
              case atStart => exact ⟨0, by omega, rfl, HD5, HKc, HKd⟩
              case round =>
                obtain ⟨i, hi, rfl, HD, HKa, HKb⟩ := hrel
                by_cases hlt : i < nL
                · have hil : i < Ls.length := by have := HnL.out; omega
                  have hit : i < Ts.length := by have := HnT.out; omega
                  have hii : (0 : Int) ≤ (i : Int) ∧ (i : Int) < (nL : Int) := by omega
                  have HCa : Hid (∀ W, DKp W S23 1 Aa nL (dcs sfc Ls) → ∃ b off, Aa = some ⟨b, off, none⟩ ∧ W.cell? ⟨b, off + i, none⟩ = some (.string ⟨Ls[i].toArray⟩)) := Lib.hid fun W h => by
                    obtain ⟨b, off, e5, _, hcell⟩ := txt_cells h.row HnL.out (by omega)
                    exact ⟨b, off, e5, hcell i hil⟩
                  have HCb : Hid (∀ W, DKp W S23 1 Ab nL (dcs sfc Ts) → ∃ b off, Ab = some ⟨b, off, none⟩ ∧ W.cell? ⟨b, off + i, none⟩ = some (.string ⟨Ts[i].toArray⟩)) := Lib.hid fun W h => by
                    obtain ⟨b, off, e5, _, hcell⟩ := txt_cells h.row HnT.out (by omega)
                    exact ⟨b, off, e5, hcell i hit⟩
                  have hrd := HRd.out i hil hit
                  generalize Ls[i] = s at *
                  generalize Ts[i] = tt at *
                  obtain ⟨ba, oa, ea, ya⟩ := HCa.out wr HKa.out
                  obtain ⟨bb, ob, eb, yb⟩ := HCb.out wr HKb.out
                  have HOu : Hid (∀ R, (∀ x ∈ q, ourP x s → R = true) → ((∀ x ∈ q, ¬ ourP x s) → R = false) → Calls Try.prog 15 #[.slice Aq q.length cq, .string ⟨s.toArray⟩] wr fun e w' => e = .returned (.bool R) ∧ Below wr.heap.size wr w') := Lib.hid fun R h1 h2 => law_ours_any q s Aq cq R wr (by have := HLq.out; omega) (dReads_on HRq.out (HD.out.out HB2.out)) h1 h2
                  rw [HLq.out] at HOu
                  by_cases hour : ∃ x ∈ q, ourP x s
                  · have HOt := Lib.hid (HOu.out true (fun _ _ _ => rfl) (fun h => by obtain ⟨x, h1, h2⟩ := hour; exact absurd h2 (h x h1)))
                    clear hour HOu hrd HCa HCb eb yb
                    subst ea
                    go_wp2_with (first | (go_at_call 15; (with_reducible refine HOt.out.mono ?_); rintro e w30 ⟨rfl, hb⟩; have HD9 := Lib.hid (HD.out.on hb); have HKa9 := Lib.hid (HKa.out.on hb); have HKb9 := Lib.hid (HKb.out.on hb); clear hb HOt) | fail)
                    go_roundw
                    case rel => exact ⟨i + 1, by omega, iv (by omega), HD9, HKa9, HKb9⟩
                    case measure => simp only [intOf]; omega
                  · have HOf := Lib.hid (HOu.out false (fun x h1 h2 => absurd ⟨x, h1, h2⟩ hour) (fun _ => rfl))
                    obtain ⟨x, hx1, hx2, hx3⟩ := hrd fun x h1 h2 => hour ⟨x, h1, h2⟩
                    have HRe : Hid (∀ W, DAt w2 W S23 g Z 401 → Calls Try.prog 16 #[.pointer (some ⟨g, 0, none⟩), .string ⟨s.toArray⟩] W fun e w' => e = .returned (.tuple #[.string ⟨x.toArray⟩, .int .i64 0]) ∧ Below W.heap.size W w') := Lib.hid fun W h => by
                      have := p_dread_any W h.dr (h.sm.more (by omega)) s (h.dr.read_len h.sm hx1)
                      rw [hx1] at this
                      exact this
                    have hsl := fun W => fl_head x tt.length hx3 W
                    rw [hx2] at hsl
                    have hq1 : (tt != tt) = false := by simp
                    have hq2 : decide ((x.length : Int) < (tt.length : Int)) = false := decide_eq_false (by omega)
                    have hq3 : decide (x.length < tt.length) = false := decide_eq_false (by omega)
                    have hq4 : (0 : Int) ≤ (tt.length : Int) ∧ (tt.length : Int) ≤ (x.length : Int) := by omega
                    clear hour HOu hx1 hx2 hx3 HRd
                    subst ea
                    subst eb
                    go_wp2_with (first | (go_at_call 15; (with_reducible refine HOf.out.mono ?_); rintro e w30 ⟨rfl, hb⟩; have HD8 := Lib.hid (HD.out.on hb); have HKa8 := Lib.hid (HKa.out.on hb); have HKb8 := Lib.hid (HKb.out.on hb); obtain ⟨b3, o3, e3, y3⟩ := HCa.out w30 HKa8.out; injection e3 with e3; injection e3 with e3 e4; subst e3; subst e4; clear hb HOf) | (go_at_call 16; (with_reducible refine (HRe.out _ HD8.out).mono ?_); rintro e w31 ⟨rfl, hb⟩; have HD9 := Lib.hid (HD8.out.on hb); have HKa9 := Lib.hid (HKa8.out.on hb); have HKb9 := Lib.hid (HKb8.out.on hb); obtain ⟨b4, o4, e4, y4⟩ := HCb.out w31 HKb9.out; injection e4 with e4; injection e4 with e4 e5; subst e4; subst e5; clear hb HRe) | fail)
                    go_quiet (fail)
                    go_wp2
                    go_roundw
                    case rel => exact ⟨i + 1, by omega, iv (by omega), Lib.hid (HD9.out.on (below_drewN (Below.refl _ _) _)), Lib.hid (HKa9.out.on (below_drewN (Below.refl _ _) _)), Lib.hid (HKb9.out.on (below_drewN (Below.refl _ _) _))⟩
                    case measure => simp only [intOf]; omega
                · obtain rfl : i = nL := by omega
                  have hz2 : ¬ (i : Int) < (i : Int) := by omega
                  go_wp2_with (first | (go_at_call 7; refine (awake20_any _).mono ?_; rintro e w19 ⟨rfl, hb⟩; replace HD := Lib.hid (HD.out.on hb); clear hb) | fail)
                  go_ret
                  exact ⟨rfl, HD.out.out HB2.out⟩
theorem diskSafe_walk (l : List Ac) (A : Option Addr) (c : Nat) (q : List Ac) (Aq : Option Addr) (cq : Nat) (y : Ac) (w : World) (hl : l.length ≤ maxLen) (hr : Reads w w.heap.size 7 A l.length (dcs acf l)) (hx : ∀ x ∈ l, AcOk w w.heap.size x) (hlq : q.length ≤ maxLen) (hrq : Reads w w.heap.size 7 Aq q.length (dcs acf q)) (hxq : ∀ x ∈ q, AcOk w w.heap.size x) (hy : AcOk w w.heap.size y) : Calls Try.prog 3 #[.slice A l.length c, .slice Aq q.length cq, .agg (chf y).toArray] w fun e w' => e = .returned (.bool true) ∧ Below w.heap.size w w' := by
  by_cases h1 : Few20 l
  · by_cases h2 : Few20 q
    · by_cases h3 : AcFew (dch y)
      · exact diskSafe_e l A c q Aq cq y w hl hr hx hlq hrq hxq hy h1 h2 h3
      · exact diskSafe_c l A c q Aq cq y w hl hr hx hlq hrq hxq hy h1 h2 h3
    · exact diskSafe_b l A c q Aq cq y w hl hr hx hlq hrq hxq hy h1 h2
  · exact diskSafe_a l A c q Aq cq y w hl hr hx hlq hrq hxq hy h1
namespace DiskSafe
set_option maxRecDepth 100000 in
theorem lifted (os : Os) (started : os.Started) (H : Type) (enc : TypeId × Value → H) :
    ReturnsInHanded {} Try.checked os 3 .any (Rows.diskSafeSpec.pre6 enc Try.prog Try.f3 Rows.diskSafeRow.domain false) (Rows.diskSafeSpec.post enc Try.prog Try.f3 false true false false) := by
  refine law_sized (C := Try.checked) (tb := 4) ownP started (by kernel_rfl) Try.func3
    (ChangeSpec.witness6 (enc := enc) (C := Try.checked) false ⟨#[], #[.slice none 0 0, .slice none 0 0, .agg #[.int .i64 0, .slice none 0 0, .slice none 0 0]], []⟩ 8 (by kernel_rfl) (by kernel_rfl) (by kernel_rfl) (by kernel_rfl))
    laidP (by kernel_rfl) rfl (by kernel_rfl) Try.underlying4 (by intro ds h; match ds, h with | [_, _, _], _ => rfl) ?_
  intro W base args ds p hval0 hA0 hlt _
  have hval : ∀ (j : Nat) t v, Try.f3.params[j]? = some t → args[j]? = some v → Value.okWide Try.prog W .any base t v := hval0
  have hA : DataW.TrodAll enc Try.prog W 0 (fun _ => true) true Try.f3.params.toList args.toList ds p := hA0
  rw [Try.params3] at hA hval
  obtain ⟨v0, v1, v2, d0, d1, d2, p0, p1, p2, rfl, rfl, rfl, h0, h1, h2⟩ := trodAll_three hA
  obtain ⟨Al, l, cl, rfl, ml, rl, hl⟩ := open_acts (hval 0 22 v0 rfl rfl) h0
  obtain ⟨Aq, q, cq, rfl, mq, rq, hq⟩ := open_acts (hval 1 22 v1 rfl rfl) h1
  obtain ⟨y, rfl, hy⟩ := open_choice (hval 2 26 v2 rfl rfl) h2
  exact diskSafe_walk l Al cl q Aq cq y W ml rl hl mq rq hq hy
theorem holds : Rows.DiskSafeSaid :=
  OpenClaim.holds_of_wide 3 Try.f3 rfl rfl rfl rfl rfl rfl rfl ⟨rfl, rfl, rfl, rfl, rfl⟩ rfl rfl rfl rfl rfl (by kernel_rfl) Try.func3 (by kernel_rfl)
    (of_decide_eq_true (by kernel_rfl)) (by unfold Func.isWrapper; first | (rw [if_pos (by decide +kernel)]; kernel_rfl) | (rw [if_neg (by decide +kernel)]; exact ⟨rfl, rfl⟩))
    (fun os started H enc _ => lifted os started H enc)
end DiskSafe
end Go.Proofs.Ytgoahcmgpjacjaa
