/-
  Layer 12: the program's Find, for every argument.
-/
import Derived.Test.YtngenehleelcmaaSufC
import Derived.Test.YtngenehleelcmaaSufW
namespace Go.Proofs.Ytngenehleelcmaa
set_option linter.unusedSimpArgs false
set_option linter.unusedVariables false
open Go.ChangeShapes Go.WideShapes Go.ChangeAt Go.RowKit Go.Joins Go.Deep Go.Shelf

theorem s_range_ret {w : World} {g : Nat} {x y u v : Value} (h : Blk w g 38 #[x, y]) : Blk ((w.setCell ⟨g, 0, none⟩ u).setCell ⟨g, 1, none⟩ v) g 38 #[u, v] := (h.set_ 0 u).set_ 1 v
theorem s_range_below {w W : World} {g : Nat} {u v : Value} {B : Nat} (h : Below B w W) (hg : B ≤ g) : Below B w ((W.setCell ⟨g, 0, none⟩ u).setCell ⟨g, 1, none⟩ v) := (h.setCell (p := ⟨g, 0, none⟩) hg u).setCell (p := ⟨g, 1, none⟩) hg v
/-- What Find has in memory. -/
structure FH (W : World) (s x : List UInt8) (A : Option Addr) (n c g : Nat) : Prop where
  ps : Blk W g 9 #[.string ⟨s.toArray⟩]
  pa : Blk W (g + 1) 22 #[.slice A n c]
  px : Blk W (g + 1 + 1) 9 #[.string ⟨x.toArray⟩]
  res : Blk W (g + 1 + 1 + 1) 38 #[.int .i64 0, .int .i64 0]
theorem FH.below {W W' : World} {s x : List UInt8} {A : Option Addr} {n c g : Nat} (h : FH W s x A n c g) (hb : Below W.heap.size W W') : FH W' s x A n c g :=
  ⟨h.ps.below hb h.ps.lt, h.pa.below hb h.pa.lt, h.px.below hb h.px.lt, h.res.below hb h.res.lt⟩
theorem FH.start (w : World) (s x : List UInt8) (A : Option Addr) (n c : Nat) :
    FH ((((w.alloc (.cells #[.string ⟨s.toArray⟩] 9)).alloc (.cells #[.slice A n c] 22)).alloc (.cells #[.string ⟨x.toArray⟩] 9)).alloc (.cells #[.int .i64 0, .int .i64 0] 38)) s x A n c w.heap.size := by
  refine ⟨(((Blk.new w _ _).alloc _).alloc _).alloc _, ?_, ?_, ?_⟩
  · have := ((Blk.new (w.alloc (.cells #[.string ⟨s.toArray⟩] 9)) 22 #[.slice A n c]).alloc (.cells #[.string ⟨x.toArray⟩] 9)).alloc (.cells #[.int .i64 0, .int .i64 0] 38)
    rwa [World.size_alloc] at this
  · have := (Blk.new ((w.alloc (.cells #[.string ⟨s.toArray⟩] 9)).alloc (.cells #[.slice A n c] 22)) 9 #[.string ⟨x.toArray⟩]).alloc (.cells #[.int .i64 0, .int .i64 0] 38)
    rwa [World.size_alloc, World.size_alloc] at this
  · have := Blk.new (((w.alloc (.cells #[.string ⟨s.toArray⟩] 9)).alloc (.cells #[.slice A n c] 22)).alloc (.cells #[.string ⟨x.toArray⟩] 9)) 38 #[.int .i64 0, .int .i64 0]
    rwa [World.size_alloc, World.size_alloc, World.size_alloc] at this
theorem FH.cells {W : World} {s x : List UInt8} {A : Option Addr} {n c g : Nat} (h : FH W s x A n c g) : W.cell? ⟨g, 0, none⟩ = some (.string ⟨s.toArray⟩) ∧ W.cell? ⟨g + 1, 0, none⟩ = some (.slice A n c) ∧ W.cell? ⟨g + 1 + 1, 0, none⟩ = some (.string ⟨x.toArray⟩) ∧ W.cell? ⟨g + 1 + 1 + 1, 0, none⟩ = some (.int .i64 0) ∧ W.cell? ⟨g + 1 + 1 + 1, 1, none⟩ = some (.int .i64 0) ∧ W.frozen? ⟨g + 1 + 1 + 1, 0, none⟩ = false ∧ W.frozen? ⟨g + 1 + 1 + 1, 1, none⟩ = false :=
  ⟨h.ps.cell 0, h.pa.cell 0, h.px.cell 0, h.res.cell 0, h.res.cell 1, h.res.frozen 0, h.res.frozen 1⟩
theorem sroF_no {s : List UInt8} {a : List Int} (h : ¬ (sordF a = true ∧ a.length = s.length + 1)) : sroF s a = ([], 2) := by
  unfold sroF
  by_cases h1 : a.length = s.length + 1
  · rw [if_pos h1]
    exact if_neg fun h2 => h ⟨h2, h1⟩
  · exact if_neg h1
theorem sroF_yes {s : List UInt8} {a : List Int} (h : sordF a = true ∧ a.length = s.length + 1) : sroF s a = (srk a a.length, 0) := by
  unfold sroF
  rw [if_pos h.2]
  exact if_pos h.1

set_option maxRecDepth 100000 in
set_option maxHeartbeats 4000000 in
theorem s_find_no (s : List UInt8) (x : List UInt8) (A : Option Addr) (n c : Nat) (w : World) (hs : s.length ≤ 1000000) (hx : x.length ≤ 1000000) (hm : n ≤ 1000001)
    (Hrk : Hid (∀ W, Below w.heap.size w W → Calls Try.prog 29 #[.string ⟨s.toArray⟩, .slice A n c] W fun e w' => ∃ A2 c2, e = .returned (.tuple #[.slice A2 0 c2, .int .i64 2]) ∧ Below W.heap.size W w')) :
    Calls Try.prog 18 #[.string ⟨s.toArray⟩, .slice A n c, .string ⟨x.toArray⟩] w fun e w' => SFPost w w' e ((0, 0), 2) := by
  have hmf := s_mkfunc
  have hni : (n : Int) ≤ 1000001 ∧ (s.length : Int) ≤ 1000000 ∧ (x.length : Int) ≤ 1000000 := by omega
  have HF0 := Lib.hid (FH.start w s x A n c)
  have Hb0 : Hid (Below w.heap.size w ((((w.alloc (.cells #[.string ⟨s.toArray⟩] 9)).alloc (.cells #[.slice A n c] 22)).alloc (.cells #[.string ⟨x.toArray⟩] 9)).alloc (.cells #[.int .i64 0, .int .i64 0] 38))) := Lib.hid (((((Below.refl _ w).alloc (Nat.le_refl _) _).alloc (by simp) _).alloc (by simp; omega) _).alloc (by simp; omega) _)
  clear hs hx hm
  go_enter Try.func18, Try.ntmps18
  go_wp2_with (go_at_call 29; refine (Hrk.out _ Hb0.out).mono ?_; rintro e w2 ⟨A2, c2, rfl, hb2⟩; have HF2 := Lib.hid (HF0.out.below hb2); obtain ⟨k1, k2, k3, k4, k5, k6, k7⟩ := HF2.out.cells; have Hb2 := Lib.hid (Hb0.out.trans (hb2.mono Hb0.out.size)); clear hb2)
  have hE := s_range_ret (u := .int .i64 (0)) (v := .int .i64 (0)) HF2.out.res
  have d0 := hE.cell 0
  have d1 := hE.cell 1
  simp only [List.getElem?_toArray, List.getElem?_cons_zero, List.getElem?_cons_succ] at d0 d1
  refine bodyPost_ret (v := .tuple #[.agg #[.int .i64 (0), .int .i64 (0)], .int .i64 2]) (by simp [results, Try.results18, go_sem, d0, d1]) rfl ⟨rfl, s_range_below Hb2.out (by omega)⟩

set_option maxRecDepth 100000 in
set_option maxHeartbeats 4000000 in
theorem s_find_big (s : List UInt8) (x : List UInt8) (A : Option Addr) (n c : Nat) (w : World) (hs : s.length ≤ 1000000) (hx : x.length ≤ 1000000) (hm : n ≤ 1000001) (RK : List Int) (hbig : 20000 < s.length)
    (Hry : Hid (∀ W, Below w.heap.size w W → Calls Try.prog 29 #[.string ⟨s.toArray⟩, .slice A n c] W fun e w' => ∃ A2 c2, e = .returned (.tuple #[.slice A2 n c2, .int .i64 0]) ∧ Reads w' w'.heap.size 1 A2 n (ints RK) ∧ Below W.heap.size W w')) :
    Calls Try.prog 18 #[.string ⟨s.toArray⟩, .slice A n c, .string ⟨x.toArray⟩] w fun e w' => SFPost w w' e ((0, 0), 3) := by
  have hmf := s_mkfunc
  have hni : (n : Int) ≤ 1000001 ∧ (s.length : Int) ≤ 1000000 ∧ (x.length : Int) ≤ 1000000 := by omega
  have HF0 := Lib.hid (FH.start w s x A n c)
  have Hb0 : Hid (Below w.heap.size w ((((w.alloc (.cells #[.string ⟨s.toArray⟩] 9)).alloc (.cells #[.slice A n c] 22)).alloc (.cells #[.string ⟨x.toArray⟩] 9)).alloc (.cells #[.int .i64 0, .int .i64 0] 38))) := Lib.hid (((((Below.refl _ w).alloc (Nat.le_refl _) _).alloc (by simp) _).alloc (by simp; omega) _).alloc (by simp; omega) _)
  have hbi : (20000 : Int) < (s.length : Int) := by omega
  clear hs hx hm hbig
  go_enter Try.func18, Try.ntmps18
  go_wp2_with (go_at_call 29; refine (Hry.out _ Hb0.out).mono ?_; rintro e w2 ⟨A2, c2, rfl, hr2, hb2⟩; have HF2 := Lib.hid (HF0.out.below hb2); obtain ⟨k1, k2, k3, k4, k5, k6, k7⟩ := HF2.out.cells; have Hb2 := Lib.hid (Hb0.out.trans (hb2.mono Hb0.out.size)); have Hr2 := Lib.hid hr2; clear hb2 hr2)
  have hE := s_range_ret (u := .int .i64 (0)) (v := .int .i64 (0)) HF2.out.res
  have d0 := hE.cell 0
  have d1 := hE.cell 1
  simp only [List.getElem?_toArray, List.getElem?_cons_zero, List.getElem?_cons_succ] at d0 d1
  refine bodyPost_ret (v := .tuple #[.agg #[.int .i64 (0), .int .i64 (0)], .int .i64 3]) (by simp [results, Try.results18, go_sem, d0, d1]) rfl ⟨rfl, s_range_below Hb2.out (by omega)⟩

set_option maxRecDepth 100000 in
set_option maxHeartbeats 4000000 in
theorem s_find_fall (s : List UInt8) (x : List UInt8) (A : Option Addr) (n c : Nat) (w : World) (hs : s.length ≤ 1000000) (hx : x.length ≤ 1000000) (hm : n ≤ 1000001) (RK : List Int) (hbig : s.length ≤ 20000)
    (Hry : Hid (∀ W, Below w.heap.size w W → Calls Try.prog 29 #[.string ⟨s.toArray⟩, .slice A n c] W fun e w' => ∃ A2 c2, e = .returned (.tuple #[.slice A2 n c2, .int .i64 0]) ∧ Reads w' w'.heap.size 1 A2 n (ints RK) ∧ Below W.heap.size W w'))
    (HS1 : Hid (∀ W Ar cr, Below w.heap.size w W → Reads W W.heap.size 1 Ar n (ints RK) → Calls Try.prog 32 #[.string ⟨s.toArray⟩, .slice A n c, .slice Ar n cr] W fun e w' => e = .returned (.bool false) ∧ Below W.heap.size W w')) :
    Calls Try.prog 18 #[.string ⟨s.toArray⟩, .slice A n c, .string ⟨x.toArray⟩] w fun e w' => SFPost w w' e ((0, 0), 2) := by
  have hmf := s_mkfunc
  have hni : (n : Int) ≤ 1000001 ∧ (s.length : Int) ≤ 1000000 ∧ (x.length : Int) ≤ 1000000 := by omega
  have HF0 := Lib.hid (FH.start w s x A n c)
  have Hb0 : Hid (Below w.heap.size w ((((w.alloc (.cells #[.string ⟨s.toArray⟩] 9)).alloc (.cells #[.slice A n c] 22)).alloc (.cells #[.string ⟨x.toArray⟩] 9)).alloc (.cells #[.int .i64 0, .int .i64 0] 38))) := Lib.hid (((((Below.refl _ w).alloc (Nat.le_refl _) _).alloc (by simp) _).alloc (by simp; omega) _).alloc (by simp; omega) _)
  have hbi : ¬ (20000 : Int) < (s.length : Int) := by omega
  clear hs hx hm hbig
  go_enter Try.func18, Try.ntmps18
  go_wp2_with (first
    | (go_at_call 29; refine (Hry.out _ Hb0.out).mono ?_; rintro e w2 ⟨A2, c2, rfl, hr2, hb2⟩; have HF2 := Lib.hid (HF0.out.below hb2); obtain ⟨k1, k2, k3, k4, k5, k6, k7⟩ := HF2.out.cells; have Hb2 := Lib.hid (Hb0.out.trans (hb2.mono Hb0.out.size)); have Hr2 := Lib.hid hr2; clear hb2 hr2)
    | (go_at_call 32; refine (HS1.out _ _ _ Hb2.out Hr2.out).mono ?_; rintro e w3 ⟨rfl, hb3⟩; have HF3 := Lib.hid (HF2.out.below hb3); clear k1 k2 k3 k4 k5 k6 k7; obtain ⟨k1, k2, k3, k4, k5, k6, k7⟩ := HF3.out.cells; have Hb3 := Lib.hid (Hb2.out.trans (hb3.mono Hb2.out.size)); clear hb3))
  have hE := s_range_ret (u := .int .i64 (0)) (v := .int .i64 (0)) HF3.out.res
  have d0 := hE.cell 0
  have d1 := hE.cell 1
  simp only [List.getElem?_toArray, List.getElem?_cons_zero, List.getElem?_cons_succ] at d0 d1
  refine bodyPost_ret (v := .tuple #[.agg #[.int .i64 (0), .int .i64 (0)], .int .i64 2]) (by simp [results, Try.results18, go_sem, d0, d1]) rfl ⟨rfl, s_range_below Hb3.out (by omega)⟩

theorem arr13 (a b c d : Value) : (#[a] ++ #[b, c, d] : Array Value) = #[a, b, c, d] := rfl
theorem arr14 (a b c d e : Value) : (#[a] ++ #[b, c, d, e] : Array Value) = #[a, b, c, d, e] := rfl
set_option maxRecDepth 100000 in
set_option maxHeartbeats 4000000 in
theorem s_find_yes (s : List UInt8) (x : List UInt8) (A : Option Addr) (n c : Nat) (w : World) (hs : s.length ≤ 1000000) (hx : x.length ≤ 1000000) (hm : n ≤ 1000001) (RK : List Int) (hbig : s.length ≤ 20000) (hn : n = s.length + 1) (hr : Reads w w.heap.size 1 A n (ints (splc (sarr s))))
    (Hry : Hid (∀ W, Below w.heap.size w W → Calls Try.prog 29 #[.string ⟨s.toArray⟩, .slice A n c] W fun e w' => ∃ A2 c2, e = .returned (.tuple #[.slice A2 n c2, .int .i64 0]) ∧ Reads w' w'.heap.size 1 A2 n (ints RK) ∧ Below W.heap.size W w'))
    (HS1 : Hid (∀ W Ar cr, Below w.heap.size w W → Reads W W.heap.size 1 Ar n (ints RK) → Calls Try.prog 32 #[.string ⟨s.toArray⟩, .slice A n c, .slice Ar n cr] W fun e w' => e = .returned (.bool true) ∧ Below W.heap.size W w')) :
    Calls Try.prog 18 #[.string ⟨s.toArray⟩, .slice A n c, .string ⟨x.toArray⟩] w fun e w' => SFPost w w' e (sfr s (splc (sarr s)) x (s.length + 1), 0) := by
  have hmf := s_mkfunc
  have hni : (n : Int) ≤ 1000001 ∧ (s.length : Int) ≤ 1000000 ∧ (x.length : Int) ≤ 1000000 := by omega
  have HF0 := Lib.hid (FH.start w s x A n c)
  have Hb0 : Hid (Below w.heap.size w ((((w.alloc (.cells #[.string ⟨s.toArray⟩] 9)).alloc (.cells #[.slice A n c] 22)).alloc (.cells #[.string ⟨x.toArray⟩] 9)).alloc (.cells #[.int .i64 0, .int .i64 0] 38))) := Lib.hid (((((Below.refl _ w).alloc (Nat.le_refl _) _).alloc (by simp) _).alloc (by simp; omega) _).alloc (by simp; omega) _)
  have hbi : ¬ (20000 : Int) < (s.length : Int) := by omega
  have hl := sarr_len s
  have Hr := Lib.hid hr
  have HG1 := Lib.hid fun (W : World) (gh : Nat) (hW : Below w.heap.size w W) (hF : FH W s x A n c w.heap.size) (hh : Blk W gh 63 #[.func (.func 33) #[] #[.pointer (some ⟨w.heap.size, 0, none⟩), .pointer (some ⟨w.heap.size + 1 + 1, 0, none⟩)]]) =>
    s_search_any (hge s x) n 35 #[.pointer (some ⟨gh, 0, none⟩), .pointer (some ⟨w.heap.size + 1, 0, none⟩), .pointer (some ⟨w.heap.size + 1 + 1, 0, none⟩)] W hm
      (fun V hV i hi => by
        rw [arr13]
        have hF2 := hF.below hV
        exact s_find2_any s x i n c w.heap.size (w.heap.size + 1 + 1) (w.heap.size + 1) gh A V hs hx hn hi (hr.upto (hW.trans (hV.mono hW.size))) (hF2.ps.cell 0) (hF2.px.cell 0) (hF2.pa.cell 0) ((hh.below hV hh.lt).cell 0))
      (enters_of Try.func35 (by kernel_rfl) rfl) (fun i j hij hj => hge_mono s x i j hij (by omega))
  have HG2 := Lib.hid fun (W : World) (gh gl lo d : Nat) (hd : lo + d = n) (hW : Below w.heap.size w W) (hF : FH W s x A n c w.heap.size) (hh : Blk W gh 63 #[.func (.func 33) #[] #[.pointer (some ⟨w.heap.size, 0, none⟩), .pointer (some ⟨w.heap.size + 1 + 1, 0, none⟩)]]) (hll : Blk W gl 3 #[.int .i64 (lo : Int)]) =>
    s_search_any (fun i => hgt s x (lo + i)) d 36 #[.pointer (some ⟨gh, 0, none⟩), .pointer (some ⟨w.heap.size + 1, 0, none⟩), .pointer (some ⟨gl, 0, none⟩), .pointer (some ⟨w.heap.size + 1 + 1, 0, none⟩)] W (by omega)
      (fun V hV i hi => by
        rw [arr14]
        have hF2 := hF.below hV
        exact s_find3_any s x i lo n c w.heap.size (w.heap.size + 1 + 1) (w.heap.size + 1) gh gl A V hs hx hn (by omega) (hr.upto (hW.trans (hV.mono hW.size))) (hF2.ps.cell 0) (hF2.px.cell 0) (hF2.pa.cell 0) ((hh.below hV hh.lt).cell 0) ((hll.below hV hll.lt).cell 0))
      (enters_of Try.func36 (by kernel_rfl) rfl) (fun i j hij hj => hgt_mono s x (lo + i) (lo + j) (by omega) (by omega))
  have Hfound := Lib.hid fun lo r h1 h2 h3 h4 h5 h6 => sfr_found s x lo r h1 h2 h3 h4 h5 h6
  have Hn := Lib.hid hn
  generalize sfr s (splc (sarr s)) x (s.length + 1) = F at *
  obtain ⟨F1, F2⟩ := F
  clear hs hx hm hbig hl hr hn
  go_enter Try.func18, Try.ntmps18
  go_wp2_with (first
    | (go_at_call 29; refine (Hry.out _ Hb0.out).mono ?_; rintro e w2 ⟨A2, c2, rfl, hr2, hb2⟩; have HF2 := Lib.hid (HF0.out.below hb2); obtain ⟨k1, k2, k3, k4, k5, k6, k7⟩ := HF2.out.cells; have Hb2 := Lib.hid (Hb0.out.trans (hb2.mono Hb0.out.size)); have Hr2 := Lib.hid hr2; clear hb2 hr2)
    | (go_at_call 32; refine (HS1.out _ _ _ Hb2.out Hr2.out).mono ?_; rintro e w3 ⟨rfl, hb3⟩; have HF3 := Lib.hid (HF2.out.below hb3); clear k1 k2 k3 k4 k5 k6 k7; obtain ⟨k1, k2, k3, k4, k5, k6, k7⟩ := HF3.out.cells; have Hb3 := Lib.hid (Hb2.out.trans (hb3.mono Hb2.out.size)); have z0 := HF3.out.ps.lt; have z1 := HF3.out.pa.lt; have z2 := HF3.out.px.lt; have z3 := HF3.out.res.lt; clear hb3))
  (with_reducible refine (HG1.out _ w3.heap.size (Hb3.out.alloc Hb3.out.size _) (HF3.out.below ((Below.refl _ _).alloc (Nat.le_refl _) _)) (Blk.new w3 _ _)).mono ?_)
  rintro e w4 ⟨lo, rfl, hlo, hA, hB, hb4⟩
  have HF4 := Lib.hid ((HF3.out.below ((Below.refl _ _).alloc (Nat.le_refl _) _)).below hb4)
  clear k1 k2 k3 k4 k5 k6 k7
  obtain ⟨k1, k2, k3, k4, k5, k6, k7⟩ := HF4.out.cells
  have HH4 := Lib.hid ((Blk.new w3 63 #[.func (.func 33) #[] #[.pointer (some ⟨w.heap.size, 0, none⟩), .pointer (some ⟨w.heap.size + 1 + 1, 0, none⟩)]]).below hb4 (by simp))
  have Hb4 := Lib.hid ((Hb3.out.alloc Hb3.out.size (.cells #[.func (.func 33) #[] #[.pointer (some ⟨w.heap.size, 0, none⟩), .pointer (some ⟨w.heap.size + 1 + 1, 0, none⟩)]] 63)).trans (hb4.mono (Hb3.out.alloc Hb3.out.size _).size))
  have HA := Lib.hid hA
  have HB := Lib.hid hB
  have Hlo := Lib.hid hlo
  obtain ⟨d, hd⟩ : ∃ d, lo + d = n := ⟨n - lo, by omega⟩
  have Hd := Lib.hid hd
  have hsub : (n : Int) - (lo : Int) = (d : Int) := by omega
  have hwd : IntKind.i64.wrap (d : Int) = (d : Int) := (by rw [IntKind.wrap_i64]; omega)
  have hwe : IntKind.i64.wrap ((n : Int) - (lo : Int)) = (d : Int) := (by rw [IntKind.wrap_i64]; omega)
  have y0 := HF4.out.ps.lt
  have y1 := HF4.out.pa.lt
  have y2 := HF4.out.px.lt
  have y3 := HF4.out.res.lt
  have y4 := HH4.out.lt
  have hh4 := HH4.out.cell 0
  simp only [List.getElem?_toArray, List.getElem?_cons_zero] at hh4
  clear hA hB hb4 hd
  go_wp2_with (fail)
  have HL4 := Lib.hid (Blk.new w4 3 #[.int .i64 (lo : Int)])
  refine (HG2.out _ w3.heap.size w4.heap.size lo d Hd.out (Hb4.out.alloc Hb4.out.size _) (HF4.out.below ((Below.refl _ _).alloc (Nat.le_refl _) _)) (HH4.out.alloc _) HL4.out).mono ?_
  rintro e w5 ⟨r, rfl, hr, hC, hD, hb5⟩
  have HF5 := Lib.hid ((HF4.out.below ((Below.refl _ _).alloc (Nat.le_refl _) _)).below hb5)
  clear k1 k2 k3 k4 k5 k6 k7
  obtain ⟨k1, k2, k3, k4, k5, k6, k7⟩ := HF5.out.cells
  have HL5 := Lib.hid (HL4.out.below hb5 (by simp))
  have Hb5 := Lib.hid ((Hb4.out.alloc Hb4.out.size (.cells #[.int .i64 (lo : Int)] 3)).trans (hb5.mono (Hb4.out.alloc Hb4.out.size _).size))
  have hl5 := HL5.out.cell 0
  simp only [List.getElem?_toArray, List.getElem?_cons_zero] at hl5
  have Hfo := Lib.hid (Hfound.out lo r (by have := Hlo.out; have := Hn.out; omega) (by have := Hd.out; have := Hn.out; omega) HA.out (fun i h1 h2 => HB.out i h1 (by have := Hn.out; omega)) hC (fun i h1 h2 => hD i h1 (by have := Hd.out; have := Hn.out; omega)))
  have hrb : (0 : Int) ≤ (r : Int) ∧ (r : Int) ≤ 1000001 ∧ (0 : Int) ≤ (lo : Int) ∧ (lo : Int) ≤ 1000001 := by have := Hd.out; omega
  clear hC hD hb5 hr HA HB hh4
  rcases Nat.eq_zero_or_pos r with hz | hz
  · subst hz
    rw [if_pos rfl] at Hfo
    injection Hfo.out with f1 f2
    go_wp2
    have hE := s_range_ret (u := .int .i64 (1)) (v := .int .i64 (0)) HF5.out.res
    have d0 := hE.cell 0
    have d1 := hE.cell 1
    simp only [List.getElem?_toArray, List.getElem?_cons_zero, List.getElem?_cons_succ] at d0 d1
    refine bodyPost_ret (v := .tuple #[.agg #[.int .i64 (1), .int .i64 (0)], .int .i64 0]) (by simp [results, Try.results18, go_sem, d0, d1]) rfl ⟨by rw [f1, f2], s_range_below Hb5.out (by omega)⟩
  · rw [if_neg (by omega)] at Hfo
    injection Hfo.out with f1 f2
    have hrz : ((r : Int) == 0) = false := by rw [beq_eq_false_iff_ne]; omega
    have hw1 : IntKind.i64.wrap ((lo : Int) + (r : Int)) = (lo : Int) + (r : Int) := by rw [IntKind.wrap_i64]; omega
    have hw2 : IntKind.i64.wrap ((lo : Int) + (r : Int) - 1) = (lo : Int) + (r : Int) - 1 := by rw [IntKind.wrap_i64]; omega
    clear Hfo
    go_wp2
    have hE := s_range_ret (u := .int .i64 (lo : Int)) (v := .int .i64 ((lo : Int) + (r : Int) - 1)) HF5.out.res
    have d0 := hE.cell 0
    have d1 := hE.cell 1
    simp only [List.getElem?_toArray, List.getElem?_cons_zero, List.getElem?_cons_succ] at d0 d1
    refine bodyPost_ret (v := .tuple #[.agg #[.int .i64 (lo : Int), .int .i64 ((lo : Int) + (r : Int) - 1)], .int .i64 0]) (by simp [results, Try.results18, go_sem, d0, d1]) rfl ⟨by rw [f1, f2], s_range_below Hb5.out (by omega)⟩

theorem sfF_sarr (s x : List UInt8) (h : s.length ≤ 20000) : sfF s (splc (sarr s)) x = (sfr s (splc (sarr s)) x (s.length + 1), 0) := by
  unfold sfF
  have hl : (splc (sarr s)).length = s.length + 1 := by rw [splc_len, sarr_len]
  rw [if_neg (fun h => h ⟨sarr_sord s, hl⟩), if_neg (by omega), if_pos (sarr_sup s), hl]
theorem p_sfind_any (s : List UInt8) (a : List Int) (x : List UInt8) (A : Option Addr) (n c : Nat) (w : World) (hs : s.length ≤ 1000000) (hx : x.length ≤ 1000000) (hm : n ≤ 1000000) (hr : Reads w w.heap.size 1 A n (ints a)) :
    Calls Try.prog 18 #[.string ⟨s.toArray⟩, .slice A n c, .string ⟨x.toArray⟩] w fun e w' => SFPost w w' e (sfF s a x) := by
  have en : a.length = n := by have := hr.1; rw [ints_length] at this; omega
  have Hrk := fun W (hW : Below w.heap.size w W) => s_ranksof_any s a A n c W hs hm (hr.upto hW)
  by_cases ho : sordF a = true ∧ a.length = s.length + 1
  · have hn : n = s.length + 1 := by omega
    have Hry : Hid (∀ W, Below w.heap.size w W → Calls Try.prog 29 #[.string ⟨s.toArray⟩, .slice A n c] W fun e w' => ∃ A2 c2, e = .returned (.tuple #[.slice A2 n c2, .int .i64 0]) ∧ Reads w' w'.heap.size 1 A2 n (ints (srk a a.length)) ∧ Below W.heap.size W w') := Lib.hid fun W hW => by
      refine (Hrk W hW).mono ?_
      rw [sroF_yes ho]
      rintro e w' ⟨A2, c2, rfl, _, hr2, hb2⟩
      have hl9 : (srk a a.length).length = n := by rw [srk_len, en]
      dsimp only at hr2
      rw [hl9] at hr2
      refine ⟨A2, c2, ?_, hr2, hb2⟩
      dsimp only
      rw [hl9]
    by_cases hbig : 20000 < s.length
    · have fin : sfF s a x = ((0, 0), 3) := by
        unfold sfF
        rw [if_neg (fun h => h ho), if_pos hbig]
      rw [fin]
      exact s_find_big s x A n c w hs hx (by omega) _ hbig Hry
    · have HS1 := fun (W : World) (Ar : Option Addr) (cr : Nat) (hW : Below w.heap.size w W) (hk : Reads W W.heap.size 1 Ar n (ints (srk a a.length))) => s_rising_any s a A Ar n c cr W hs ho.1 ho.2 hn (hr.upto hW) hk
      cases hsup : sup s a with
      | false =>
        have fin : sfF s a x = ((0, 0), 2) := by
          unfold sfF
          rw [if_neg (fun h => h ho), if_neg hbig, if_neg (by rw [hsup]; decide)]
        rw [fin]
        rw [hsup] at HS1
        exact s_find_fall s x A n c w hs hx (by omega) _ (by omega) Hry (Lib.hid HS1)
      | true =>
        have ea : a = splc (sarr s) := by
          have := (sup_is ho.1 ho.2).1 hsup
          rw [← this]
          exact plcs_is ho.1
        rw [hsup] at HS1
        have fin : sfF s a x = (sfr s (splc (sarr s)) x (s.length + 1), 0) := by rw [ea]; exact sfF_sarr s x (by omega)
        rw [fin]
        exact s_find_yes s x A n c w hs hx (by omega) _ (by omega) hn (by rw [← ea]; exact hr) Hry (Lib.hid HS1)
  · have fin : sfF s a x = ((0, 0), 2) := sf_no ho
    rw [fin]
    refine s_find_no s x A n c w hs hx (by omega) (Lib.hid fun W hW => (Hrk W hW).mono ?_)
    rw [sroF_no ho]
    rintro e w' ⟨A2, c2, rfl, _, hr2, hb2⟩
    exact ⟨A2, c2, rfl, hb2⟩
end Go.Proofs.Ytngenehleelcmaa
