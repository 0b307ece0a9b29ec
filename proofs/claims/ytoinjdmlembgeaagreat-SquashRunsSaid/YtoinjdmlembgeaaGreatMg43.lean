/-
 What the law of the last of these texts stands on, part 43.
-/
import Derived.Test.YtoinjdmlembgeaaGreatMg37
namespace Go.Proofs.YtoinjdmlembgeaaGreat
set_option linter.unusedSimpArgs false
set_option linter.unusedVariables false
open Go.ChangeShapes Go.WideShapes Go.ChangeAt Go.RowKit Go.Joins Go.Deep
theorem ydJ : (Tryz.prog.info? 5).map (fun i => (i.zero, i.size, i.bytes)) = some (some (.int .u8 0), 1, 1) := by kernel_rfl
theorem mk_bytes (n : Int) (N : Nat) (hN : (N : Int) = n) (h : N ≤ 281474976710656) (w : World) :
  (Instr.makeSlice 36 (.int .i64 n) (.int .i64 n)).run Tryz.prog w = .ok (.slice (some ⟨w.heap.size, 0, none⟩) N N) (w.alloc (.cells (bc (List.replicate N 0)) 5)) := by
 subst hN
 rw [← bc_zero]
 exact run_make_row' (P := Tryz.prog) 36 5 (.int .u8 0) 1 Tryz.underlying36 ydJ rfl .i64 .i64 N (by omega) (by omega) w
theorem str_blk (w : World) (g n c : Nat) (t : TypeId) (l : List UInt8) (hn : l.length = n) (h : Blk w g t (bc l)) :
  (convert 36 9 (.slice (some ⟨g, 0, none⟩) n c)).run Tryz.prog w = .ok (.string ⟨l.toArray⟩) w :=
 ycN Tryz.underlying36 Tryz.underlying5 Tryz.underlying9 w g 0 c l n hn fun j b hj => by rw [Nat.zero_add]; exact ycO h hj
def yem (w w' : World) (e : Ending) (F : List UInt8 × Int) : Prop := e = .returned (.tuple #[.string ⟨F.1.toArray⟩, .int .i64 F.2]) ∧ Below w.heap.size w w'
theorem biF_ok {l : List UInt8} {r : Nat} (h : ¬ 20000 < l.length) (k : ¬ bbad l (r : Int)) (ho : bok l r = true) : biF l (r : Int) = (bout (bcol l r) l.length, 0) := by unfold biF; rw [if_neg h, if_neg k, Int.toNat_natCast, if_pos ho]
theorem biF_cyc {l : List UInt8} {r : Nat} (h : ¬ 20000 < l.length) (k : ¬ bbad l (r : Int)) (ho : ¬ bok l r = true) : biF l (r : Int) = ([], 130) := by unfold biF; rw [if_neg h, if_neg k, Int.toNat_natCast, if_neg ho]
theorem bstep_at (l : List UInt8) (r : Nat) (h : r ≤ l.length) (k : Nat) (hne : bro (bcol l r) k ≠ r) : ∃ (x y : Nat) (b : UInt8) (h1 : x < (bcol l r).length) (h2 : x < (splc ((List.range (l.length + 1)).map (brk (bcol l r)))).length),
  bro (bcol l r) k = x ∧ bro (bcol l r) (k + 1) = y ∧ (bcol l r)[x] = (b.toNat : Int) ∧ (splc ((List.range (l.length + 1)).map (brk (bcol l r))))[x] = (y : Int) ∧ bout (bcol l r) (k + 1) = b :: bout (bcol l r) k ∧ x < l.length + 1 ∧ y < l.length + 1 := by
 have hc := ya3 l r h
 have h1 := yda (bcol l r) (by omega) k
 have h2 := yda (bcol l r) (by omega) (k + 1)
 obtain ⟨b, hb⟩ := bcol_byte l r _ h (by omega) hne
 refine ⟨bro (bcol l r) k, bro (bcol l r) (k + 1), b, h1, by rw [yao, List.length_map, List.length_range]; omega, rfl, rfl, ?_, ?_, ?_, by omega, by omega⟩
 ·rw [List.getD_eq_getElem?_getD, List.getElem?_eq_getElem h1] at hb
  exact hb
 ·rw [yey, List.getElem_map, List.getElem_range]
  rfl
 ·show bch _ :: _ = _
  rw [hb, bch_nat]
theorem bok_late (l : List UInt8) (r : Nat) (h : r ≤ l.length) (hn : ∀ k, k < l.length → bro (bcol l r) k ≠ r) : bok l r = true := by
 rw [bok_iff]
 refine ⟨hn, ?_⟩
 have hp := (bro_perm l r h hn).mem_iff (a := r)
 obtain ⟨k, hk, e⟩ := List.mem_map.1 (hp.2 (List.mem_range.2 (by omega)))
 rw [List.mem_range] at hk
 by_cases h2 : k < l.length
 ·exact absurd e (hn k h2)
 ·rw [show l.length = k from by omega]
  exact e
theorem bstep_last (l : List UInt8) (r : Nat) (h : r ≤ l.length) (k : Nat) (hne : bro (bcol l r) k ≠ r) : ∃ (x y j : Nat) (b : UInt8) (h2 : x < (splc ((List.range (l.length + 1)).map (brk (bcol l r)))).length) (hj : j < l.length),
  bro (bcol l r) k = x ∧ bro (bcol l r) (k + 1) = y ∧ l[j] = b ∧ ((x < r ∧ x = j) ∨ (r < x ∧ x = j + 1)) ∧ (splc ((List.range (l.length + 1)).map (brk (bcol l r))))[x] = (y : Int) ∧ bout (bcol l r) (k + 1) = b :: bout (bcol l r) k ∧ x < l.length + 1 ∧ y < l.length + 1 := by
 obtain ⟨x, y, b, h1, h2, e1, e2, e3, e4, e5, hx, hy⟩ := bstep_at l r h k hne
 have e6 : (bcol l r).getD x 0 = (b.toNat : Int) := by
  rw [List.getD_eq_getElem?_getD, List.getElem?_eq_getElem h1]
  exact e3
 rw [e1] at hne
 have hj : ∀ j (hj : j < l.length), (bcol l r).getD x 0 = ((l.getD j 0).toNat : Int) → l[j] = b := fun j hj e => by
  rw [e6, List.getD_eq_getElem?_getD, List.getElem?_eq_getElem hj, Option.getD_some] at e
  exact UInt8.toNat_inj.1 (by omega)
 by_cases hlt : x < r
 ·exact ⟨x, y, x, b, h2, by omega, e1, e2, hj x (by omega) (ygv l r x h hlt), Or.inl ⟨hlt, rfl⟩, e4, e5, hx, hy⟩
 ·exact ⟨x, y, x - 1, b, h2, by omega, e1, e2, hj (x - 1) (by omega) (yeF l r x h (by omega) hx), Or.inr ⟨by omega, by omega⟩, e4, e5, hx, hy⟩
theorem btx_set (q : Nat) (L : List UInt8) (b : UInt8) : (bc (List.replicate (q + 1) 0 ++ L)).setIfInBounds q (.int .u8 (b.toNat : Int)) = bc (List.replicate q 0 ++ b :: L) := by
 have h := bc_set (List.replicate q 0) L 0 b
 rw [List.length_replicate] at h
 rw [← h, List.replicate_succ', List.append_assoc]
 rfl
theorem btx_get (q : Nat) (L : List UInt8) : (bc (List.replicate (q + 1) 0 ++ L))[q]? = some (.int .u8 0) := by
 rw [bc_get, List.getElem?_append_left (by rw [List.length_replicate]; omega), List.getElem?_replicate]
 simp
set_option maxRecDepth 100000 in
set_option maxHeartbeats 1000000 in
theorem p_binverse_no (l : List UInt8) (r : Int) (w : World) (hs : l.length ≤ 1000000) (h : bck l r ≠ 0) :
  Calls Tryz.prog 61 #[.string ⟨l.toArray⟩, .int .i64 r] w fun e w' => yem w w' e (biF l r) := by
 have hp := yfB l r w hs
 unfold yfW at hp
 rw [(bck_no h).1] at hp
 rw [(bck_no h).2.1]
 dsimp only at hp
 have Hp := Lib.hid hp
 clear hp
 obtain ⟨E, hE⟩ : ∃ E, bck l r = E := ⟨_, rfl⟩
 rw [hE] at h Hp ⊢
 have d1 : (E != 0) = true := by simpa using h
 clear hE
 go_enter Tryz.func61, Tryz.ntmps61
 go_wp2_with (go_at_call 97; refine Hp.out.mono ?_; rintro e w1 ⟨A1, c1, rfl, _, _, hb1⟩)
 go_ret2
 exact ⟨rfl, hb1⟩
set_option maxRecDepth 100000 in
set_option maxHeartbeats 2000000 in
theorem p_binverse_yes (l : List UInt8) (r : Nat) (w : World) (hs : l.length ≤ 20000) (hg : ¬ bbad l (r : Int)) :
  Calls Tryz.prog 61 #[.string ⟨l.toArray⟩, .int .i64 (r : Int)] w fun e w' => yem w w' e (biF l (r : Int)) := by
 have hp := yfB l (r : Int) w (by omega)
 rw [bsF_yes (by omega) hg] at hp
 unfold yfW at hp
 dsimp only at hp
 obtain ⟨r2, e2, hr, _⟩ := bgood hg
 obtain rfl : r = r2 := by omega
 clear e2
 have hn : (splc ((List.range (l.length + 1)).map (brk (bcol l r)))).length = l.length + 1 := by rw [yao, List.length_map, List.length_range]
 rw [hn] at hp
 have Hst := Lib.hid (bstep_last l r hr)
 have Hla := Lib.hid fun x j b hj hx hb W => yfD l r x j b W (by omega) hj hr hx hb
 have Hok : Hid ((∀ j, j < l.length → bro (bcol l r) j ≠ r) → biF l (r : Int) = (bout (bcol l r) l.length, 0)) := Lib.hid fun h2 => biF_ok (by omega) hg (bok_late l r hr h2)
 have Hno : Hid (∀ k, k < l.length → bro (bcol l r) k = r → biF l (r : Int) = ([], 130)) := Lib.hid fun k hk h1 => biF_cyc (by omega) hg fun h2 => ((bok_iff l r).1 h2).1 k hk h1
 have H0 : Hid (bro (bcol l r) 0 = 0 ∧ bout (bcol l r) 0 = []) := Lib.hid ⟨rfl, rfl⟩
 have Hol := Lib.hid (yb6 (bcol l r))
 have hn0 : 0 < l.length + 1 := by omega
 have hri : (r : Int) ≤ (l.length : Int) ∧ (0 : Int) ≤ (r : Int) ∧ (l.length : Int) ≤ 20000 := by omega
 have Hp := Lib.hid hp
 have hmk := fun w => mk_bytes (l.length : Int) l.length rfl (by omega) w
 rw [show List.replicate l.length (0 : UInt8) = List.replicate l.length 0 ++ bout (bcol l r) 0 from (List.append_nil _).symm] at hmk
 clear hp hn hg
 generalize splc ((List.range (l.length + 1)).map (brk (bcol l r))) = S at *
 generalize bcol l r = C at *
 generalize biF l (r : Int) = F at *
 obtain ⟨T0, hT0⟩ : ∃ T0, bc (List.replicate l.length 0 ++ bout C 0) = T0 := ⟨_, rfl⟩
 rw [hT0] at hmk
 have HT0 := Lib.hid hT0
 clear hT0
 go_enter Tryz.func61, Tryz.ntmps61
 go_wp2_with (go_at_call 97; refine Hp.out.mono ?_; rintro e w1 ⟨A1, c1, rfl, _, hr1, hb1⟩; obtain ⟨bA, oA, rfl, hbA, hcA⟩ := yg5 hr1 hn0; have HcA := Lib.hid hcA; have HN := Lib.hid (Blk.new w1 5 T0); have HB0 := Lib.hid ((Below.refl w1.heap.size w1).alloc (Nat.le_refl _) (.cells T0 5)); have Hb := Lib.hid hb1; clear hb1 hr1 hbA hcA Hp; obtain ⟨g, hg1⟩ : ∃ g, w1.heap.size = g := ⟨_, rfl⟩; rw [hg1] at HcA HB0 HN; have Hg1 := Lib.hid hg1; simp only [hg1])
 clear hmk
 go_loopw [9, 10] (fun rv av wr => ∃ (k x m : Nat) (L : List UInt8), k + m = l.length ∧ av = .int .i64 ((m : Int) - 1) ∧ rv = .int .i64 (x : Int) ∧ Hid (bro C k = x ∧ bout C k = L ∧ ∀ j, j < k → bro C j ≠ r) ∧ Hid (Blk wr g 5 (bc (List.replicate m 0 ++ L))) ∧ Hid (Below g w1 wr)) (fun _ av _ => (intOf av + 1).toNat)
 case atStart => exact ⟨0, 0, l.length, [], by omega, rfl, rfl, Lib.hid ⟨H0.out.1, H0.out.2, fun j hj => absurd hj (Nat.not_lt_zero _)⟩, Lib.hid (by rw [← H0.out.2, HT0.out]; exact HN.out), HB0⟩
 case round =>
  obtain ⟨k, x, m, L, hk, rfl, rfl, HK, HB, HO⟩ := hrel
  clear HN HB0
  have Hfin : Hid (Below w.heap.size w wr) := Lib.hid (Hb.out.trans (HO.out.mono (by rw [← Hg1.out]; exact Hb.out.size)))
  cases m with
  | zero =>
   obtain rfl : k = l.length := by omega
   have hF := Hok.out HK.out.2.2
   have hll : L.length = l.length := by rw [← HK.out.2.1]; exact Hol.out _
   rw [HK.out.2.1] at hF
   subst hF
   have hcv := str_blk wr g l.length l.length 5 L hll HB.out
   go_wp2
   go_ret2
   exact ⟨rfl, Hfin.out⟩
  | succ q =>
   have hqi : (0 : Int) ≤ (q : Int) ∧ (q : Int) < (l.length : Int) := by omega
   by_cases hx : x = r
   ·have hF := Hno.out k (by omega) (by rw [HK.out.1]; exact hx)
    subst hF
    have d1 : ((x : Int) == (r : Int)) = true := by rw [hx]; simp
    have d2 : (x == r) = true := by rw [hx]; simp
    clear hx
    go_wp2
    go_ret2
    exact ⟨rfl, Hfin.out⟩
   ·have d1 : ((x : Int) == (r : Int)) = false := by rw [beq_eq_false_iff_ne]; omega
    have d2 : (x == r) = false := by rw [beq_eq_false_iff_ne]; omega
    obtain ⟨x2, y, j, b, h2, hj, e1, e2, e3, e4, e5, e6, hx2, hy2⟩ := Hst.out k (by rw [HK.out.1]; exact hx)
    have exx : x2 = x := by rw [← e1]; exact HK.out.1
    subst exx
    have HK2 : Hid (bro C (k + 1) = y ∧ bout C (k + 1) = b :: L ∧ ∀ j, j < k + 1 → bro C j ≠ r) := Lib.hid ⟨e2, by rw [e6, HK.out.2.1], fun j hj => by
     by_cases e : j = k
     ·rw [e, HK.out.1]; exact hx
     ·exact HK.out.2.2 j (by omega)⟩
    have HL := Lib.hid fun W => Hla.out x2 j b hj e4 e3 W
    have x3 := HB.out.cell q
    rw [btx_get] at x3
    have x4 := HB.out.frozen q
    have x5 := HB.out.lt
    have HB2 := Lib.hid (HB.out.set_ q (.int .u8 (b.toNat : Int)))
    rw [btx_set] at HB2
    have HO2 := Lib.hid (HO.out.setCell (p := ⟨g, q, none⟩) (Nat.le_refl _) (.int .u8 (b.toNat : Int)))
    have x6 := HcA.out _ HO2.out x2 h2
    rw [e5] at x6
    have hxi : (0 : Int) ≤ (x2 : Int) ∧ (x2 : Int) < (l.length : Int) + 1 := by omega
    clear e1 e2 e3 e4 e5 e6 h2 hj hx HK hx2 hy2 Hst Hla HB
    go_wp2_with (go_at_call 98; refine (HL.out _).mono ?_; rintro e wr ⟨rfl, rfl⟩)
    go_roundw
    case rel => exact ⟨k + 1, y, q, b :: L, by omega, rfl, rfl, HK2, HB2, HO2⟩
    case measure => simp only [intOf]; omega
theorem p_binverse_any (l : List UInt8) (r : Int) (w : World) (hs : l.length ≤ 1000000) :
  Calls Tryz.prog 61 #[.string ⟨l.toArray⟩, .int .i64 r] w fun e w' => yem w w' e (biF l r) := by
 by_cases h : bck l r = 0
 ·obtain ⟨h1, h2⟩ := bck_zero h
  obtain ⟨k, rfl, _⟩ := bgood h2
  exact p_binverse_yes l k w (by omega) h2
 ·exact p_binverse_no l r w hs h
theorem mkfunc (fn : Fn) (first cap : Array Value) (w : World) : (Instr.makeFunc fn first cap).run Tryz.prog w = .ok (.func fn first cap) w := rfl
theorem mint_info : (Tryz.prog.info? 3).map (fun i => (i.zero, i.size, i.bytes)) = some (some (.int .i64 0), 1, 8) := by kernel_rfl
theorem ints_zero (n : Nat) : madeCells #[.int .i64 0] n = (ints (List.replicate n 0)).toArray := by
 unfold ints
 apply Array.ext'
 simp [madeCells, Nat.mod_one]
 rw [List.map_const', List.length_range]
theorem mk_ints (n : Int) (N : Nat) (hN : (N : Int) = n) (h : N ≤ 17592186044416) (w : World) :
  (Instr.makeSlice 28 (.int .i64 n) (.int .i64 n)).run Tryz.prog w = .ok (.slice (some ⟨w.heap.size, 0, none⟩) N N) (w.alloc (.cells (ints (List.replicate N 0)).toArray 3)) := by
 subst hN
 rw [← ints_zero]
 exact run_make_row' (P := Tryz.prog) 28 3 (.int .i64 0) 8 Tryz.underlying28 mint_info rfl .i64 .i64 N (by omega) (by omega) w
def rk (l : List UInt8) (k : Nat) : List Int := rks row0 (l.take k) ++ List.replicate (l.length - k) 0
theorem rk_zero (l : List UInt8) : rk l 0 = List.replicate l.length 0 := by simp [rk, rks]
theorem rk_all (l : List UInt8) : rk l l.length = rks row0 l := by simp [rk]
theorem rk_len (l : List UInt8) (k : Nat) (h : k ≤ l.length) : (rk l k).length = l.length := by
 unfold rk
 rw [List.length_append, yhj, List.length_replicate, List.length_take]
 omega
theorem set_mid {α : Type} (A C : List α) (x y : α) (k : Nat) (h : A.length = k) : (A ++ x :: C).set k y = A ++ y :: C := by
 subst h
 simp
theorem rk_set (l : List UInt8) (k : Nat) (h : k < l.length) : (rk l k).set k (pl (rowS row0 (l.take k)) l[k] : Int) = rk l (k + 1) := by
 unfold rk
 rw [show l.length - k = (l.length - (k + 1)) + 1 from by omega, List.replicate_succ, set_mid _ _ _ _ _ (by rw [yhj, List.length_take]; omega), rks_take _ _ _ h]
 simp
theorem ints_set (l : List Int) (k : Nat) (v : Int) : (ints l).toArray.setIfInBounds k (.int .i64 v) = (ints (l.set k v)).toArray := by
 rw [List.setIfInBounds_toArray]
 simp [ints, List.map_set]
structure RHold6 (w wr : World) (R : List UInt8) (t : TypeId) (cs : Array Value) : Prop where
 row : Blk wr w.heap.size 121 (bc R)
 out : Blk wr (w.heap.size + 1) t cs
 below : Below w.heap.size w wr
section
variable {w wr w1 : World} {R R' : List UInt8} {t : TypeId} {cs : Array Value}
theorem RHold6.start (w : World) (t : TypeId) (cs : Array Value) : RHold6 w ((w.alloc (.cells (bc row0) 121)).alloc (.cells cs t)) row0 t cs := by
 refine ⟨(Blk.new w _ _).alloc _, ?_, ((Below.refl _ _).alloc (Nat.le_refl _) _).alloc (by simp) _⟩
 have := Blk.new (w.alloc (.cells (bc row0) 121)) t cs
 rwa [show (w.alloc (.cells (bc row0) 121)).heap.size = w.heap.size + 1 from by simp] at this
theorem RHold6.next (h : RHold6 w wr R t cs) (hg : wr.grownBy w1 (some w.heap.size)) (hb : Blk w1 w.heap.size 121 (bc R')) (i : Nat) (v : Value) : RHold6 w (w1.setCell ⟨w.heap.size + 1, i, none⟩ v) R' t (cs.setIfInBounds i v) :=
 ⟨hb.far (by simp) v, (h.out.grow hg (by omega)).set_ i v, (h.below.trans (ydH hg (Nat.le_refl _) h.below.size)).setCell (by simp) v⟩
end
set_option maxRecDepth 100000 in
set_option maxHeartbeats 2000000 in
theorem fr_ranks_any (l : List UInt8) (hl : l.length ≤ 1000000) (w : World) :
  Calls Tryz.prog 20 #[.string ⟨l.toArray⟩] w fun e w' => ∃ A c, e = .returned (.slice A l.length c) ∧ l.length ≤ c ∧ Reads w' w'.heap.size 1 A l.length (ints (rks row0 l)) ∧ Below w.heap.size w w' := by
 have hmf := mkfunc
 have hmk := fun W => mk_ints (l.length : Int) l.length rfl (by omega) W
 have Hset : Hid (∀ k (h : k < l.length), (ints (rk l k)).toArray.setIfInBounds k (.int .i64 (pl (rowS row0 (l.take k)) l[k] : Int)) = (ints (rk l (k + 1))).toArray) := Lib.hid fun k h => by rw [ints_set, rk_set l k h]
 have Hget : Hid (∀ k, k < l.length → ∃ v, (ints (rk l k)).toArray[k]? = some v) := Lib.hid fun k hk => ⟨_, Array.getElem?_eq_getElem (by simp [ints, rk_len l k (by omega)]; exact hk)⟩
 have Hstart : Hid (RHold6 w ((w.alloc (.cells (bc row0) 121)).alloc (.cells (ints (List.replicate l.length 0)).toArray 3)) (rowS row0 (l.take 0)) 3 (ints (rk l 0)).toArray) := Lib.hid (by
  rw [rk_zero]
  exact RHold6.start w 3 _)
 have Hend : Hid (∀ wr, RHold6 w wr (rowS row0 (l.take l.length)) 3 (ints (rk l l.length)).toArray → Reads wr wr.heap.size 1 (some ⟨w.heap.size + 1, 0, none⟩) l.length (ints (rks row0 l))) := Lib.hid fun wr h => by
  rw [rk_all] at h
  refine ⟨by rw [yab, yhj]; omega, fun _ => ⟨_, _, rfl, h.out.lt, fun j u hj => ?_⟩⟩
  rw [Nat.zero_add, h.out.cell]
  simpa using hj
 have hll : (l.length : Int) ≤ 1000000 := by omega
 clear hl
 generalize (ints (List.replicate l.length 0)).toArray = Z0 at *
 go_enter Tryz.func20, Tryz.ntmps20
 go_wp2_with (go_at_call 42; refine (yfM _).mono ?_; rintro e w1 ⟨rfl, rfl⟩)
 go_loopw [13] (fun i wr => ∃ k : Nat, k ≤ l.length ∧ i = .int .i64 k ∧ Hid (RHold6 w wr (rowS row0 (l.take k)) 3 (ints (rk l k)).toArray)) (fun i _ => l.length - (intOf i).toNat)
 case atStart => exact ⟨0, by omega, rfl, Hstart.out⟩
 case round =>
  obtain ⟨k, hk, rfl, Hh⟩ := hrel
  by_cases hlt : k < l.length
  ·have hki : (0 : Int) ≤ (k : Int) ∧ (k : Int) < l.length := by omega
   have hks : k < (ByteArray.mk l.toArray).size := by rw [ByteArray.size_mk']; simpa using hlt
   have Hs := Lib.hid (Hset.out k hlt)
   obtain ⟨v, hv⟩ := Hget.out k hlt
   have hst : ∀ (wr : World) (hB : Blk wr w.heap.size 121 (bc (rowS row0 (l.take k)))), Calls Tryz.prog 43 #[.pointer (some ⟨w.heap.size, 0, none⟩), .int .u8 ((((ByteArray.mk l.toArray)[k]'hks).toNat : Nat) : Int)] wr fun e w' => e = .returned (.int .i64 (pl (rowS row0 (l.take k)) l[k] : Int)) ∧ wr.grownBy w' (some w.heap.size) ∧ Blk w' w.heap.size 121 (bc (rowS row0 (l.take (k + 1)))) := fun wr hB => by
    rw [rowS_take _ _ _ hlt]
    exact fr_step_any _ (row0_whole.rowS _) l[k] w.heap.size wr hB
   have Hst := Lib.hid (hst wr Hh.out.row)
   have hcell : ∀ w1, wr.grownBy w1 (some w.heap.size) → w1.cell? ⟨w.heap.size + 1, k, none⟩ = some v ∧ w1.frozen? ⟨w.heap.size + 1, k, none⟩ = false := fun w1 hg => ⟨by rw [(Hh.out.out.grow hg (by omega)).cell]; exact hv, (Hh.out.out.grow hg (by omega)).frozen k⟩
   have Hcell := Lib.hid hcell
   clear hst hcell hv
   generalize (pl (rowS row0 (l.take k)) l[k] : Int) = j at *
   go_wp2_with (go_at_call 43; refine Hst.out.mono ?_; rintro e w1 ⟨rfl, hg1, hb1⟩; obtain ⟨x1, x2⟩ := Hcell.out w1 hg1; have Hn := Lib.hid (Hh.out.next hg1 hb1 k (.int .i64 j)); clear hg1 hb1)
   go_roundw
   case rel => exact ⟨k + 1, by omega, iv (by omega), Lib.hid (by rw [← Hs.out]; exact Hn.out)⟩
   case measure => simp only [intOf]; omega
  ·obtain rfl : k = l.length := by omega
   go_wp2
   go_ret
   exact ⟨_, _, rfl, Nat.le_refl _, Hend.out _ Hh.out, Hh.out.below⟩
def tx (ks : List Int) (k : Nat) : List UInt8 := bys row0 (ks.take k) ++ List.replicate (ks.length - k) 0
theorem tx_zero (ks : List Int) : tx ks 0 = List.replicate ks.length 0 := by simp [tx, bys]
theorem tx_all (ks : List Int) : tx ks ks.length = bys row0 ks := by simp [tx]
theorem tx_len (l : List Int) (k : Nat) (h : k ≤ l.length) : (tx l k).length = l.length := by
 unfold tx
 rw [List.length_append, ygL, List.length_replicate, List.length_take]
 omega
theorem tx_set (l : List Int) (k : Nat) (h : k < l.length) : (tx l k).set k ((rowK row0 (l.take k)).getD l[k].toNat 0) = tx l (k + 1) := by
 unfold tx
 rw [show l.length - k = (l.length - (k + 1)) + 1 from by omega, List.replicate_succ, set_mid _ _ _ _ _ (by rw [ygL, List.length_take]; omega), bys_take _ _ _ h]
 simp
theorem bca_set (l : List UInt8) (k : Nat) (b : UInt8) : (bc l).setIfInBounds k (.int .u8 (b.toNat : Int)) = bc (l.set k b) := by
 unfold bc
 rw [List.setIfInBounds_toArray]
 simp [List.map_set]
theorem text_bad (ks : List Int) (k : Nat) (h : k < ks.length) (hb : ¬(0 ≤ ks[k] ∧ ks[k] ≤ 255)) : ydh ks = ([], 60) := by
 have : ydr ks = false := by
  unfold ydr
  rw [List.all_eq_false]
  refine ⟨ks[k], List.getElem_mem h, ?_⟩
  simpa using hb
 unfold ydh
 rw [this]
 rfl
theorem text_good (ks : List Int) (h : ydr ks = true) : ydh ks = (bys row0 ks, 0) := by
 unfold ydh
 rw [if_pos h]
theorem rgood_take (ks : List Int) (k : Nat) (h : k < ks.length) (hg : ydr (ks.take k) = true) (hb : 0 ≤ ks[k] ∧ ks[k] ≤ 255) : ydr (ks.take (k + 1)) = true := by
 rw [yc0 ks k h, rgood_snoc, hg]
 simp [hb.1, hb.2]
set_option maxRecDepth 100000 in
set_option maxHeartbeats 2000000 in
theorem fr_text_any (A : Option Addr) (n c : Nat) (ks : List Int) (w : World) (hn : n ≤ 1000000) (hr : Reads w w.heap.size 1 A n (ints ks)) :
  Calls Tryz.prog 60 #[.slice A n c] w fun e w' => e = .returned (.tuple #[.string ⟨(ydh ks).1.toArray⟩, .int .i64 (ydh ks).2]) ∧ Below w.heap.size w w' := by
 have hmf := mkfunc
 have en : ks.length = n := by have := hr.1; rw [yab] at this; omega
 have hmk := fun W => mk_bytes (n : Int) n rfl (by omega) W
 have Hread : Hid (∀ k (h : k < ks.length) wr, Below w.heap.size w wr → ∃ b off, A = some ⟨b, off, none⟩ ∧ wr.cell? ⟨b, off + k, none⟩ = some (.int .i64 ks[k])) := Lib.hid fun k h wr hb => by
  obtain ⟨b, off, e, hlt, hc⟩ := hr.2 (by omega)
  exact ⟨b, off, e, (hb.cell (p := ⟨b, off + k, none⟩) hlt).trans (hc k _ (yai ks k h))⟩
 have Hset : Hid (∀ k (h : k < ks.length), (bc (tx ks k)).setIfInBounds k (.int .u8 (((rowK row0 (ks.take k)).getD ks[k].toNat 0).toNat : Int)) = bc (tx ks (k + 1))) := Lib.hid fun k h => by rw [bca_set, tx_set ks k h]
 have Hget : Hid (∀ k, k < ks.length → ∃ v, (bc (tx ks k))[k]? = some v) := Lib.hid fun k hk => ⟨_, Array.getElem?_eq_getElem (by rw [ygS, tx_len ks k (by omega)]; exact hk)⟩
 have Hstart : Hid (RHold6 w ((w.alloc (.cells (bc row0) 121)).alloc (.cells (bc (List.replicate n 0)) 5)) (rowK row0 (ks.take 0)) 5 (bc (tx ks 0))) := Lib.hid (by
  rw [tx_zero, en]
  exact RHold6.start w 5 _)
 have Hend : Hid (∀ wr, RHold6 w wr (rowK row0 (ks.take n)) 5 (bc (tx ks n)) → (convert 36 9 (.slice (some ⟨w.heap.size + 1, 0, none⟩) n n)).run Tryz.prog wr = .ok (.string ⟨(bys row0 ks).toArray⟩) wr) := Lib.hid fun wr h => by
  have hh := h.out
  rw [← en, tx_all] at hh
  exact str_blk wr _ n n _ _ (by rw [ygL]; exact en) hh
 have Hbad : Hid (∀ k (h : k < ks.length), ¬(0 ≤ ks[k] ∧ ks[k] ≤ 255) → ydh ks = ([], 60)) := Lib.hid fun k h hb => text_bad ks k h hb
 have Hgood : Hid (ydr ks = true → ydh ks = (bys row0 ks, 0)) := Lib.hid (text_good ks)
 have Hen := Lib.hid en
 have hnn : (n : Int) ≤ 1000000 := by omega
 clear hn hr en
 generalize ydh ks = F at *
 generalize bc (List.replicate n 0) = Z0 at *
 go_enter Tryz.func60, Tryz.ntmps60
 go_wp2_with (go_at_call 42; refine (yfM _).mono ?_; rintro e w1 ⟨rfl, rfl⟩)
 go_loopw [15] (fun i wr => ∃ k : Nat, k ≤ n ∧ i = .int .i64 k ∧ Hid (ydr (ks.take k) = true) ∧ Hid (RHold6 w wr (rowK row0 (ks.take k)) 5 (bc (tx ks k)))) (fun i _ => n - (intOf i).toNat)
 case atStart => exact ⟨0, by omega, rfl, rfl, Hstart.out⟩
 case round =>
  obtain ⟨k, hk, rfl, Hg, Hh⟩ := hrel
  by_cases hlt : k < n
  ·have hki : (0 : Int) ≤ (k : Int) ∧ (k : Int) < n := by omega
   have hkl : k < ks.length := by rw [Hen.out]; exact hlt
   obtain ⟨b, off, rfl, hrd⟩ := Hread.out k hkl wr Hh.out.below
   by_cases hneg : ks[k] < 0
   ·have Hf := Lib.hid (Hbad.out k hkl (by omega))
    clear Hbad
    generalize ks[k] = x at *
    go_wp2
    go_ret2
    rw [Hf.out]
    exact ⟨rfl, Hh.out.below⟩
   ·by_cases hbig : 255 < ks[k]
    ·have Hf := Lib.hid (Hbad.out k hkl (by omega))
     clear Hbad
     generalize ks[k] = x at *
     go_wp2
     go_ret2
     rw [Hf.out]
     exact ⟨rfl, Hh.out.below⟩
    ·have hx0 : 0 ≤ ks[k] := by omega
     have Hgn := Lib.hid (rgood_take ks k hkl Hg.out ⟨hx0, by omega⟩)
     have Hs := Lib.hid (Hset.out k hkl)
     obtain ⟨v, hv⟩ := Hget.out k hkl
     have hst : ∀ (wr : World) (hB : Blk wr w.heap.size 121 (bc (rowK row0 (ks.take k)))), Calls Tryz.prog 84 #[.pointer (some ⟨w.heap.size, 0, none⟩), .int .i64 ks[k]] wr fun e w' => e = .returned (.int .u8 (((rowK row0 (ks.take k)).getD ks[k].toNat 0).toNat : Int)) ∧ wr.grownBy w' (some w.heap.size) ∧ Blk w' w.heap.size 121 (bc (rowK row0 (ks.take (k + 1)))) := fun wr hB => by
      rw [rowK_take _ _ _ hkl]
      have := yfO _ (row0_whole.rowK _ Hg.out) ks[k].toNat (by omega) w.heap.size wr hB
      rwa [show ((ks[k].toNat : Nat) : Int) = ks[k] from by omega] at this
     have Hst := Lib.hid (hst wr Hh.out.row)
     have hcell : ∀ w1, wr.grownBy w1 (some w.heap.size) → w1.cell? ⟨w.heap.size + 1, k, none⟩ = some v ∧ w1.frozen? ⟨w.heap.size + 1, k, none⟩ = false := fun w1 hg => ⟨by rw [(Hh.out.out.grow hg (by omega)).cell]; exact hv, (Hh.out.out.grow hg (by omega)).frozen k⟩
     have Hcell := Lib.hid hcell
     clear hst hcell hv Hbad
     generalize (((rowK row0 (ks.take k)).getD ks[k].toNat 0).toNat : Int) = j at *
     generalize ks[k] = x at *
     go_wp2_with (go_at_call 84; refine Hst.out.mono ?_; rintro e w1 ⟨rfl, hg1, hb1⟩; obtain ⟨x1, x2⟩ := Hcell.out w1 hg1; have Hn := Lib.hid (Hh.out.next hg1 hb1 k (.int .u8 j)); clear hg1 hb1)
     go_roundw
     case rel => exact ⟨k + 1, by omega, iv (by omega), Hgn.out, Lib.hid (by rw [← Hs.out]; exact Hn.out)⟩
     case measure => simp only [intOf]; omega
  ·obtain rfl : k = n := by omega
   have hcv := Hend.out wr Hh.out
   have Hf := Lib.hid (Hgood.out (by have := Hg.out; rwa [List.take_of_length_le (by rw [Hen.out]; omega)] at this))
   go_wp2
   go_ret2
   rw [Hf.out]
   exact ⟨rfl, Hh.out.below⟩
end Go.Proofs.YtoinjdmlembgeaaGreat
