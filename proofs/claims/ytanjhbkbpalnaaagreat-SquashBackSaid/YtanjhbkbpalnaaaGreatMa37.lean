/-
 What the law of the last of these texts stands on, part 37.
-/
import Derived.Test.YtanjhbkbpalnaaaGreatMa30
set_option maxRecDepth 100000
set_option maxHeartbeats 8000000
open Go.Proofs.Tryz
namespace Go.Proofs.YtanjhbkbpalnaaaGreat
set_option linter.unusedSimpArgs false
set_option linter.unusedVariables false
open Go.ChangeShapes Go.WideShapes Go.ChangeAt Go.RowKit Go.Joins Go.Deep
def yeb (w w' : World) (e : Ending) (F : List UInt8 × Int) : Prop := e = .returned (.tuple #[.string ⟨F.1.toArray⟩, .int .i64 F.2]) ∧ Below w.heap.size w w'
theorem biF_ok {l : List UInt8} {r : Nat} (h : ¬ 20000 < l.length) (k : ¬ bbad l (r : Int)) (ho : bok l r = true) : biF l (r : Int) = (bout (bcol l r) l.length, 0) := by unfold biF; rw [qae h, qae k, qan, qag ho]
theorem biF_cyc {l : List UInt8} {r : Nat} (h : ¬ 20000 < l.length) (k : ¬ bbad l (r : Int)) (ho : ¬ bok l r = true) : biF l (r : Int) = ([], 130) := by unfold biF; rw [qae h, qae k, qan, qae ho]
theorem bstep_at (l : List UInt8) (r : Nat) (h : r ≤ l.length) (k : Nat) (hne : bro (bcol l r) k ≠ r) : ∃ (x y : Nat) (b : UInt8) (h1 : x < (bcol l r).length) (h2 : x < (splc ((List.range (l.length + 1)).map (brk (bcol l r)))).length),
  bro (bcol l r) k = x ∧ bro (bcol l r) (k + 1) = y ∧ (bcol l r)[x] = (b.toNat : Int) ∧ (splc ((List.range (l.length + 1)).map (brk (bcol l r))))[x] = (y : Int) ∧ bout (bcol l r) (k + 1) = b :: bout (bcol l r) k ∧ x < l.length + 1 ∧ y < l.length + 1 := by
 have hc := ya3 l r h
 have h1 := ycQ (bcol l r) (by omega) k
 have h2 := ycQ (bcol l r) (by omega) (k + 1)
 obtain ⟨b, hb⟩ := bcol_byte l r _ h (by omega) hne
 refine ⟨bro (bcol l r) k, bro (bcol l r) (k + 1), b, h1, by rw [yao, qaD, qa7]; omega, rfl, rfl, ?_, ?_, ?_, by omega, by omega⟩
 ·rw [qaj, qah h1] at hb
  exact hb
 ·rw [yeJ, qaQ, qbd]
  rfl
 ·show bch _ :: _ = _
  rw [hb, bch_nat]
theorem bok_late (l : List UInt8) (r : Nat) (h : r ≤ l.length) (hn : ∀ k, k < l.length → bro (bcol l r) k ≠ r) : bok l r = true := by
 rw [bok_iff]
 refine ⟨hn, ?_⟩
 have hp := (bro_perm l r h hn).mem_iff (a := r)
 obtain ⟨k, hk, e⟩ := qb5.1 (hp.2 (qaS.2 (by omega)))
 rw [qaS] at hk
 by_cases h2 : k < l.length
 ·exact absurd e (hn k h2)
 ·rw [show l.length = k from by omega]
  exact e
theorem bstep_last (l : List UInt8) (r : Nat) (h : r ≤ l.length) (k : Nat) (hne : bro (bcol l r) k ≠ r) : ∃ (x y j : Nat) (b : UInt8) (h2 : x < (splc ((List.range (l.length + 1)).map (brk (bcol l r)))).length) (hj : j < l.length),
  bro (bcol l r) k = x ∧ bro (bcol l r) (k + 1) = y ∧ l[j] = b ∧ ((x < r ∧ x = j) ∨ (r < x ∧ x = j + 1)) ∧ (splc ((List.range (l.length + 1)).map (brk (bcol l r))))[x] = (y : Int) ∧ bout (bcol l r) (k + 1) = b :: bout (bcol l r) k ∧ x < l.length + 1 ∧ y < l.length + 1 := by
 obtain ⟨x, y, b, h1, h2, e1, e2, e3, e4, e5, hx, hy⟩ := bstep_at l r h k hne
 have e6 : (bcol l r).getD x 0 = (b.toNat : Int) := by
  rw [qaj, qah h1]
  exact e3
 rw [e1] at hne
 have hj : ∀ j (hj : j < l.length), (bcol l r).getD x 0 = ((l.getD j 0).toNat : Int) → l[j] = b := fun j hj e => by
  rw [e6, qaj, qah hj, qbG] at e
  exact qc7.1 (by omega)
 by_cases hlt : x < r
 ·exact ⟨x, y, x, b, h2, by omega, e1, e2, hj x (by omega) (yge l r x h hlt), qay ⟨hlt, rfl⟩, e4, e5, hx, hy⟩
 ·exact ⟨x, y, x - 1, b, h2, by omega, e1, e2, hj (x - 1) (by omega) (yeo l r x h (by omega) hx), qaI ⟨by omega, by omega⟩, e4, e5, hx, hy⟩
theorem btx_set (q : Nat) (L : List UInt8) (b : UInt8) : (bc (List.replicate (q + 1) 0 ++ L)).setIfInBounds q (.int .u8 (b.toNat : Int)) = bc (List.replicate q 0 ++ b :: L) := by
 have h := bc_set (List.replicate q 0) L 0 b
 rw [qav] at h
 rw [← h, qcf, qam]
 rfl
theorem btx_get (q : Nat) (L : List UInt8) : (bc (List.replicate (q + 1) 0 ++ L))[q]? = some (.int .u8 0) := by
 rw [bc_get, qbN (by rw [qav]; omega), List.getElem?_replicate]
 simp
theorem p_binverse_no (l : List UInt8) (r : Int) (w : World) (hs : l.length ≤ 1000000) (h : bck l r ≠ 0) :
  Calls prog 93 #[.string ⟨l.toArray⟩, .int .i64 r] w fun e w' => yeb w w' e (biF l r) := by
 have hp := yf3 l r w hs
 unfold yfR at hp
 rw [(bck_no h).1] at hp
 rw [(bck_no h).2.1]
 dsimp only at hp
 have Hp := qaa hp
 clear hp
 obtain ⟨E, hE⟩ : ∃ E, bck l r = E := ⟨_, rfl⟩
 rw [hE] at h Hp ⊢
 have d1 : (E != 0) = true := by simpa using h
 clear hE
 go_enter func93, ntmps93
 go_wp2_with (go_at_call 136; refine Hp.out.mono ?_; rintro e w1 ⟨A1, c1, rfl, _, _, hb1⟩)
 go_ret2
 exact ⟨rfl, hb1⟩
theorem p_binverse_yes (l : List UInt8) (r : Nat) (w : World) (hs : l.length ≤ 20000) (hg : ¬ bbad l (r : Int)) :
  Calls prog 93 #[.string ⟨l.toArray⟩, .int .i64 (r : Int)] w fun e w' => yeb w w' e (biF l (r : Int)) := by
 have hp := yf3 l (r : Int) w (by omega)
 rw [bsF_yes (by omega) hg] at hp
 unfold yfR at hp
 dsimp only at hp
 obtain ⟨r2, e2, hr, _⟩ := bgood hg
 obtain rfl : r = r2 := by omega
 clear e2
 have hn : (splc ((List.range (l.length + 1)).map (brk (bcol l r)))).length = l.length + 1 := by rw [yao, qaD, qa7]
 rw [hn] at hp
 have Hst := qaa (bstep_last l r hr)
 have Hla := qaa fun x j b hj hx hb W => yf7 l r x j b W (by omega) hj hr hx hb
 have Hok : Hid ((∀ j, j < l.length → bro (bcol l r) j ≠ r) → biF l (r : Int) = (bout (bcol l r) l.length, 0)) := qaa fun h2 => biF_ok (by omega) hg (bok_late l r hr h2)
 have Hno : Hid (∀ k, k < l.length → bro (bcol l r) k = r → biF l (r : Int) = ([], 130)) := qaa fun k hk h1 => biF_cyc (by omega) hg fun h2 => ((bok_iff l r).1 h2).1 k hk h1
 have H0 : Hid (bro (bcol l r) 0 = 0 ∧ bout (bcol l r) 0 = []) := qaa ⟨rfl, rfl⟩
 have Hol := qaa (yb2 (bcol l r))
 have hn0 : 0 < l.length + 1 := by omega
 have hri : (r : Int) ≤ (l.length : Int) ∧ (0 : Int) ≤ (r : Int) ∧ (l.length : Int) ≤ 20000 := by omega
 have Hp := qaa hp
 have hmk := fun w => mk_bytes (l.length : Int) l.length rfl (by omega) w
 rw [show List.replicate l.length (0 : UInt8) = List.replicate l.length 0 ++ bout (bcol l r) 0 from (qa8 _).symm] at hmk
 clear hp hn hg
 generalize splc ((List.range (l.length + 1)).map (brk (bcol l r))) = S at *
 generalize bcol l r = C at *
 generalize biF l (r : Int) = F at *
 obtain ⟨T0, hT0⟩ : ∃ T0, bc (List.replicate l.length 0 ++ bout C 0) = T0 := ⟨_, rfl⟩
 rw [hT0] at hmk
 have HT0 := qaa hT0
 clear hT0
 go_enter func93, ntmps93
 go_wp2_with (go_at_call 136; refine Hp.out.mono ?_; rintro e w1 ⟨A1, c1, rfl, _, hr1, hb1⟩; obtain ⟨bA, oA, rfl, hbA, hcA⟩ := yhm hr1 hn0; have HcA := qaa hcA; have HN := qaa (Blk.new w1 5 T0); have HB0 := qaa ((qak w1.heap.size w1).alloc (qad _) (.cells T0 5)); have Hb := qaa hb1; clear hb1 hr1 hbA hcA Hp; obtain ⟨g, hg1⟩ : ∃ g, w1.heap.size = g := ⟨_, rfl⟩; rw [hg1] at HcA HB0 HN; have Hg1 := qaa hg1; simp only [hg1])
 clear hmk
 go_loopw [9, 10] (fun rv av wr => ∃ (k x m : Nat) (L : List UInt8), k + m = l.length ∧ av = .int .i64 ((m : Int) - 1) ∧ rv = .int .i64 (x : Int) ∧ Hid (bro C k = x ∧ bout C k = L ∧ ∀ j, j < k → bro C j ≠ r) ∧ Hid (Blk wr g 5 (bc (List.replicate m 0 ++ L))) ∧ Hid (Below g w1 wr)) (fun _ av _ => (intOf av + 1).toNat)
 case atStart => exact ⟨0, 0, l.length, [], by omega, rfl, rfl, qaa ⟨H0.out.1, H0.out.2, fun j hj => absurd hj (Nat.not_lt_zero _)⟩, qaa (by rw [← H0.out.2, HT0.out]; exact HN.out), HB0⟩
 case round =>
  obtain ⟨k, x, m, L, hk, rfl, rfl, HK, HB, HO⟩ := hrel
  clear HN HB0
  have Hfin : Hid (Below w.heap.size w wr) := qaa (Hb.out.trans (HO.out.mono (by rw [← Hg1.out]; exact Hb.out.size)))
  cases m with
  | zero =>
   obtain rfl : k = l.length := by omega
   have hF := Hok.out HK.out.2.2
   have hll : L.length = l.length := by rw [← HK.out.2.1]; exact Hol.out _
   rw [HK.out.2.1] at hF
   subst hF
   have hcv := str_blk wr g l.length l.length 5 L hll HB.out
   go_wp2
   go_ret2
   exact ⟨rfl, Hfin.out⟩
  | succ q =>
   have hqi : (0 : Int) ≤ (q : Int) ∧ (q : Int) < (l.length : Int) := by omega
   by_cases hx : x = r
   ·have hF := Hno.out k (by omega) (by rw [HK.out.1]; exact hx)
    subst hF
    have d1 : ((x : Int) == (r : Int)) = true := by rw [hx]; simp
    have d2 : (x == r) = true := by rw [hx]; simp
    clear hx
    go_wp2
    go_ret2
    exact ⟨rfl, Hfin.out⟩
   ·have d1 : ((x : Int) == (r : Int)) = false := by rw [qb0]; omega
    have d2 : (x == r) = false := by rw [qb0]; omega
    obtain ⟨x2, y, j, b, h2, hj, e1, e2, e3, e4, e5, e6, hx2, hy2⟩ := Hst.out k (by rw [HK.out.1]; exact hx)
    have exx : x2 = x := by rw [← e1]; exact HK.out.1
    subst exx
    have HK2 : Hid (bro C (k + 1) = y ∧ bout C (k + 1) = b :: L ∧ ∀ j, j < k + 1 → bro C j ≠ r) := qaa ⟨e2, by rw [e6, HK.out.2.1], fun j hj => by
     by_cases e : j = k
     ·rw [e, HK.out.1]; exact hx
     ·exact HK.out.2.2 j (by omega)⟩
    have HL := qaa fun W => Hla.out x2 j b hj e4 e3 W
    have x3 := HB.out.cell q
    rw [btx_get] at x3
    have x4 := HB.out.frozen q
    have x5 := HB.out.lt
    have HB2 := qaa (HB.out.set_ q (.int .u8 (b.toNat : Int)))
    rw [btx_set] at HB2
    have HO2 := qaa (HO.out.setCell (p := ⟨g, q, none⟩) (qad _) (.int .u8 (b.toNat : Int)))
    have x6 := HcA.out _ HO2.out x2 h2
    rw [e5] at x6
    have hxi : (0 : Int) ≤ (x2 : Int) ∧ (x2 : Int) < (l.length : Int) + 1 := by omega
    clear e1 e2 e3 e4 e5 e6 h2 hj hx HK hx2 hy2 Hst Hla HB
    go_wp2_with (go_at_call 137; refine (HL.out _).mono ?_; rintro e wr ⟨rfl, rfl⟩)
    go_roundw
    case rel => exact ⟨k + 1, y, q, b :: L, by omega, rfl, rfl, HK2, HB2, HO2⟩
    case measure => simp only [intOf]; omega
theorem p_binverse_any (l : List UInt8) (r : Int) (w : World) (hs : l.length ≤ 1000000) :
  Calls prog 93 #[.string ⟨l.toArray⟩, .int .i64 r] w fun e w' => yeb w w' e (biF l r) := by
 by_cases h : bck l r = 0
 ·obtain ⟨h1, h2⟩ := bck_zero h
  obtain ⟨k, rfl, _⟩ := bgood h2
  exact p_binverse_yes l k w (by omega) h2
 ·exact p_binverse_no l r w hs h
theorem mkfunc (fn : Fn) (first cap : Array Value) (w : World) : (Instr.makeFunc fn first cap).run prog w = .ok (.func fn first cap) w := rfl
theorem mint_info : (prog.info? 3).map (fun i => (i.zero, i.size, i.bytes)) = some (some (.int .i64 0), 1, 8) := by kernel_rfl
theorem ints_zero (n : Nat) : madeCells #[.int .i64 0] n = (ints (List.replicate n 0)).toArray := by
 unfold ints
 apply Array.ext'
 simp [madeCells, Nat.mod_one]
 rw [qcw, qa7]
theorem mk_ints (n : Int) (N : Nat) (hN : (N : Int) = n) (h : N ≤ 17592186044416) (w : World) :
  (Instr.makeSlice 28 (.int .i64 n) (.int .i64 n)).run prog w = .ok (.slice (some ⟨w.heap.size, 0, none⟩) N N) (w.alloc (.cells (ints (List.replicate N 0)).toArray 3)) := by
 subst hN
 rw [← ints_zero]
 exact run_make_row' (P := prog) 28 3 (.int .i64 0) 8 underlying28 mint_info rfl .i64 .i64 N (by omega) (by omega) w
def rk (l : List UInt8) (k : Nat) : List Int := rks row0 (l.take k) ++ List.replicate (l.length - k) 0
theorem rk_zero (l : List UInt8) : rk l 0 = List.replicate l.length 0 := by simp [rk, rks]
theorem rk_all (l : List UInt8) : rk l l.length = rks row0 l := by simp [rk]
theorem rk_len (l : List UInt8) (k : Nat) (h : k ≤ l.length) : (rk l k).length = l.length := by
 unfold rk
 rw [qab, ygN, qav, qao]
 omega
theorem set_mid {α : Type} (A C : List α) (x y : α) (k : Nat) (h : A.length = k) : (A ++ x :: C).set k y = A ++ y :: C := by
 subst h
 simp
theorem rk_set (l : List UInt8) (k : Nat) (h : k < l.length) : (rk l k).set k (pl (rowS row0 (l.take k)) l[k] : Int) = rk l (k + 1) := by
 unfold rk
 rw [show l.length - k = (l.length - (k + 1)) + 1 from by omega, qaP, set_mid _ _ _ _ _ (by rw [ygN, qao]; omega), rks_take _ _ _ h]
 simp
theorem ints_set (l : List Int) (k : Nat) (v : Int) : (ints l).toArray.setIfInBounds k (.int .i64 v) = (ints (l.set k v)).toArray := by
 rw [qac]
 simp [ints, qcu]
structure RHold6 (w wr : World) (R : List UInt8) (t : TypeId) (cs : Array Value) : Prop where
 row : Blk wr w.heap.size 162 (bc R)
 out : Blk wr (w.heap.size + 1) t cs
 below : Below w.heap.size w wr
section
variable {w wr w1 : World} {R R' : List UInt8} {t : TypeId} {cs : Array Value}
theorem RHold6.start (w : World) (t : TypeId) (cs : Array Value) : RHold6 w ((w.alloc (.cells (bc row0) 162)).alloc (.cells cs t)) row0 t cs := by
 refine ⟨(Blk.new w _ _).alloc _, ?_, ((qak _ _).alloc (qad _) _).alloc (by simp) _⟩
 have := Blk.new (w.alloc (.cells (bc row0) 162)) t cs
 rwa [show (w.alloc (.cells (bc row0) 162)).heap.size = w.heap.size + 1 from by simp] at this
theorem RHold6.next (h : RHold6 w wr R t cs) (hg : wr.grownBy w1 (some w.heap.size)) (hb : Blk w1 w.heap.size 162 (bc R')) (i : Nat) (v : Value) : RHold6 w (w1.setCell ⟨w.heap.size + 1, i, none⟩ v) R' t (cs.setIfInBounds i v) :=
 ⟨hb.far (by simp) v, (h.out.grow hg (by omega)).set_ i v, (h.below.trans (ydB hg (qad _) h.below.size)).setCell (by simp) v⟩
end
theorem fr_ranks_any (l : List UInt8) (hl : l.length ≤ 1000000) (w : World) :
  Calls prog 41 #[.string ⟨l.toArray⟩] w fun e w' => ∃ A c, e = .returned (.slice A l.length c) ∧ l.length ≤ c ∧ Reads w' w'.heap.size 1 A l.length (ints (rks row0 l)) ∧ Below w.heap.size w w' := by
 have hmf := mkfunc
 have hmk := fun W => mk_ints (l.length : Int) l.length rfl (by omega) W
 have Hset : Hid (∀ k (h : k < l.length), (ints (rk l k)).toArray.setIfInBounds k (.int .i64 (pl (rowS row0 (l.take k)) l[k] : Int)) = (ints (rk l (k + 1))).toArray) := qaa fun k h => by rw [ints_set, rk_set l k h]
 have Hget : Hid (∀ k, k < l.length → ∃ v, (ints (rk l k)).toArray[k]? = some v) := qaa fun k hk => ⟨_, qbY (by simp [ints, rk_len l k (by omega)]; exact hk)⟩
 have Hstart : Hid (RHold6 w ((w.alloc (.cells (bc row0) 162)).alloc (.cells (ints (List.replicate l.length 0)).toArray 3)) (rowS row0 (l.take 0)) 3 (ints (rk l 0)).toArray) := qaa (by
  rw [rk_zero]
  exact RHold6.start w 3 _)
 have Hend : Hid (∀ wr, RHold6 w wr (rowS row0 (l.take l.length)) 3 (ints (rk l l.length)).toArray → Reads wr wr.heap.size 1 (some ⟨w.heap.size + 1, 0, none⟩) l.length (ints (rks row0 l))) := qaa fun wr h => by
  rw [rk_all] at h
  refine ⟨by rw [yab, ygN]; omega, fun _ => ⟨_, _, rfl, h.out.lt, fun j u hj => ?_⟩⟩
  rw [qaz, h.out.cell]
  simpa using hj
 have hll : (l.length : Int) ≤ 1000000 := by omega
 clear hl
 generalize (ints (List.replicate l.length 0)).toArray = Z0 at *
 go_enter func41, ntmps41
 go_wp2_with (go_at_call 75; refine (yf5 _).mono ?_; rintro e w1 ⟨rfl, rfl⟩)
 go_loopw [13] (fun i wr => ∃ k : Nat, k ≤ l.length ∧ i = .int .i64 k ∧ Hid (RHold6 w wr (rowS row0 (l.take k)) 3 (ints (rk l k)).toArray)) (fun i _ => l.length - (intOf i).toNat)
 case atStart => exact ⟨0, by omega, rfl, Hstart.out⟩
 case round =>
  obtain ⟨k, hk, rfl, Hh⟩ := hrel
  by_cases hlt : k < l.length
  ·have hki : (0 : Int) ≤ (k : Int) ∧ (k : Int) < l.length := by omega
   have hks : k < (ByteArray.mk l.toArray).size := by rw [qaL]; simpa using hlt
   have Hs := qaa (Hset.out k hlt)
   obtain ⟨v, hv⟩ := Hget.out k hlt
   have hst : ∀ (wr : World) (hB : Blk wr w.heap.size 162 (bc (rowS row0 (l.take k)))), Calls prog 76 #[.pointer (some ⟨w.heap.size, 0, none⟩), .int .u8 ((((ByteArray.mk l.toArray)[k]'hks).toNat : Nat) : Int)] wr fun e w' => e = .returned (.int .i64 (pl (rowS row0 (l.take k)) l[k] : Int)) ∧ wr.grownBy w' (some w.heap.size) ∧ Blk w' w.heap.size 162 (bc (rowS row0 (l.take (k + 1)))) := fun wr hB => by
    rw [rowS_take _ _ _ hlt]
    exact fr_step_any _ (row0_whole.rowS _) l[k] w.heap.size wr hB
   have Hst := qaa (hst wr Hh.out.row)
   have hcell : ∀ w1, wr.grownBy w1 (some w.heap.size) → w1.cell? ⟨w.heap.size + 1, k, none⟩ = some v ∧ w1.frozen? ⟨w.heap.size + 1, k, none⟩ = false := fun w1 hg => ⟨by rw [(Hh.out.out.grow hg (by omega)).cell]; exact hv, (Hh.out.out.grow hg (by omega)).frozen k⟩
   have Hcell := qaa hcell
   clear hst hcell hv
   generalize (pl (rowS row0 (l.take k)) l[k] : Int) = j at *
   go_wp2_with (go_at_call 76; refine Hst.out.mono ?_; rintro e w1 ⟨rfl, hg1, hb1⟩; obtain ⟨x1, x2⟩ := Hcell.out w1 hg1; have Hn := qaa (Hh.out.next hg1 hb1 k (.int .i64 j)); clear hg1 hb1)
   go_roundw
   case rel => exact ⟨k + 1, by omega, iv (by omega), qaa (by rw [← Hs.out]; exact Hn.out)⟩
   case measure => simp only [intOf]; omega
  ·obtain rfl : k = l.length := by omega
   go_wp2
   go_ret
   exact ⟨_, _, rfl, qad _, Hend.out _ Hh.out, Hh.out.below⟩
def tx (ks : List Int) (k : Nat) : List UInt8 := bys row0 (ks.take k) ++ List.replicate (ks.length - k) 0
theorem tx_zero (ks : List Int) : tx ks 0 = List.replicate ks.length 0 := by simp [tx, bys]
theorem tx_all (ks : List Int) : tx ks ks.length = bys row0 ks := by simp [tx]
theorem tx_len (l : List Int) (k : Nat) (h : k ≤ l.length) : (tx l k).length = l.length := by
 unfold tx
 rw [qab, ygu, qav, qao]
 omega
theorem tx_set (l : List Int) (k : Nat) (h : k < l.length) : (tx l k).set k ((rowK row0 (l.take k)).getD l[k].toNat 0) = tx l (k + 1) := by
 unfold tx
 rw [show l.length - k = (l.length - (k + 1)) + 1 from by omega, qaP, set_mid _ _ _ _ _ (by rw [ygu, qao]; omega), bys_take _ _ _ h]
 simp
theorem bca_set (l : List UInt8) (k : Nat) (b : UInt8) : (bc l).setIfInBounds k (.int .u8 (b.toNat : Int)) = bc (l.set k b) := by
 unfold bc
 rw [qac]
 simp [qcu]
theorem text_bad (ks : List Int) (k : Nat) (h : k < ks.length) (hb : ¬(0 ≤ ks[k] ∧ ks[k] ≤ 255)) : yda ks = ([], 60) := by
 have : ycW ks = false := by
  unfold ycW
  rw [List.all_eq_false]
  refine ⟨ks[k], qaq h, ?_⟩
  simpa using hb
 unfold yda
 rw [this]
 rfl
theorem text_good (ks : List Int) (h : ycW ks = true) : yda ks = (bys row0 ks, 0) := by
 unfold yda
 rw [qag h]
theorem rgood_take (ks : List Int) (k : Nat) (h : k < ks.length) (hg : ycW (ks.take k) = true) (hb : 0 ≤ ks[k] ∧ ks[k] ≤ 255) : ycW (ks.take (k + 1)) = true := by
 rw [ycy ks k h, rgood_snoc, hg]
 simp [hb.1, hb.2]
theorem fr_text_any (A : Option Addr) (n c : Nat) (ks : List Int) (w : World) (hn : n ≤ 1000000) (hr : Reads w w.heap.size 1 A n (ints ks)) :
  Calls prog 92 #[.slice A n c] w fun e w' => e = .returned (.tuple #[.string ⟨(yda ks).1.toArray⟩, .int .i64 (yda ks).2]) ∧ Below w.heap.size w w' := by
 have hmf := mkfunc
 have en : ks.length = n := by have := hr.1; rw [yab] at this; omega
 have hmk := fun W => mk_bytes (n : Int) n rfl (by omega) W
 have Hread : Hid (∀ k (h : k < ks.length) wr, Below w.heap.size w wr → ∃ b off, A = some ⟨b, off, none⟩ ∧ wr.cell? ⟨b, off + k, none⟩ = some (.int .i64 ks[k])) := qaa fun k h wr hb => by
  obtain ⟨b, off, e, hlt, hc⟩ := hr.2 (by omega)
  exact ⟨b, off, e, (hb.cell (p := ⟨b, off + k, none⟩) hlt).trans (hc k _ (yai ks k h))⟩
 have Hset : Hid (∀ k (h : k < ks.length), (bc (tx ks k)).setIfInBounds k (.int .u8 (((rowK row0 (ks.take k)).getD ks[k].toNat 0).toNat : Int)) = bc (tx ks (k + 1))) := qaa fun k h => by rw [bca_set, tx_set ks k h]
 have Hget : Hid (∀ k, k < ks.length → ∃ v, (bc (tx ks k))[k]? = some v) := qaa fun k hk => ⟨_, qbY (by rw [yg1, tx_len ks k (by omega)]; exact hk)⟩
 have Hstart : Hid (RHold6 w ((w.alloc (.cells (bc row0) 162)).alloc (.cells (bc (List.replicate n 0)) 5)) (rowK row0 (ks.take 0)) 5 (bc (tx ks 0))) := qaa (by
  rw [tx_zero, en]
  exact RHold6.start w 5 _)
 have Hend : Hid (∀ wr, RHold6 w wr (rowK row0 (ks.take n)) 5 (bc (tx ks n)) → (convert 36 9 (.slice (some ⟨w.heap.size + 1, 0, none⟩) n n)).run prog wr = .ok (.string ⟨(bys row0 ks).toArray⟩) wr) := qaa fun wr h => by
  have hh := h.out
  rw [← en, tx_all] at hh
  exact str_blk wr _ n n _ _ (by rw [ygu]; exact en) hh
 have Hbad : Hid (∀ k (h : k < ks.length), ¬(0 ≤ ks[k] ∧ ks[k] ≤ 255) → yda ks = ([], 60)) := qaa fun k h hb => text_bad ks k h hb
 have Hgood : Hid (ycW ks = true → yda ks = (bys row0 ks, 0)) := qaa (text_good ks)
 have Hen := qaa en
 have hnn : (n : Int) ≤ 1000000 := by omega
 clear hn hr en
 generalize yda ks = F at *
 generalize bc (List.replicate n 0) = Z0 at *
 go_enter func92, ntmps92
 go_wp2_with (go_at_call 75; refine (yf5 _).mono ?_; rintro e w1 ⟨rfl, rfl⟩)
 go_loopw [15] (fun i wr => ∃ k : Nat, k ≤ n ∧ i = .int .i64 k ∧ Hid (ycW (ks.take k) = true) ∧ Hid (RHold6 w wr (rowK row0 (ks.take k)) 5 (bc (tx ks k)))) (fun i _ => n - (intOf i).toNat)
 case atStart => exact ⟨0, by omega, rfl, rfl, Hstart.out⟩
 case round =>
  obtain ⟨k, hk, rfl, Hg, Hh⟩ := hrel
  by_cases hlt : k < n
  ·have hki : (0 : Int) ≤ (k : Int) ∧ (k : Int) < n := by omega
   have hkl : k < ks.length := by rw [Hen.out]; exact hlt
   obtain ⟨b, off, rfl, hrd⟩ := Hread.out k hkl wr Hh.out.below
   by_cases hneg : ks[k] < 0
   ·have Hf := qaa (Hbad.out k hkl (by omega))
    clear Hbad
    generalize ks[k] = x at *
    go_wp2
    go_ret2
    rw [Hf.out]
    exact ⟨rfl, Hh.out.below⟩
   ·by_cases hbig : 255 < ks[k]
    ·have Hf := qaa (Hbad.out k hkl (by omega))
     clear Hbad
     generalize ks[k] = x at *
     go_wp2
     go_ret2
     rw [Hf.out]
     exact ⟨rfl, Hh.out.below⟩
    ·have hx0 : 0 ≤ ks[k] := by omega
     have Hgn := qaa (rgood_take ks k hkl Hg.out ⟨hx0, by omega⟩)
     have Hs := qaa (Hset.out k hkl)
     obtain ⟨v, hv⟩ := Hget.out k hkl
     have hst : ∀ (wr : World) (hB : Blk wr w.heap.size 162 (bc (rowK row0 (ks.take k)))), Calls prog 122 #[.pointer (some ⟨w.heap.size, 0, none⟩), .int .i64 ks[k]] wr fun e w' => e = .returned (.int .u8 (((rowK row0 (ks.take k)).getD ks[k].toNat 0).toNat : Int)) ∧ wr.grownBy w' (some w.heap.size) ∧ Blk w' w.heap.size 162 (bc (rowK row0 (ks.take (k + 1)))) := fun wr hB => by
      rw [rowK_take _ _ _ hkl]
      have := yfB _ (row0_whole.rowK _ Hg.out) ks[k].toNat (by omega) w.heap.size wr hB
      rwa [show ((ks[k].toNat : Nat) : Int) = ks[k] from by omega] at this
     have Hst := qaa (hst wr Hh.out.row)
     have hcell : ∀ w1, wr.grownBy w1 (some w.heap.size) → w1.cell? ⟨w.heap.size + 1, k, none⟩ = some v ∧ w1.frozen? ⟨w.heap.size + 1, k, none⟩ = false := fun w1 hg => ⟨by rw [(Hh.out.out.grow hg (by omega)).cell]; exact hv, (Hh.out.out.grow hg (by omega)).frozen k⟩
     have Hcell := qaa hcell
     clear hst hcell hv Hbad
     generalize (((rowK row0 (ks.take k)).getD ks[k].toNat 0).toNat : Int) = j at *
     generalize ks[k] = x at *
     go_wp2_with (go_at_call 122; refine Hst.out.mono ?_; rintro e w1 ⟨rfl, hg1, hb1⟩; obtain ⟨x1, x2⟩ := Hcell.out w1 hg1; have Hn := qaa (Hh.out.next hg1 hb1 k (.int .u8 j)); clear hg1 hb1)
     go_roundw
     case rel => exact ⟨k + 1, by omega, iv (by omega), Hgn.out, qaa (by rw [← Hs.out]; exact Hn.out)⟩
     case measure => simp only [intOf]; omega
  ·obtain rfl : k = n := by omega
   have hcv := Hend.out wr Hh.out
   have Hf := qaa (Hgood.out (by have := Hg.out; rwa [qar (by rw [Hen.out]; omega)] at this))
   go_wp2
   go_ret2
   rw [Hf.out]
   exact ⟨rfl, Hh.out.below⟩
end Go.Proofs.YtanjhbkbpalnaaaGreat
