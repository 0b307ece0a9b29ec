/-
 What the law of the last of these texts stands on, part 16.
-/
import Derived.Test.YtanjhbkbpalnaaaGreatMa13
import Derived.Deep.WholeRow
import Derived.Deep.MidRow
set_option maxRecDepth 100000
set_option maxHeartbeats 8000000
open Go.Proofs.Tryz
namespace Go.Proofs.YtanjhbkbpalnaaaGreat
set_option linter.unusedSimpArgs false
set_option linter.unusedVariables false
open Go.ChangeShapes Go.WideShapes Go.ChangeAt Go.RowKit Go.Joins Go.Deep
section
variable {P : Program}
theorem ycf {ops : Array Oper} {rest : List Oper} {op : Oper} {a : Act} {w : World} {Q : Exit → Act → World → Prop} (hgd : op.guard = none) (ty : TypeId) (x y : Operand) (ho : op.op = .store ty x y)
  (g : Nat) (t : TypeId) (old cells : Array Value) (hx : a.eval x = .pointer (some ⟨g, 0, none⟩)) (hy : a.eval y = .agg cells)
  (hg : w.heap[g]? = some (.cells old t (0, 0))) (hi : (P.info? ty).map (·.size) = some cells.size) (hs : old.size = cells.size) (h1 : cells.all (·.oneCell') = true)
  (h : wpList P ops Q rest (a.put op.dst undef) (w.setRow g cells)) : wpList P ops Q (op :: rest) a w :=
 wpList_plain hgd fun _ hK => by
  unfold Oper.wp execOp
  simp only [ho, hx, hy, Instr.storeAt, Instr.sureAddr, Sem.run_bind, Sem.run_pure, Result.andThen_ok, run_storeVar_row w g t ty old cells hg hi hs h1]
  exact hK _ _ h
theorem yfO (w : World) (t e : TypeId) (n : Nat) (ht : P.underlying t = some (.array n e)) (he : P.underlying e = some (.int .i64)) (hsz : ∀ w, (sizeOf e).run P w = .ok 1 w) (C : List Value) (k : Nat) (hk : k < n) (x : Int) (hx : C[k]? = some (.int .i64 x)) :
  (Instr.index t (.agg C.toArray) (.int .i64 (k : Int))).run P w = .ok (.int .i64 x) w := by
 have hn : 0 ≤ (k : Int) ∧ (k : Int) < (n : Int) := by omega
 simp [Instr.index, qbo ht, asIntOf, hn, hsz, part, isAgg, qbo he, hx, go_sem]
 intro h
 omega
end
theorem ygr (w : World) (o : Obj) (C : List Value) (t : TypeId) : ((w.alloc o).alloc (.cells C.toArray t)).rangeAt (w.heap.size + 1) 0 C := by
 intro j v hv
 have h : ((w.alloc o).alloc (.cells C.toArray t)).cell? ⟨(w.alloc o).heap.size, 0 + j, none⟩ = some v := by
  rw [World.cell?_alloc_new, qaz]
  simpa using hv
 rwa [show (w.alloc o).heap.size = w.heap.size + 1 from by simp] at h
def bcv (l : List UInt8) (k : Nat) : List Int := (List.range 256).map fun b => (((l.take k).countP fun x => decide (x.toNat = b) : Nat) : Int)
theorem yhf (l : List UInt8) (k : Nat) : (bcv l k).length = 256 := by simp [bcv]
theorem bcv_zero (l : List UInt8) : bcv l 0 = List.replicate 256 0 := by
 unfold bcv
 apply qaY
 ·rw [qaD, qa7, qav]
 ·intro i h1 h2
  rw [qaQ, qbd, qbW, qbb]
  rfl
theorem bcv_get (l : List UInt8) (k b : Nat) (h : b < (bcv l k).length) : (bcv l k)[b] = (((l.take k).countP fun x => decide (x.toNat = b) : Nat) : Int) := by simp [bcv]
theorem bcv_le (l : List UInt8) (k b : Nat) : (l.take k).countP (fun x => decide (x.toNat = b)) ≤ l.length := by
 have := List.countP_le_length (p := fun x : UInt8 => decide (x.toNat = b)) (l := l.take k)
 rw [qao] at this
 omega
theorem bcv_set (l : List UInt8) (k : Nat) (hk : k < l.length) : (bcv l k).set l[k].toNat ((((l.take k).countP fun x => decide (x.toNat = l[k].toNat) : Nat) : Int) + 1) = bcv l (k + 1) := by
 apply qaY
 ·rw [qbJ, yhf, yhf]
 ·intro i h1 h2
  rw [qcx, bcv_get, bcv_get, qat hk, qbD, qc0]
  by_cases e : l[k].toNat = i
  ·rw [qag e, qag (qbZ e), e]
   omega
  ·rw [qae e, qae (by simpa using e)]
   rfl
theorem zero_ints256 : (∀ w, (zeroValue 235).run prog w = .ok (.agg (ints (List.replicate 256 0)).toArray) w) ∧ (prog.info? 235).map (·.size) = some 256 := zero_of_info (by kernel_rfl)
theorem ints_one13 (l : List Int) : (ints l).toArray.all (·.oneCell') = true := by
 rw [Array.all_eq_true_iff_forall_mem]
 intro v hv
 simp only [List.mem_toArray, ints, qb5] at hv
 obtain ⟨c, _, rfl⟩ := hv
 rfl
def CNewPost (w w' : World) (e : Ending) (l : List Int) : Prop :=
 Below w.heap.size w w' ∧ ((yat l = 0 ∧ ∃ g, w.heap.size ≤ g ∧ e = .returned (.tuple #[.pointer (some ⟨g, 0, none⟩), .int .i64 0]) ∧ CCode w' w'.heap.size g (l.map Int.toNat) ∧ CFar w' g (l.map Int.toNat) (fun k => w.heap.size ≤ k)) ∨ (yat l ≠ 0 ∧ e = .returned (.tuple #[.pointer none, .int .i64 (yat l)])))
theorem cst_begin (w1 : World) (n : Nat) (ls : List Nat) (hn : ls.length = n) : CSt w1 ((w1.alloc (.cells (ybg .i64 (wat ls 1 0)).toArray 143)).alloc (.cells #[.bool true, .slice (some ⟨w1.heap.size, 0, none⟩) n n, .int .i64 0, .int .i64 0, .int .i64 0, .int .i64 0, .int .i64 0, .int .i64 0, .int .i64 0, .int .i64 0, .int .i64 0, .int .i64 0, .int .i64 0, .int .i64 0, .int .i64 0, .int .i64 0, .int .i64 0, .int .i64 0, .slice none 0 0, .slice none 0 0, .slice none 0 0, .slice none 0 0, .slice none 0 0, .slice none 0 0, .slice none 0 0, .slice none 0 0, .slice none 0 0, .slice none 0 0, .slice none 0 0, .slice none 0 0, .slice none 0 0, .slice none 0 0, .slice none 0 0, .slice none 0 0, .int .i64 1] 141)) n (wat ls 1 0) (List.replicate 16 0) (List.replicate 16 (.slice none 0 0)) 1 (crow ls 0) := by
 have hc := Blk.new (w1.alloc (.cells (ybg .i64 (wat ls 1 0)).toArray 143)) 141 (ybt w1.heap.size n (List.replicate 16 0) (List.replicate 16 (.slice none 0 0)) 1).toArray
 rw [qaw] at hc
 refine ⟨hc, (Blk.new w1 _ _).alloc _, ⟨rfl, fun j hj => ?_, fun i j hi hj hne k hk => ?_⟩, by go_grown, rfl⟩
 ·rw [yeH, qbW]
  exact qbn _ _ _ _
 ·rw [qbW] at hk
  cases hk
def csts (ls : List Nat) (N : Nat) : List Int := (List.range 16).map fun j => if j < N then (cst ls j : Int) else 0
theorem csts_len (ls : List Nat) (N : Nat) : (csts ls N).length = 16 := by simp [csts]
theorem csts_one (ls : List Nat) : csts ls 1 = List.replicate 16 0 := by
 refine qaY (by simp [csts]) fun j h1 h2 => ?_
 simp only [csts, qaQ, qbd, qbW]
 by_cases h : j < 1
 ·rw [qag h, show j = 0 from by omega, cst_none]; rfl
 ·rw [qae h]
theorem csts_get (ls : List Nat) (N p : Nat) (h : p < N) (h2 : p < (csts ls N).length) : (csts ls N)[p] = (cst ls p : Int) := by
 simp only [csts, qaQ, qbd]
 rw [qag h]
theorem csts_set (ls : List Nat) (N : Nat) (h : N < 16) : (csts ls N).set N (cst ls N : Int) = csts ls (N + 1) := by
 refine qaY (by simp [csts]) fun j h1 h2 => ?_
 rw [qcx]
 simp only [csts, qaQ, qbd]
 by_cases e : N = j
 ·subst e
  rw [qag rfl, qag (by omega)]
 ·rw [qae e]
  by_cases e2 : j < N
  ·rw [qag e2, qag (by omega)]
  ·rw [qae e2, qae (by omega)]
section
variable {w1 W : World} {n : Nat} {L : List (Int × Int)} {st : List Int} {rows : List Value} {d : Int} {R : Nat → List Nat}
theorem CSt.drew (h : CSt w1 W n L st rows d R) : CSt w1 W.drew n L st rows d R := ⟨h.code.drew, h.words.drew, h.rows.touch (S := fun _ => False) (yal (B := W.heap.size) (qak _ _).drew (qad _)) (fun _ _ _ _ h => h), h.frame.drew, h.stl⟩
theorem CSt.slice (h : CSt w1 W n L st rows d R) (j : Nat) (hj : j < 16) : ∃ A c, W.cell? ⟨w1.heap.size + 1, 18 + j, none⟩ = some (.slice A (R j).length c) ∧ rows[j]'(by have := h.rows.len; omega) = .slice A (R j).length c := by
 have h1 := h.row j hj
 obtain ⟨A, c, e, _, _⟩ := yae (h.rows.own j (by have := h.rows.len; omega))
 rw [e] at h1
 exact ⟨A, c, h1, e⟩
theorem CSt.sym (h : CSt w1 W n L st rows d R) (j : Nat) (hj : j < 16) (A : Option Addr) (m c q sy : Nat) (e : rows[j]'(by have := h.rows.len; omega) = .slice A m c) (hq : (R j)[q]? = some sy) : ∃ b off, A = some ⟨b, off, none⟩ ∧ W.cell? ⟨b, off + q, none⟩ = some (.int .i64 (sy : Int)) := by
 obtain ⟨A2, c2, e2, _, hr⟩ := yae (h.rows.own j (by have := h.rows.len; omega))
 rw [e] at e2
 injection e2 with e3 e4 e5
 subst e3
 obtain ⟨hlt, _⟩ := qc5.1 hq
 obtain ⟨b, off, e6, hb, hc⟩ := hr.2 (by omega)
 exact ⟨b, off, e6, hc q _ (csy_get hq)⟩
end
theorem cst_put {w1 W : World} {n : Nat} {ls : List Nat} {st : List Int} {rows : List Value} {d : Int} {R : Nat → List Nat} {N s q sy : Nat} (hn : ls.length = n) (hN : 0 < N) (hN2 : N ≤ 15) (hs : (crow ls s N).length = q) (hq : (crow ls n N)[q]? = some sy) (h : CSt w1 W n (wat ls N s) st rows d R) (a b : Int) (ha : a = ((cst ls N + q : Nat) : Int)) (hb : b = (N : Int)) :
  CSt w1 ((W.setCell ⟨w1.heap.size, sy * 2, none⟩ (.int .i64 a)).setCell ⟨w1.heap.size, sy * 2 + 1, none⟩ (.int .i64 b)) n (wat ls N (sy + 1)) st rows d R ∧ sy + 1 ≤ n ∧ (crow ls (sy + 1) N).length = q + 1 := by
 subst hn
 obtain ⟨h1, h2, h3, h4⟩ := cst_word N q sy hN hN2 hq
 have h5 := (crow_eq (ls := ls) N hN s sy (by omega)).2
 have h6 := h.put_word sy (by rw [yaD]; exact h2) ((ybs ls N sy : Nat) : Int) (N : Int)
 rw [h5, wat_set ls N sy h2 h3 hN] at h6
 subst ha hb
 rw [← h1]
 refine ⟨h6, h2, ?_⟩
 rw [ybY, qag ⟨hN, h3⟩, qab, h4]
 rfl
theorem cst_row {w1 W : World} {n : Nat} {ls : List Nat} {st : List Int} {rows : List Value} {d : Int} {R : Nat → List Nat} {N s : Nat} (hn : ls.length = n) (hN : 0 < N) (hs : (crow ls s N).length = (crow ls n N).length) (h : CSt w1 W n (wat ls N s) st rows d R) : CSt w1 W n (wat ls (N + 1) 0) st rows d R := by
 subst hn
 rw [(crow_eq (ls := ls) N hN s ls.length hs).2, wat_next ls N ls.length (qad _)] at h
 exact h
theorem cst_end {w w1 W : World} {n : Nat} {ls : List Nat} {rows : List Value} (hn : ls.length = n) (h15 : ∀ s (hs : s < ls.length), ls[s] ≤ 15) (hb : Below w.heap.size w w1) (h : CSt w1 W n (wat ls (yaA ls n + 1) 0) (csts ls (yaA ls n + 1)) rows (yaA ls n : Nat) (crow ls n)) :
  Below w.heap.size w W ∧ w.heap.size ≤ w1.heap.size + 1 ∧ CCode W W.heap.size (w1.heap.size + 1) ls ∧ CFar W (w1.heap.size + 1) ls (fun k => w.heap.size ≤ k) := by
 subst hn
 have hsz := hb.size
 have h2 := (cdeep_all (ls := ls) (yaA ls ls.length) (yeF h15 _ (qad _)) fun s hs => cdeep_ge _ (qad _) s hs hs).2
 have hH : CHold W W.heap.size (w1.heap.size + 1) ls w1.heap.size (csts ls (yaA ls ls.length + 1)) rows := ⟨h.code, by rw [← h2]; exact h.words, h.code.lt, h.words.lt, csts_len _ _, h.rows.len, fun j hj h1 h3 => csts_get ls _ j (by omega) hj, fun j hj => by
  obtain ⟨A, c, e, _, hr⟩ := yae (h.rows.own j hj)
  exact ⟨A, c, e, hr⟩⟩
 refine ⟨hb.trans (h.frame.mono hsz), by omega, ⟨_, _, _, hH⟩, _, _, _, _, hH, qad _, by omega, by omega, fun j hj A n c e hn a ha => ?_⟩
 have := (h.rows.own j hj).lt a.block (by rw [e, ha]; rfl)
 omega
theorem c_new_any (l : List Int) (A : Option Addr) (n c : Nat) (w : World) (hm : n ≤ 1000000) (hr : Reads w w.heap.size 1 A n (ints l)) :
  Calls prog 62 #[.slice A n c] w fun e w' => CNewPost w w' e l := by
 obtain ⟨i0, hi, hz0, hz1, hz2⟩ := qb1 aint_info
 have el : l.length = n := by have := hr.1; rw [yab] at this; omega
 have Hchk := qaa (ydZ l A n c w hm hr)
 rw [ccheck_ref] at Hchk
 by_cases h0 : yat l = 0
 ·rw [h0] at Hchk
  obtain ⟨hl, hg, hca⟩ := ycj h0
  have Hc1 : Hid (0 < n → ∃ b off, A = some ⟨b, off, none⟩ ∧ ∀ wr, Below w.heap.size w wr → ∀ k, (hk : k < l.length) → wr.cell? ⟨b, off + k, none⟩ = some (.int .i64 l[k])) := qaa fun h => by
   obtain ⟨b, off, e, hb, hc⟩ := hr.2 h
   exact ⟨b, off, e, fun wr hw k hk => (hw.cell (p := ⟨b, off + k, none⟩) hb).trans (hc k _ (yai l k hk))⟩
  obtain ⟨ls, hls⟩ : ∃ ls, l.map Int.toNat = ls := ⟨_, rfl⟩
  have hlsn : ls.length = n := by rw [← hls, qaD, el]
  have Hls : Hid (∀ k (hk : k < l.length) (hk2 : k < ls.length), (ls[k] : Int) = l[k] ∧ ls[k] ≤ 15) := qaa fun k hk hk2 => by
   have := yaJ hg k hk
   subst hls
   rw [qaQ]
   omega
  have H15 : Hid (∀ s (hs : s < ls.length), ls[s] ≤ 15) := qaa fun s hs => (Hls.out s (by omega) hs).2
  rw [hls] at hca
  have Hca := qaa hca
  have Hel := qaa el
  have Hln := qaa hlsn
  have hmk := fun W => mk_fields n hm W
  rw [← hlsn, ← wat_zero] at hmk
  rw [hlsn] at hmk
  have hni : (n : Int) ≤ 257 := by omega
  unfold CNewPost
  rw [hls]
  have H0 := qaa h0
  clear hr h0 hg hca hls el hl hlsn
  go_enter func62, ntmps62
  go_wp2_with (go_at_call 104; refine Hchk.out.mono ?_; rintro e w1 ⟨rfl, hb1⟩; have Hb1 := qaa hb1; clear hb1)
  have HB0 := qaa (cst_begin w1 n ls Hln.out)
  generalize ((w1.alloc (.cells (ybg .i64 (wat ls 1 0)).toArray 143)).alloc (.cells #[.bool true, .slice (some ⟨w1.heap.size, 0, none⟩) n n, .int .i64 0, .int .i64 0, .int .i64 0, .int .i64 0, .int .i64 0, .int .i64 0, .int .i64 0, .int .i64 0, .int .i64 0, .int .i64 0, .int .i64 0, .int .i64 0, .int .i64 0, .int .i64 0, .int .i64 0, .int .i64 0, .slice none 0 0, .slice none 0 0, .slice none 0 0, .slice none 0 0, .slice none 0 0, .slice none 0 0, .slice none 0 0, .slice none 0 0, .slice none 0 0, .slice none 0 0, .slice none 0 0, .slice none 0 0, .slice none 0 0, .slice none 0 0, .slice none 0 0, .slice none 0 0, .int .i64 1] 141)) = wz at *
  clear hmk Hchk
  go_loopw [6, 7, 23] (fun sx wx i wr => ∃ (k : Nat) (rows : List Value), k ≤ n ∧ i = .int .i64 k ∧ Hid (CSt w1 wr n (wat ls 1 0) (List.replicate 16 0) rows (yaA ls k : Nat) (crow ls k))) (fun _ _ i _ => n - (intOf i).toNat)
  case atStart => exact ⟨0, _, by omega, rfl, HB0⟩
  case round =>
   obtain ⟨k, rows, hk, rfl, HS⟩ := hrel
   clear HB0
   by_cases hlt : k < n
   ·have hki : (0 : Int) ≤ (k : Int) ∧ (k : Int) < (n : Int) := by omega
    have hkl : k < l.length := by rw [Hel.out]; exact hlt
    have hkn : k < ls.length := by rw [Hln.out]; exact hlt
    obtain ⟨b1, o1, rfl, hcell⟩ := Hc1.out (by omega)
    have x1 := hcell wr (Hb1.out.trans (HS.out.frame.mono Hb1.out.size)) k hkl
    obtain ⟨hv, hv2⟩ := Hls.out k hkl hkn
    clear hcell
    rw [← hv] at x1
    have hgd := ycK (l := ls) k hkn
    have Hnx := qaa (fun j => ybY (ls := ls) k j)
    have Hdp : Hid (yaA ls (k + 1) = max (yaA ls k) ls[k]) := qaa (by rw [← hgd]; rfl)
    rw [hgd] at Hnx
    clear hv hgd
    generalize ls[k] = wd at *
    by_cases hz : wd = 0
    ·subst hz
     have hS2 := HS.out.congr (R' := crow ls (k + 1)) fun j hj => by rw [Hnx.out j, qae (by omega), qa8]
     have hS3 := HS.out.congr (R' := crow ls (k + 1)) fun j hj => by rw [Hnx.out j, qae (by omega), qa8]
     have hd2 : yaA ls (k + 1) = yaA ls k := by rw [Hdp.out]; have := yc0 (ls := ls) k; omega
     rw [← hd2] at hS3
     have HS3 := qaa hS3
     clear hS2 hS3 hd2 hkn hkl
     go_wp2
     go_roundw
     case rel => exact ⟨k + 1, rows, by omega, iv (by omega), HS3⟩
     case measure => simp only [intOf]; omega
    ·have hwd : (0 : Int) < (wd : Int) ∧ (wd : Int) < 16 := by omega
     have hw16 : wd < 16 := by omega
     have hwp : (0 : Int) ≤ (wd : Int) := by omega
     have hwt : IntKind.i64.wrap (wd : Int) = (wd : Int) := by rw [qal]; omega
     have x2 := HS.out.row wd hw16
     have hc0 := HS.out.code.lt
     obtain ⟨Av, cv, ev, hcv, hrv⟩ := yae (HS.out.rows.own wd (by have := HS.out.rows.len; omega))
     rw [ev] at x2
     obtain ⟨cn, hcn⟩ : ∃ cn, (crow ls k wd).length = cn := ⟨_, rfl⟩
     have hcn2 : cn ≤ k := by rw [← hcn]; exact yei k wd
     rw [hcn] at x2 ev
     have hdp1 := yc0 (ls := ls) k
     have hdp2 := yeF H15.out k (by rw [Hln.out]; exact hk)
     have Hput := qaa fun (Wa W2 : World) (hb : Below wr.heap.size wr Wa) (A2 : Option Addr) (c2 : Nat) (hg : Wa.grownBy W2 (Value.slice Av cn cv).ownBlock) (ho : W2.ownsRow w1.heap.size 3 1 (.slice A2 (cn + 1) c2) (cn + 1) (ints (csy (crow ls k wd)) ++ [.int .i64 (k : Int)])) (hs : Sep Wa (.slice Av cn cv) (.slice A2 (cn + 1) c2)) =>
      HS.out.put_row (Wa := Wa) (W2 := W2) hb wd hw16 (.slice A2 (cn + 1) c2) k (by rw [ev]; exact hg) (by rw [hcn]; exact ho) (by rw [ev]; exact hs)
     have Hown := qaa (HS.out.rows.own wd (by have := HS.out.rows.len; omega))
     rw [ev, hcn] at Hown
     clear hcv hrv hkn hkl
     have Hb := qaa (show Below wr.heap.size wr (wr.alloc (.cells #[.int .i64 (k : Int)] 3)).drew from ((qak _ _).alloc (qad _) _).drew)
     have Hrd : Hid (Reads (wr.alloc (.cells #[.int .i64 (k : Int)] 3)).drew (wr.heap.size + 1) 1 (some ⟨wr.heap.size, 0, none⟩) 1 [.int .i64 (k : Int)]) := qaa (ya0 wr 3 #[.int .i64 (k : Int)] 1 1 rfl)
     have Howa := qaa (yah Hown.out Hb.out (qad _))
     have Hone : Hid (∀ u ∈ [Value.int .i64 (k : Int)], u.oneCell' = true) := qaa fun u hu => by rw [qcq.1 hu]; rfl
     have Hws : Hid (w1.heap.size ≤ (wr.alloc (.cells #[.int .i64 (k : Int)] 3)).drew.heap.size) := qaa (qaA HS.out.frame.size Hb.out.size)
     have Hdk : Hid (∀ v : Int, v = ((max (yaA ls k) wd : Nat) : Int) → v = ((yaA ls (k + 1) : Nat) : Int)) := qaa fun v hv => by rw [Hdp.out, hv]
     have Hfin : Hid (∀ X (v : Int), v = ((yaA ls (k + 1) : Nat) : Int) → ∀ rows', CSt w1 X n (wat ls 1 0) (List.replicate 16 0) rows' (yaA ls k : Nat) (fun i => if i = wd then crow ls k wd ++ [k] else crow ls k i) → CSt w1 (X.setCell ⟨w1.heap.size + 1, 34, none⟩ (.int .i64 v)) n (wat ls 1 0) (List.replicate 16 0) rows' (yaA ls (k + 1) : Nat) (crow ls (k + 1))) := qaa fun X v hv rows' h => by
      subst hv
      refine (h.put_deep _).congr fun j hj => ?_
      rw [Hnx.out j]
      by_cases e : j = wd
      ·subst e
       rw [qag rfl, qag ⟨by omega, rfl⟩]
      ·rw [qae e, qae (fun h => e h.2.symm), qa8]
     clear Hown hcn
     generalize crow ls k wd = CR at *
     generalize hdk : yaA ls k = dk at *
     go_wp2
     go_region_law (refine yac (by rfl) (.tmp 37) (.tmp 39) 28 (by rfl) w1.heap.size 3 i0 _ 1 8 underlying28 hi hz0 hz1 hz2 rfl (by decide) (.slice Av cn cv) cn (ints (csy CR)) (by rfl) Howa.out (some ⟨wr.heap.size, 0, none⟩) 1 1 _ [.int .i64 (k : Int)] (by rfl) Hrd.out Hone.out (by unfold maxLen; omega) (by omega) Hws.out (cn + 1) rfl ?_; intro A2 c2 w2 ho2 hg2 hs2; obtain ⟨z1, ⟨u2, z2⟩, hS2⟩ := Hput.out _ w2 Hb.out A2 c2 hg2 ho2 hs2; have HS2 := qaa hS2; clear hS2 ho2 hg2 hs2)
     all_goals (
      have x3 := HS2.out.deep
      have x4 := HS2.out.code.frozen 34
      have x5 := HS2.out.code.lt
      clear z1 z2
      generalize w2.setCell ⟨w1.heap.size + 1, 18 + wd, none⟩ (.slice A2 (cn + 1) c2) = X at *
      go_wp2
      go_roundw
      case rel => exact ⟨k + 1, _, by omega, iv (by omega), qaa (Hfin.out X _ (Hdk.out _ (by split <;> omega)) _ HS2.out)⟩
      case measure => simp only [intOf]; omega)
   ·obtain rfl : k = n := by omega
    have hD1 := yc0 (ls := ls) k
    have hD2 := yeF H15.out k (by rw [Hln.out]; exact qad _)
    have HE := qaa fun W h => cst_end (W := W) (rows := rows) Hln.out H15.out Hb1.out h
    have HS1 : Hid (CSt w1 wr k (wat ls 1 0) (csts ls 1) rows (yaA ls k : Nat) (crow ls k)) := qaa (by rw [csts_one]; exact HS.out)
    clear HS hlt Hc1 Hls Hel H15 Hb1
    generalize yaA ls k = D at *
    have hDi : (1 : Int) ≤ (D : Int) ∧ (D : Int) ≤ 15 := by omega
    go_wp2
    go_loopw [8, 9, 10, 91] (fun wx kx sx ix W => ∃ N : Nat, 1 ≤ N ∧ N ≤ D + 1 ∧ wx = .int .i64 N ∧ Hid (CSt w1 W k (wat ls N 0) (csts ls N) rows (D : Nat) (crow ls k))) (fun wx _ _ _ _ => D + 1 - (intOf wx).toNat)
    case atStart => exact ⟨1, by omega, by omega, rfl, HS1⟩
    case round =>
     obtain ⟨N, hN1, hN2, rfl, HS⟩ := hrel
     clear HS1
     have x1 := HS.out.deep
     have x2 := HS.out.code.lt
     by_cases hlt : N ≤ D
     ·have hNi : (N : Int) ≤ (D : Int) := by omega
      obtain ⟨p, hp⟩ : ∃ p, p + 1 = N := ⟨N - 1, by omega⟩
      have hN16 : N < 16 := by omega
      have x3 := HS.out.start p (by omega)
      rw [csts_get ls N p (by omega)] at x3
      obtain ⟨Ap, cp, x4, -⟩ := HS.out.slice p (by omega)
      have x5 := HS.out.code.frozen (2 + N)
      have x6 := HS.out.start N hN16
      have hcn := cst_next (ls := ls) p (by omega)
      rw [hp, Hln.out] at hcn
      have hcl := cst_le (ls := ls) N (by omega) Hca.out
      have HS2 : Hid (∀ v : Int, v = (cst ls N : Int) → CSt w1 (wr.setCell ⟨w1.heap.size + 1, 2 + N, none⟩ (.int .i64 v)).drew k (wat ls N 0) (csts ls (N + 1)) rows (D : Nat) (crow ls k)) := qaa fun v hv => by
       subst hv
       have := HS.out.put_start N hN16 (cst ls N : Int)
       rw [csts_set ls N hN16] at this
       exact this.drew
      generalize hold : (csts ls N)[N]'(by rw [csts_len]; exact hN16) = old at x6
      clear hold
      obtain ⟨cN, hcN⟩ : ∃ cN, (crow ls k N).length = cN := ⟨_, rfl⟩
      obtain ⟨AN, pN, x7, erow⟩ := HS.out.slice N hN16
      rw [hcN] at x7 erow
      have Her := qaa erow
      clear erow
      have hcNk : cN ≤ k := by rw [← hcN]; exact yei k N
      have HcN := qaa hcN
      have hsym : Hid (∀ q, q < cN → ∃ sy, (crow ls k N)[q]? = some sy ∧ cst ls N + q ≤ 32768 ∧ sy < k) := qaa fun q hq => by
       have h1 : q < (crow ls k N).length := by rw [HcN.out]; exact hq
       obtain ⟨sy, hsy⟩ : ∃ sy, (crow ls k N)[q]? = some sy := ⟨_, qah h1⟩
       have h3 := Hln.out
       obtain ⟨h4, h5, h6, _⟩ := cst_word N q sy (by omega) (by omega) (by rw [h3]; exact hsy)
       have h7 := cword_lt (ls := ls) N sy h5 (by rw [← ycK _ h5]; exact h6) ⟨by omega, by omega⟩ Hca.out
       have h8 : (2 : Nat) ^ N ≤ 2 ^ 15 := qa0 (by omega) (by omega)
       exact ⟨sy, hsy, by omega, by omega⟩
      clear hcN
      generalize (crow ls k p).length = cnp at *
      generalize cst ls p = sp at *
      generalize hsN : cst ls N = sN at *
      obtain ⟨tt, htt⟩ : ∃ tt, sp + cnp = tt := ⟨_, rfl⟩
      rw [htt] at hcn
      have hs1 : IntKind.i64.wrap ((sp : Int) + (cnp : Int)) = (tt : Int) := by rw [qal]; omega
      have hs2 : IntKind.i64.wrap (2 * (tt : Int)) = (sN : Int) := by rw [qal]; omega
      have hsub : (N : Int) - 1 = (p : Int) := by omega
      have hsw : IntKind.i64.wrap ((N : Int) - 1) = (p : Int) := by rw [qal]; omega
      have hsw2 : IntKind.i64.wrap (p : Int) = (p : Int) := by rw [qal]; omega
      have hpb : (0 : Int) ≤ (p : Int) ∧ (p : Int) < 16 := by omega
      have hNb : (0 : Int) ≤ (N : Int) ∧ (N : Int) < 16 := by omega
      have HP := qaa (And.intro hp (And.intro htt (And.intro hcn hcl)))
      clear hp htt hcn hcl
      go_wp2
      refine qb2 22 (by kernel_rfl) (by kernel_rfl) ?_
      simp only [qaM, qbb, qbu, qbi]
      change wpStill _ _ (World.drew _) (fun a' => wpList _ _ _ _ a' (World.drew _)) _ _
      repeat still_step
      refine qc6 ?_
      go_wp2
      have HS3 := qaa (HS2.out (sN : Int) rfl)
      clear HS2 x1 x2 x3 x4 x5 x6 x7 hs1 hs2 hsub hsw hsw2 hpb
      generalize (wr.setCell ⟨w1.heap.size + 1, 2 + N, none⟩ (.int .i64 (sN : Int))).drew = X at *
      have HcS := qaa hsN
      have hcNi : (cN : Int) ≤ 257 := by omega
      go_loopw [9, 10, 91] (fun kx sx ix W => ∃ (q s : Nat), q ≤ cN ∧ ix = .int .i64 q ∧ Hid (s ≤ k ∧ (crow ls s N).length = q) ∧ Hid (CSt w1 W k (wat ls N s) (csts ls (N + 1)) rows (D : Nat) (crow ls k))) (fun _ _ ix _ => cN - (intOf ix).toNat)
      case atStart => exact ⟨0, 0, by omega, rfl, qaa ⟨by omega, rfl⟩, HS3⟩
      case round =>
       obtain ⟨q, s, hq, rfl, Hq, HS4⟩ := hrel
       clear HS3
       by_cases hqt : q < cN
       ·have hqi : (0 : Int) ≤ (q : Int) ∧ (q : Int) < (cN : Int) := by omega
        obtain ⟨sy, hsy, hsb, hsk⟩ := hsym.out q hqt
        obtain ⟨b, off, rfl, y1⟩ := HS4.out.sym N hN16 AN cN pN q sy Her.out hsy
        have y2 := HS4.out.wslice
        have y3 := HS4.out.start N hN16
        rw [csts_get ls (N + 1) N (by omega), HcS.out] at y3
        have y4 := HS4.out.code.lt
        have y5 := HS4.out.words.lt
        have y6 := HS4.out.words.frozen (sy * 2)
        have y7 := HS4.out.words.frozen (sy * 2 + 1)
        have hwl : sy < (wat ls N s).length := by rw [yaD, Hln.out]; exact hsk
        have y8 := HS4.out.words.cell (sy * 2)
        rw [qaB, ydd .i64 _ sy hwl] at y8
        have y9 := HS4.out.words.cell (sy * 2 + 1)
        rw [qaB, ycU .i64 _ sy hwl] at y9
        generalize (wat ls N s)[sy].1 = o1 at *
        generalize (wat ls N s)[sy].2 = o2 at *
        have Hput := qaa fun a b ha hb => cst_put (a := a) (b := b) Hln.out (by omega) (by omega) Hq.out.2 hsy HS4.out ha hb
        rw [HcS.out] at Hput
        obtain ⟨cw, hcw⟩ : ∃ cw, sN + q = cw := ⟨_, rfl⟩
        rw [hcw] at hsb Hput
        have hs1 : IntKind.i64.wrap ((sN : Int) + (q : Int)) = (cw : Int) := by rw [qal]; omega
        have hs2 : (0 : Int) ≤ (sy : Int) ∧ (sy : Int) < (k : Int) := by omega
        have hs3 : IntKind.i64.wrap (sy : Int) = (sy : Int) := by rw [qal]; omega
        clear hwl hsy hcw
        go_wp2
        refine qb2 16 (by kernel_rfl) (by kernel_rfl) ?_
        simp only [qaM, qbb, qbu, qbi]
        change wpStill _ _ (World.drew _) (fun a' => wpList _ _ _ _ a' (World.drew _)) _ _
        repeat still_step
        refine qc6 ?_
        go_wp2
        go_roundw
        case rel =>
         obtain ⟨f1, f2, f3⟩ := Hput.out _ _ rfl rfl
         exact ⟨q + 1, sy + 1, by omega, iv (by omega), qaa ⟨f2, f3⟩, f1.drew⟩
        case measure => simp only [intOf]; omega
       ·have hqi : ¬ (q : Int) < (cN : Int) := by omega
        obtain rfl : q = cN := by omega
        have HS5 := qaa (cst_row Hln.out (by omega) (by rw [Hq.out.2, HcN.out]) HS4.out)
        clear HS4 Hq hsym
        go_wp2
        go_roundw
        case rel => exact ⟨N + 1, by omega, by omega, iv (by omega), HS5⟩
        case measure => simp only [intOf]; omega
     ·obtain rfl : N = D + 1 := by omega
      have hNi : ¬ ((D + 1 : Nat) : Int) ≤ (D : Int) := by omega
      have hE := HE.out _ HS.out
      have HE2 := qaa hE
      clear hE
      go_wp2
      go_ret2
      exact ⟨HE2.out.1, qay ⟨H0.out, _, HE2.out.2.1, rfl, HE2.out.2.2⟩⟩
 ·have hb0 : (yat l == 0) = false := by simpa using h0
  have H0 := qaa h0
  clear h0 hr
  unfold CNewPost
  generalize yat l = E at *
  go_enter func62, ntmps62
  go_wp2_with (go_at_call 104; refine Hchk.out.mono ?_; rintro e w1 ⟨rfl, hb1⟩; have Hb1 := qaa hb1; clear hb1)
  go_ret2
  exact ⟨Hb1.out, qaI ⟨H0.out, rfl⟩⟩
end Go.Proofs.YtanjhbkbpalnaaaGreat
