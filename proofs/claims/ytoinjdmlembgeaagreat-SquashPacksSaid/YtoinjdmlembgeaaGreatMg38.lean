/-
 What the law of the last of these texts stands on, part 38.
-/
import Derived.Test.YtoinjdmlembgeaaGreatMg30
import Derived.Test.YtoinjdmlembgeaaGreatMg37
namespace Go.Proofs.YtoinjdmlembgeaaGreat
set_option linter.unusedSimpArgs false
set_option linter.unusedVariables false
open Go.ChangeShapes Go.WideShapes Go.ChangeAt Go.RowKit Go.Joins Go.Deep
set_option maxRecDepth 100000 in
set_option maxHeartbeats 4000000 in
theorem yeU (l : List Int) (A : Option Addr) (n c : Nat) (w : World) (hm : n ≤ 1000000) (hr : Reads w w.heap.size 1 A n (ints l)) :
  Calls Tryz.prog 62 #[.slice A n c] w fun e w' => yfJ w w' e (hcF l) := by
 have en : l.length = n := by have := hr.1; rw [yab] at this; omega
 have hni : (n : Int) ≤ 1000000 := by omega
 by_cases hbig : 100000 < n
 ·rw [hc_big (by omega)]
  have hb1 : (100000 : Int) < (n : Int) := by omega
  clear hr
  go_enter Tryz.func62, Tryz.ntmps62
  go_wp2
  go_ret2
  exact yaA (Below.refl _ _)
 have hb1 : ¬ (100000 : Int) < (n : Int) := by omega
 have hbl : ¬ 100000 < l.length := by omega
 obtain ⟨C, hC⟩ : ∃ C : Nat → List Value, HCells l C := ⟨_, hcells l⟩
 have hmk := fun w => tmk_ints 257 257 rfl (by decide) w
 rw [← hC.zero] at hmk
 have HC := Lib.hid hC
 have Hcell : Hid (∀ W, Below w.heap.size w W → ∀ k (hk : k < l.length), ∃ b off, A = some ⟨b, off, none⟩ ∧ W.cell? ⟨b, off + k, none⟩ = some (.int .i64 l[k])) := Lib.hid fun W hW k hk => by
  obtain ⟨b, off, e, hb, hc⟩ := hr.2 (by omega)
  exact ⟨b, off, e, (hW.cell (p := ⟨b, off + k, none⟩) hb).trans (hc k _ (yai l k hk))⟩
 have En := Lib.hid en
 have Hbl := Lib.hid hbl
 have HB0 := Lib.hid (Blk.new w 3 (C 0).toArray)
 have HO0 := Lib.hid ((Below.refl w.heap.size w).alloc (Nat.le_refl _) (.cells (C 0).toArray 3))
 clear hr hC en hbl
 generalize hg : w.heap.size = g at *
 go_enter Tryz.func62, Tryz.ntmps62
 go_wp2
 go_loopw [6, 13] (fun xv i wr => ∃ k : Nat, k ≤ n ∧ i = .int .i64 k ∧ Hid (hin (l.take k) = true) ∧ Hid (Blk wr g 3 (C k).toArray) ∧ Hid (Below g w wr)) (fun _ i _ => n - (intOf i).toNat)
 case atStart => exact ⟨0, by omega, rfl, Lib.hid rfl, HB0, HO0⟩
 case round =>
  obtain ⟨k, hk, rfl, Hin, HB, HO⟩ := hrel
  clear HB0 HO0 hmk
  by_cases hlt : k < n
  ·have hki : (k : Int) < (n : Int) := by omega
   have hkl : k < l.length := by rw [En.out]; exact hlt
   obtain ⟨b, off, rfl, x1⟩ := Hcell.out wr HO.out k hkl
   obtain ⟨x, hx⟩ : ∃ x, l[k] = x := ⟨_, rfl⟩
   rw [hx] at x1
   by_cases hin0 : 0 ≤ x ∧ x ≤ 256
   ·obtain ⟨s, rfl⟩ := Int.eq_ofNat_of_zero_le hin0.1
    have hsi : (0 : Int) ≤ (s : Int) ∧ (s : Int) < 257 ∧ (s : Int) ≤ 256 := by omega
    obtain ⟨v, hv1, hv2, hv3⟩ := HC.out.get k s (by omega)
    have x2 : wr.cell? ⟨g, s, none⟩ = some (.int .i64 (v : Int)) := by rw [HB.out.cell]; exact hv2
    have x3 := HB.out.frozen s
    have Hset := Lib.hid (hv3 hkl hx)
    have Hin2 := Lib.hid (hin_take k hkl Hin.out (by rw [hx]; exact hin0))
    have hvi : (0 : Int) ≤ (v : Int) ∧ (v : Int) ≤ 1000000 := by omega
    have hgl := HB.out.lt
    clear hx hv2 hv3 hin0 hkl
    go_wp2
    go_roundw
    case rel =>
     refine ⟨k + 1, by omega, iv (by omega), Hin2, Lib.hid ?_, Lib.hid ?_⟩
     ·rw [← Hset.out]
      exact HB.out.set_ s _
     ·exact HO.out.setCell (p := ⟨g, s, none⟩) (Nat.le_refl _) _
    case measure => simp only [intOf]; omega
   ·have Hf := Lib.hid (hc_none Hbl.out k hkl (by rw [hx]; exact hin0))
    by_cases h0 : 0 ≤ x
    ·have h1 : ¬ x ≤ 256 := by omega
     clear hx hkl
     go_wp2
     go_ret2
     rw [Hf.out]
     subst hg
     exact yaA HO.out
    ·clear hx hkl
     go_wp2
     go_ret2
     rw [Hf.out]
     subst hg
     exact yaA HO.out
  ·obtain rfl : k = n := by omega
   have hii : ¬ (k : Int) < (k : Int) := by omega
   have hin2 := Hin.out
   rw [List.take_of_length_le (by rw [En.out]; exact Nat.le_refl _)] at hin2
   have Hf := Lib.hid (hc_all Hbl.out hin2)
   have hlast := HC.out.last
   rw [En.out] at hlast
   have HB2 : Hid (Blk wr g 3 (ints (yam l)).toArray) := Lib.hid (by rw [← hlast]; exact HB.out)
   clear hin2 hlast
   go_wp2
   go_ret2
   rw [Hf.out]
   subst hg
   exact hcpost_row (yal l) HB2.out HO.out
theorem CFar.lt {W : World} {g : Nat} {ls : List Nat} {ok : Nat → Prop} (h : CFar W g ls ok) : CFar W g ls (fun k => k < W.heap.size ∧ ok k) := by
 obtain ⟨B, k, st, rows, h, hB, o1, o2, o3⟩ := h
 refine ⟨B, k, st, rows, h, hB, ⟨Nat.lt_of_lt_of_le h.gB hB, o1⟩, ⟨Nat.lt_of_lt_of_le h.hB hB, o2⟩, fun j hj A n c e hn a ha => ⟨?_, o3 j hj A n c e hn a ha⟩⟩
 obtain ⟨A2, c2, e2, hr⟩ := h.row j hj
 rw [e] at e2
 injection e2 with e3 e4 _
 subst e3 e4
 obtain ⟨b, off, e5, hb, _⟩ := hr.2 hn
 rw [ha] at e5
 injection e5 with e5
 rw [e5]
 exact Nat.lt_of_lt_of_le hb hB
theorem hget_fail (ws : List (Int × Int)) (L : List Nat) (p : Nat) (hf : ∀ f ∈ ws, fits f.1 f.2) (h : (ybo ws L p).2.2 ≠ 0) : (ybo ws L p).1 = 0 ∧ (ybo ws L p).2.1 = 0 := by
 unfold ybo at h ⊢
 rcases ygm (L.drop p) ws 0 (if p = L.length then 4 else 40) (by split <;> omega) hf with ⟨h1, _⟩ | ⟨_, h2, h3⟩
 ·exact absurd h1 h
 ·exact ⟨h2, h3⟩
structure HDec (w3 wr : World) (s : List UInt8) (gr g : Nat) (ls : List Nat) (q k : Nat) (acc : List Int) (Av : Option Addr) (cv : Nat) : Prop where
 rd : RHold wr gr s q
 far : CFar wr g ls (fun k => k < w3.heap.size ∧ k ≠ gr)
 row : wr.ownsRow w3.heap.size 3 1 (.slice Av k cv) k (ints acc)
 tch : Touch w3 wr (fun k => k = gr)
 glt : gr < w3.heap.size
section
variable {w3 wr w5 w6 : World} {s : List UInt8} {gr g q k : Nat} {ls : List Nat} {acc : List Int} {Av : Option Addr} {cv : Nat}
theorem HDec.get (T : HDec w3 wr s gr g ls q k acc Av cv) {q2 : Nat} (h : RHold w5 gr s q2) (ht : Touch wr w5 (fun k => k = gr)) : HDec w3 w5 s gr g ls q2 k acc Av cv :=
 ⟨h, T.far.touch ht (fun k hk e => hk.2 e), yaz T.row ht (fun b hb e => by have := (T.row.lt b hb).1; have := T.glt; omega), T.tch.trans ht, T.glt⟩
theorem HDec.app (T : HDec w3 wr s gr g ls q k acc Av cv) {o : Obj} {A2 : Option Addr} {c2 : Nat} {x : Int} (ho : w6.ownsRow w3.heap.size 3 1 (.slice A2 (k + 1) c2) (k + 1) (ints acc ++ [.int .i64 x])) (hg : (wr.alloc o).grownBy w6 (Value.slice Av k cv).ownBlock) : HDec w3 w6 s gr g ls q (k + 1) (acc ++ [x]) A2 c2 := by
 have hown : ∀ b, (Value.slice Av k cv).ownBlock = some b → w3.heap.size ≤ b := fun b hb => (T.row.lt b hb).1
 have ht : Touch wr w6 (fun b => (Value.slice Av k cv).ownBlock = some b) := ((Touch.refl wr _).alloc o).trans ((yaq hg).mono fun b _ e => e.symm)
 refine ⟨T.rd.touch ht (fun e => by have := hown _ e; have := T.glt; omega), T.far.touch ht (fun b hb e => by have := hown _ e; omega), ?_, T.tch.next ht (fun b hb e => by have := hown _ e; omega), T.glt⟩
 have e : ints (acc ++ [x]) = ints acc ++ [.int .i64 x] := by simp [ints]
 rw [e]
 exact ho
end
theorem hcpost_acc {w w' : World} {acc : List Int} {k c : Nat} {A : Option Addr} (hl : acc.length = k) (hc : k ≤ c) (hr : Reads w' w'.heap.size 1 A k (ints acc)) (hb : Below w.heap.size w w') : yfJ w w' (.returned (.tuple #[.slice A k c, .int .i64 0])) (acc, 0) := by
 subst hl
 exact ⟨A, c, rfl, hc, hr, hb⟩
theorem ygz (w3 : World) (s : List UInt8) (gr g q : Nat) (ls : List Nat) (h1 : RHold w3 gr s q) (h2 : CFar w3 g ls (fun k => k ≠ gr)) : HDec w3 w3 s gr g ls q 0 [] none 0 :=
 ⟨h1, h2.lt, World.ownsRow_nil _ _ _ _, Touch.refl _ _, Blk.lt h1⟩
def HRow (w w' : World) (e : Ending) (s : List UInt8) (gr : Nat) (U : List Int × Nat × Int) : Prop :=
 Touch w w' (fun k => k = gr) ∧ ((U.2.2 ≠ 0 ∧ e = .returned (.tuple #[.slice none 0 0, .int .i64 U.2.2])) ∨ (U.2.2 = 0 ∧ ∃ A c, e = .returned (.tuple #[.slice A U.1.length c, .int .i64 0]) ∧ U.1.length ≤ c ∧ Reads w' w'.heap.size 1 A U.1.length (ints U.1) ∧ RHold w' gr s U.2.1 ∧ U.2.1 ≤ 8 * s.length))
theorem hrow_bad {w w' : World} {s : List UInt8} {gr : Nat} {U : List Int × Nat × Int} {E : Int} (hE : E ≠ 0) (h : U.2.2 = E) (ht : Touch w w' (fun k => k = gr)) : HRow w w' (.returned (.tuple #[.slice none 0 0, .int .i64 E])) s gr U := by
 subst h
 exact ⟨ht, Or.inl ⟨hE, rfl⟩⟩
theorem hrow_good {w w' : World} {s : List UInt8} {gr g q k : Nat} {ls : List Nat} {acc : List Int} {Av : Option Addr} {cv : Nat} {U : List Int × Nat × Int} (h : (acc, q, (0 : Int)) = U) (ha : acc.length = k) (hq : q ≤ 8 * s.length) (T : HDec w w' s gr g ls q k acc Av cv) : HRow w w' (.returned (.tuple #[.slice Av k cv, .int .i64 0])) s gr U := by
 subst h ha
 obtain ⟨A2, c2, e2, h8, h9⟩ := yae T.row
 injection e2 with e3 _ e4
 subst e3 e4
 exact ⟨T.tch, Or.inr ⟨rfl, _, _, rfl, h8, h9, T.rd, hq⟩⟩
section
variable {s : List UInt8} {ls : List Nat} {M : Nat}
set_option maxRecDepth 100000 in
set_option maxHeartbeats 8000000 in
theorem p_hrow_any (w3 : World) (g gr q0 : Nat) (hs : s.length ≤ 100000000000) (hM : M ≤ 100000) (hat : q0 ≤ 8 * s.length) (h15 : ∀ x ∈ ls, x ≤ 15) (hca : call ls ≤ 32768) (hD : yaC ls ls.length = 1 ∨ call ls = 32768) (hll : ls.length ≤ 257) (hfit : ∀ f ∈ wat ls 16 0, fits f.1 f.2) (hwl : (wat ls 16 0).length ≤ 257) (h0 : HDec w3 w3 s gr g ls q0 0 [] none 0) :
  Calls Tryz.prog 56 #[.int .i64 (M : Int), .pointer (some ⟨gr, 0, none⟩), .func (.func 57) #[.pointer (some ⟨g, 0, none⟩)] #[]] w3 fun e w' => HRow w3 w' e s gr (cunp (wat ls 16 0) (yag s) M q0 []) := by
 obtain ⟨i0, hi, hz0, hz1, hz9⟩ := info_parts ye5
 obtain ⟨U, hU⟩ : ∃ U, cunp (wat ls 16 0) (yag s) M q0 [] = U := ⟨_, rfl⟩
 have HG := Lib.hid fun (W : World) ok (q : Nat) (hfar : CFar W g ls ok) (hgr : ¬ ok gr) (hR : RHold W gr s q) (hq : q ≤ 8 * s.length) => c_get_far ls ok g gr s q W hfar h15 hca hD hll hgr hR (by omega) hq
 have Hok := Lib.hid fun q (hq : q ≤ 8 * s.length) => cgetF_ok (wat ls 16 0) (yag s) q (8 * s.length) (yay s) hq hwl hfit
 have Hfl := Lib.hid fun q => hget_fail (wat ls 16 0) (yag s) q hfit
 have HU := Lib.hid hU
 have H0 := Lib.hid h0
 have hMi : (0 : Int) ≤ (M : Int) ∧ (M : Int) ≤ 100000 := by omega
 rw [hU]
 clear h0 hU h15 hca hD hll hfit hwl hs
 go_enter Tryz.func56, Tryz.ntmps56
 go_wp2
 go_loopw [8, 9, 10, 12] (fun v xv ev i wr => ∃ (k q : Nat) (acc : List Int) (Av : Option Addr) (cv : Nat), k ≤ M ∧ q ≤ 8 * s.length ∧ v = .slice Av k cv ∧ i = .int .i64 k ∧ Hid (acc.length = k) ∧ Hid (cunp (wat ls 16 0) (yag s) (M - k) q acc = U) ∧ Hid (HDec w3 wr s gr g ls q k acc Av cv)) (fun _ _ _ i _ => M - (intOf i).toNat)
 case atStart => exact ⟨0, q0, [], none, 0, by omega, hat, rfl, rfl, Lib.hid rfl, Lib.hid HU.out, H0⟩
 case round =>
  obtain ⟨k, q, acc, Av, cv, hk, hq, rfl, rfl, Hacc, HR, HT⟩ := hrel
  clear H0 HU hat
  by_cases hlt : k < M
  ·have hki : (k : Int) < (M : Int) := by omega
   have hget := HG.out wr (fun k => k < w3.heap.size ∧ k ≠ gr) q HT.out.far (fun h => h.2 rfl) HT.out.rd hq
   have hok := Hok.out q hq
   have hfl := Hfl.out q
   have hst := HR.out
   rw [show M - k = M - (k + 1) + 1 from by omega, ydp] at hst
   generalize ybo (wat ls 16 0) (yag s) q = G at *
   obtain ⟨g1, g2, g3⟩ := G
   unfold CGet2 at hget
   dsimp only at hst hok hget hfl
   have Hget := Lib.hid hget
   clear hget
   rcases hok with ⟨rfl, x, kk, rfl, hx, rfl, hkk⟩ | hne
   ·rw [if_pos rfl, Int.toNat_natCast] at hst
    have Hst := Lib.hid hst
    rw [Int.toNat_natCast] at Hget
    clear hst hfl
    go_wp2_with (first
     | (go_at_call 57; refine Hget.out.mono ?_; rintro e w5 ⟨rfl, hr5, ht5⟩; have HT5 := Lib.hid (HT.out.get hr5 ht5); clear hr5 ht5)
     | (at_builtin; refine yaf _ rfl _ _ 28 rfl w3.heap.size 3 i0 (.int .i64 0) 1 8 Tryz.underlying28 hi hz0 hz1 hz9 rfl (by decide) _ _ _ rfl (yah HT5.out.row ((Below.refl w5.heap.size w5).alloc (Nat.le_refl _) _) (Nat.le_refl _)) _ 1 1 _ _ rfl (ya1 w5 3 #[.int .i64 (x : Int)] 1 1 rfl) ?c1 ?c2 ?c3 ?c4 ?_))
    case c1 => first | rfl | (intro u hu; rw [List.mem_singleton.1 hu]; rfl)
    case c2 => unfold maxLen; omega
    case c3 => omega
    case c4 =>
     have := HT5.out.tch.size
     simp
     omega
    intro v7 w7 ho7 hg7 _
    obtain ⟨A8, c8, rfl, _, _⟩ := yae ho7
    have HT7 : Hid (HDec w3 w7 s gr g ls (q + kk) (k + 1) (acc ++ [(x : Int)]) A8 c8) := Lib.hid (HT5.out.app ho7 hg7)
    clear ho7 hg7
    go_wp2
    go_roundw
    case rel => exact ⟨k + 1, q + kk, acc ++ [(x : Int)], A8, c8, by omega, hkk, rfl, iv (by omega), Lib.hid (by rw [List.length_append, Hacc.out]; rfl), Lib.hid Hst.out, HT7⟩
    case measure => simp only [intOf]; omega
   ·have hg3 : g3 ≠ 0 := by omega
    obtain ⟨rfl, rfl⟩ := hfl hg3
    rw [if_neg hg3] at hst
    have Hu := Lib.hid (show U.2.2 = g3 by rw [← hst])
    have Hg3 := Lib.hid hg3
    have hb1 : (g3 == 0) = false := by simpa using hg3
    have hb2 : (g3 != 0) = true := by simpa using hg3
    clear hst hfl hne hg3
    go_wp2_with (go_at_call 57; refine Hget.out.mono ?_; rintro e w5 ⟨rfl, hr5, ht5⟩; have HT5 := Lib.hid (HT.out.get hr5 ht5); clear hr5 ht5)
    go_ret2
    exact hrow_bad Hg3.out Hu.out HT5.out.tch
  ·obtain rfl : k = M := by omega
   have hii : ¬ (k : Int) < (k : Int) := by omega
   have hst := HR.out
   rw [Nat.sub_self] at hst
   have Hst := Lib.hid (show (acc, q, (0 : Int)) = U from hst)
   clear hst
   go_wp2
   go_ret2
   exact hrow_good Hst.out Hacc.out hq HT.out
end
set_option maxRecDepth 100000 in
set_option maxHeartbeats 8000000 in
theorem p_hdecode_any (s : List UInt8) (N : Int) (w : World) (hs : s.length ≤ 100000000000) :
  Calls Tryz.prog 25 #[.string ⟨s.toArray⟩, .int .i64 N] w fun e w' => yfJ w w' e (ybU s N) := by
 obtain ⟨i0, hi, hz0, hz1, hz9⟩ := info_parts ye5
 have hmf : ∀ (fn : Fn) (first cap : Array Value) (w : World), (Instr.makeFunc fn first cap).run Tryz.prog w = .ok (.func fn first cap) w := fun _ _ _ _ => rfl
 obtain ⟨F, hF⟩ : ∃ F, ybU s N = F := ⟨_, rfl⟩
 rw [hF]
 unfold ybU at hF
 by_cases h1 : N < 0
 ·rw [if_pos (Or.inl h1)] at hF
  subst hF
  clear hs
  go_enter Tryz.func25, Tryz.ntmps25
  go_wp2
  go_ret2
  exact yaA (Below.refl _ _)
 by_cases h2 : 100000 < N
 ·rw [if_pos (Or.inr h2)] at hF
  subst hF
  clear hs
  go_enter Tryz.func25, Tryz.ntmps25
  go_wp2
  go_ret2
  exact yaA (Below.refl _ _)
 rw [if_neg (by omega)] at hF
 obtain ⟨M, rfl⟩ := Int.eq_ofNat_of_zero_le (by omega : 0 ≤ N)
 rw [Int.toNat_natCast] at hF
 have hMi : (0 : Int) ≤ (M : Int) ∧ (M : Int) ≤ 100000 := by omega
 have hb := (Below.refl w.heap.size w).alloc (Nat.le_refl _) (.cells #[.string ⟨s.toArray⟩, .int .i64 0] 134)
 have hget := tgot_any s 0 w.heap.size 257 (w.alloc (.cells #[.string ⟨s.toArray⟩, .int .i64 0] 134)) hs (by omega) (Blk.new w _ _)
 obtain ⟨G, hG⟩ : ∃ G, ybF (yag s) 0 257 = G := ⟨_, rfl⟩
 rw [hG] at hF hget
 unfold hdec1 at hF
 by_cases hE : G.2.2 = 0
 ·rw [if_neg (by simpa using hE)] at hF
  have hgm := tgetF_more (yag s) [] 0 257 (Nat.zero_le _) (by rw [hG]; exact hE)
  rw [hG, yay] at hgm
  obtain ⟨_, hat, hck⟩ := hgm
  obtain ⟨hl, hg, hca⟩ := ycp hck
  obtain ⟨ln, q0, e0⟩ := G
  dsimp only at hE hF hat hck hl hg hca hget
  subst hE
  have hnew := fun (W : World) A c (hr : Reads W W.heap.size 1 A ln.length (ints ln)) => c_new_any ln A ln.length c W (by omega) hr
  have hnew2 : ∀ (W : World) A c, Reads W W.heap.size 1 A ln.length (ints ln) → Calls Tryz.prog 28 #[.slice A ln.length c] W fun e w' => ∃ g, e = .returned (.tuple #[.pointer (some ⟨g, 0, none⟩), .int .i64 0]) ∧ CFar w' g (ln.map Int.toNat) (fun k => W.heap.size ≤ k) ∧ Below W.heap.size W w' := fun W A c hr => by
   refine (hnew W A c hr).mono ?_
   rintro e w' ⟨h1, ⟨_, g, _, rfl, h2⟩ | ⟨h2, _⟩⟩
   ·exact ⟨g, rfl, h2.2, h1⟩
   ·exact absurd hck h2
  have Hnew := Lib.hid hnew2
  have h15 := cnat15 hg
  have hD := cdeep_full hck
  have hll : (ln.map Int.toNat).length ≤ 257 := by rw [List.length_map]; exact hl
  have hfit := cwords_fit ln
  rw [yho hck] at hfit
  dsimp only at hfit
  have hwl : (wat (ln.map Int.toNat) 16 0).length ≤ 257 := by rw [yaF]; exact hll
  clear hnew hnew2 hck hg hl
  generalize ln.map Int.toNat = ls at *
  have Hrow := Lib.hid fun (W : World) (g gr : Nat) (h : HDec W W s gr g ls q0 0 [] none 0) => p_hrow_any (M := M) W g gr q0 hs (by omega) hat h15 hca hD hll hfit hwl h
  obtain ⟨U, hU⟩ : ∃ U, cunp (wat ls 16 0) (yag s) M q0 [] = U := ⟨_, rfl⟩
  rw [hU] at hF Hrow
  have Hdone := Lib.hid fun W (q gr : Nat) (hq : q ≤ 8 * s.length) (hR : RHold W gr s q) => done_any s q gr W (by omega) hq hR
  have Hget := Lib.hid hget
  have Hb := Lib.hid hb
  unfold hdec2 at hF
  clear hget hb hU hG h15 hca hD hll hfit hwl hs
  obtain ⟨ul, uq, ue⟩ := U
  dsimp only at hF
  have Hne : Hid (∀ (w2 : World), RHold w2 w.heap.size s q0 → w.heap.size < w2.heap.size) := Lib.hid fun w2 h => Blk.lt h
  by_cases hu : ue = 0
  ·subst hu
   rw [if_neg (by decide)] at hF
   have Hrow2 : Hid (∀ (W : World) (g gr : Nat), HDec W W s gr g ls q0 0 [] none 0 → Calls Tryz.prog 56 #[.int .i64 (M : Int), .pointer (some ⟨gr, 0, none⟩), .func (.func 57) #[.pointer (some ⟨g, 0, none⟩)] #[]] W fun e w' => ∃ A c, e = .returned (.tuple #[.slice A ul.length c, .int .i64 0]) ∧ ul.length ≤ c ∧ Reads w' w'.heap.size 1 A ul.length (ints ul) ∧ RHold w' gr s uq ∧ uq ≤ 8 * s.length ∧ Touch W w' (fun k => k = gr)) := Lib.hid fun W g gr h => by
    refine (Hrow.out W g gr h).mono ?_
    rintro e w' ⟨ht, ⟨h2, _⟩ | ⟨_, A, c, rfl, h3, h4, h5, h6⟩⟩
    ·exact absurd rfl h2
    ·exact ⟨A, c, rfl, h3, h4, h5, h6, ht⟩
   clear Hrow
   obtain ⟨dn, hdn⟩ : ∃ dn, yfV (yag s) uq = dn := ⟨_, rfl⟩
   rw [hdn] at hF
   have Hdn : Hid (∀ (W : World) gr, uq ≤ 8 * s.length → RHold W gr s uq → Calls Tryz.prog 58 #[.pointer (some ⟨gr, 0, none⟩)] W fun e w' => e = .returned (.bool dn) ∧ ∃ k, W.drewN k = w') := Lib.hid fun W gr hq hR => by
    have := Hdone.out W uq gr hq hR
    rwa [hdn] at this
   clear Hdone hdn
   cases dn
   ·rw [if_neg (by decide)] at hF
    go_enter Tryz.func25, Tryz.ntmps25
    go_wp2_with (first
     | (go_at_call 54; refine (ybI _ _).mono ?_; rintro e w1 ⟨rfl, rfl⟩)
     | (go_at_call 55; refine Hget.out.mono ?_; unfold TGot; rintro e w2 ⟨A2, c2, rfl, _, h4, h5, h6⟩; have H4 := Lib.hid h4; have H5 := Lib.hid h5; have H6 := Lib.hid h6; clear h4 h5 h6)
     | (go_at_call 28; refine (Hnew.out _ _ _ H4.out).mono ?_; rintro e w3 ⟨g, rfl, h7, hb3⟩; have H7 := Lib.hid h7; have Hb3 := Lib.hid hb3; clear h7 hb3)
     | (go_at_call 56; refine (Hrow2.out w3 g w.heap.size (ygz w3 s w.heap.size g q0 ls (Blk.below H5.out Hb3.out (Hne.out w2 H5.out)) (H7.out.mono fun k hk e => absurd (e ▸ hk) (Nat.not_le_of_lt (Hne.out w2 H5.out))))).mono ?_; rintro e w4 ⟨A4, c4, rfl, h8, h9, h10, h11, h12⟩; have H8 := Lib.hid h8; have H9 := Lib.hid h9; have H10 := Lib.hid h10; have H11 := Lib.hid h11; have H12 := Lib.hid h12; clear h8 h9 h10 h11 h12)
     | (go_at_call 58; refine (Hdn.out w4 w.heap.size H11.out H10.out).mono ?_; rintro e w6 ⟨rfl, kd, rfl⟩))
    go_ret2
    have hne := Hne.out w2 H5.out
    have hb2 : Below w.heap.size w w2 := Hb.out.trans (H6.out.below (fun k _ e => by omega) Hb.out.size)
    have hb4 : Below w.heap.size w w4 := (hb2.trans (Hb3.out.mono hb2.size)).trans (H12.out.below (fun k _ e => by omega) (hb2.trans (Hb3.out.mono hb2.size)).size)
    rw [← hF]
    exact yaA (yaj hb4 kd)
   ·rw [if_pos rfl] at hF
    go_enter Tryz.func25, Tryz.ntmps25
    go_wp2_with (first
     | (go_at_call 54; refine (ybI _ _).mono ?_; rintro e w1 ⟨rfl, rfl⟩)
     | (go_at_call 55; refine Hget.out.mono ?_; unfold TGot; rintro e w2 ⟨A2, c2, rfl, _, h4, h5, h6⟩; have H4 := Lib.hid h4; have H5 := Lib.hid h5; have H6 := Lib.hid h6; clear h4 h5 h6)
     | (go_at_call 28; refine (Hnew.out _ _ _ H4.out).mono ?_; rintro e w3 ⟨g, rfl, h7, hb3⟩; have H7 := Lib.hid h7; have Hb3 := Lib.hid hb3; clear h7 hb3)
     | (go_at_call 56; refine (Hrow2.out w3 g w.heap.size (ygz w3 s w.heap.size g q0 ls (Blk.below H5.out Hb3.out (Hne.out w2 H5.out)) (H7.out.mono fun k hk e => absurd (e ▸ hk) (Nat.not_le_of_lt (Hne.out w2 H5.out))))).mono ?_; rintro e w4 ⟨A4, c4, rfl, h8, h9, h10, h11, h12⟩; have H8 := Lib.hid h8; have H9 := Lib.hid h9; have H10 := Lib.hid h10; have H11 := Lib.hid h11; have H12 := Lib.hid h12; clear h8 h9 h10 h11 h12)
     | (go_at_call 58; refine (Hdn.out w4 w.heap.size H11.out H10.out).mono ?_; rintro e w6 ⟨rfl, kd, rfl⟩))
    go_ret2
    have hne := Hne.out w2 H5.out
    have hb2 : Below w.heap.size w w2 := Hb.out.trans (H6.out.below (fun k _ e => by omega) Hb.out.size)
    have hb4 : Below w.heap.size w w4 := (hb2.trans (Hb3.out.mono hb2.size)).trans (H12.out.below (fun k _ e => by omega) (hb2.trans (Hb3.out.mono hb2.size)).size)
    rw [← hF]
    exact hcpost_acc rfl H8.out (H9.out.drewN kd) (yaj hb4 kd)
  ·rw [if_pos hu] at hF
   have hb1 : (ue == 0) = false := by simpa using hu
   have hb2 : (ue != 0) = true := by simpa using hu
   have Hrow2 : Hid (∀ (W : World) (g gr : Nat), HDec W W s gr g ls q0 0 [] none 0 → Calls Tryz.prog 56 #[.int .i64 (M : Int), .pointer (some ⟨gr, 0, none⟩), .func (.func 57) #[.pointer (some ⟨g, 0, none⟩)] #[]] W fun e w' => e = .returned (.tuple #[.slice none 0 0, .int .i64 ue]) ∧ Touch W w' (fun k => k = gr)) := Lib.hid fun W g gr h => by
    refine (Hrow.out W g gr h).mono ?_
    rintro e w' ⟨ht, ⟨_, h2⟩ | ⟨h2, _⟩⟩
    ·exact ⟨h2, ht⟩
    ·exact absurd h2 hu
   clear Hrow Hdone hu
   go_enter Tryz.func25, Tryz.ntmps25
   go_wp2_with (first
    | (go_at_call 54; refine (ybI _ _).mono ?_; rintro e w1 ⟨rfl, rfl⟩)
    | (go_at_call 55; refine Hget.out.mono ?_; unfold TGot; rintro e w2 ⟨A2, c2, rfl, _, h4, h5, h6⟩; have H4 := Lib.hid h4; have H5 := Lib.hid h5; have H6 := Lib.hid h6; clear h4 h5 h6)
    | (go_at_call 28; refine (Hnew.out _ _ _ H4.out).mono ?_; rintro e w3 ⟨g, rfl, h7, hb3⟩; have H7 := Lib.hid h7; have Hb3 := Lib.hid hb3; clear h7 hb3)
    | (go_at_call 56; refine (Hrow2.out w3 g w.heap.size (ygz w3 s w.heap.size g q0 ls (Blk.below H5.out Hb3.out (Hne.out w2 H5.out)) (H7.out.mono fun k hk e => absurd (e ▸ hk) (Nat.not_le_of_lt (Hne.out w2 H5.out))))).mono ?_; rintro e w4 ⟨rfl, h12⟩; have H12 := Lib.hid h12; clear h12))
   go_ret2
   have hne := Hne.out w2 H5.out
   have hb3 : Below w.heap.size w w2 := Hb.out.trans (H6.out.below (fun k _ e => by omega) Hb.out.size)
   rw [← hF]
   exact yaA ((hb3.trans (Hb3.out.mono hb3.size)).trans (H12.out.below (fun k _ e => by omega) (hb3.trans (Hb3.out.mono hb3.size)).size))
 ·rw [if_pos (by simpa using hE)] at hF
  have hb1 : (G.2.2 == 0) = false := by simpa using hE
  have hb2 : (G.2.2 != 0) = true := by simpa using hE
  have Hget := Lib.hid hget
  have Hb := Lib.hid hb
  subst hF
  clear hget hb hG hE hs
  obtain ⟨ln, q0, e0⟩ := G
  dsimp only at *
  go_enter Tryz.func25, Tryz.ntmps25
  go_wp2_with (first
   | (go_at_call 54; refine (ybI _ _).mono ?_; rintro e w1 ⟨rfl, rfl⟩)
   | (go_at_call 55; refine Hget.out.mono ?_; unfold TGot; rintro e w2 ⟨A2, c2, rfl, _, h4, h5, h6⟩; have H6 := Lib.hid h6; clear h4 h5 h6))
  go_ret2
  exact yaA (Hb.out.trans (H6.out.below (fun k _ e => by omega) Hb.out.size))
end Go.Proofs.YtoinjdmlembgeaaGreat
