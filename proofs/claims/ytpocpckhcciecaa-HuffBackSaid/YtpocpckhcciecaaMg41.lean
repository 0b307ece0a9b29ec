/-
  What the law of the last of these texts stands on, part 41.
-/
import Derived.Test.YtpocpckhcciecaaRows
import Derived.Test.YtpocpckhcciecaaMg01
import Derived.Test.YtpocpckhcciecaaMg02
import Derived.Test.YtpocpckhcciecaaMg03
import Derived.Test.YtpocpckhcciecaaMg04
import Derived.Test.YtpocpckhcciecaaMg05
import Derived.Test.YtpocpckhcciecaaMg06
import Derived.Test.YtpocpckhcciecaaMg07
import Derived.Test.YtpocpckhcciecaaMg08
import Derived.Test.YtpocpckhcciecaaMg09
import Derived.Test.YtpocpckhcciecaaMg10
import Derived.Test.YtpocpckhcciecaaMg11
import Derived.Test.YtpocpckhcciecaaMg12
import Derived.Test.YtpocpckhcciecaaMg13
import Derived.Test.YtpocpckhcciecaaMg14
import Derived.Test.YtpocpckhcciecaaMg15
import Derived.Test.YtpocpckhcciecaaMg16
import Derived.Test.YtpocpckhcciecaaMg17
import Derived.Test.YtpocpckhcciecaaMg18
import Derived.Test.YtpocpckhcciecaaMg19
import Derived.Test.YtpocpckhcciecaaMg20
import Derived.Test.YtpocpckhcciecaaMg22
import Derived.Test.YtpocpckhcciecaaMg34
import Derived.Test.YtpocpckhcciecaaMg35
import Derived.Test.YtpocpckhcciecaaMg39
import Derived.Test.YtpocpckhcciecaaMg40
import Derived.WalkKit
import Derived.WalkSpells
import Derived.WalkLawsBesides
import Derived.ProofKit
import Derived.OpenShut
import Derived.Handy
import Derived.SizedLaws
import Derived.JoinedOf
import Derived.KernelRfl
import Derived.Lib.Hide
import Derived.Lib.SmallJoins
import Derived.Deep.Slices
import Derived.Deep.Fields
import Derived.Deep.SlicePairs
import Derived.Deep.Draws
import Derived.Deep.AppendLies
import Derived.Deep.QuietTactic
import Derived.BigQuiet
import Derived.Deep.RegionHeld3
import Derived.StillTailTactics
import Derived.Laws.OwnMore
import Derived.Laws.Rows
import Derived.Below
import Derived.Carry
import Derived.Lib.BitFns
import Derived.Deep.OwnRows
import Derived.WalkMore
import Derived.Laws.BytesString
import Derived.Laws.BitsLemmas
import Derived.Laws.Concat
import Derived.Laws.EntriesVeiled
import Derived.OwnWalk
import Derived.Deep.RegionWith
import Derived.Deep.Upon
import Derived.Deep.RegionLaw
import Derived.Laws.CopyOwn
import Derived.Laws.Bits64b
namespace Go.Proofs.Ytpocpckhcciecaa
set_option linter.unusedSimpArgs false
set_option linter.unusedVariables false
open Go.ChangeShapes Go.WideShapes Go.ChangeAt Go.RowKit Go.Joins Go.Deep
theorem CFar.lt {W : World} {g : Nat} {ls : List Nat} {ok : Nat → Prop} (h : CFar W g ls ok) : CFar W g ls (fun k => k < W.heap.size ∧ ok k) := by
  obtain ⟨B, k, st, rows, h, hB, o1, o2, o3⟩ := h
  refine ⟨B, k, st, rows, h, hB, ⟨Nat.lt_of_lt_of_le h.gB hB, o1⟩, ⟨Nat.lt_of_lt_of_le h.hB hB, o2⟩, fun j hj A n c e hn a ha => ⟨?_, o3 j hj A n c e hn a ha⟩⟩
  obtain ⟨A2, c2, e2, hr⟩ := h.row j hj
  rw [e] at e2
  injection e2 with e3 e4 _
  subst e3 e4
  obtain ⟨b, off, e5, hb, _⟩ := hr.2 hn
  rw [ha] at e5
  injection e5 with e5
  rw [e5]
  exact Nat.lt_of_lt_of_le hb hB
theorem hget_fail (ws : List (Int × Int)) (L : List Nat) (p : Nat) (hf : ∀ f ∈ ws, fits f.1 f.2) (h : (cgetF ws L p).2.2 ≠ 0) : (cgetF ws L p).1 = 0 ∧ (cgetF ws L p).2.1 = 0 := by
  unfold cgetF at h ⊢
  rcases cget1_ok (L.drop p) ws 0 (if p = L.length then 4 else 40) (by split <;> omega) hf with ⟨h1, _⟩ | ⟨_, h2, h3⟩
  · exact absurd h1 h
  · exact ⟨h2, h3⟩
/-- What Decode's loop holds on to. -/
structure HDec (w3 wr : World) (s : List UInt8) (gr g : Nat) (ls : List Nat) (q k : Nat) (acc : List Int) (Av : Option Addr) (cv : Nat) : Prop where
  rd : RHold wr gr s q
  far : CFar wr g ls (fun k => k < w3.heap.size ∧ k ≠ gr)
  row : wr.ownsRow w3.heap.size 3 1 (.slice Av k cv) k (ints acc)
  tch : Touch w3 wr (fun k => k = gr)
  glt : gr < w3.heap.size
section
variable {w3 wr w5 w6 : World} {s : List UInt8} {gr g q k : Nat} {ls : List Nat} {acc : List Int} {Av : Option Addr} {cv : Nat}
theorem HDec.get (T : HDec w3 wr s gr g ls q k acc Av cv) {q2 : Nat} (h : RHold w5 gr s q2) (ht : Touch wr w5 (fun k => k = gr)) : HDec w3 w5 s gr g ls q2 k acc Av cv :=
  ⟨h, T.far.touch ht (fun k hk e => hk.2 e), owns_touch T.row ht (fun b hb e => by have := (T.row.lt b hb).1; have := T.glt; omega), T.tch.trans ht, T.glt⟩
theorem HDec.app (T : HDec w3 wr s gr g ls q k acc Av cv) {o : Obj} {A2 : Option Addr} {c2 : Nat} {x : Int} (ho : w6.ownsRow w3.heap.size 3 1 (.slice A2 (k + 1) c2) (k + 1) (ints acc ++ [.int .i64 x])) (hg : (wr.alloc o).grownBy w6 (Value.slice Av k cv).ownBlock) : HDec w3 w6 s gr g ls q (k + 1) (acc ++ [x]) A2 c2 := by
  have hown : ∀ b, (Value.slice Av k cv).ownBlock = some b → w3.heap.size ≤ b := fun b hb => (T.row.lt b hb).1
  have ht : Touch wr w6 (fun b => (Value.slice Av k cv).ownBlock = some b) := ((Touch.refl wr _).alloc o).trans ((touch_grow hg).mono fun b _ e => e.symm)
  refine ⟨T.rd.touch ht (fun e => by have := hown _ e; have := T.glt; omega), T.far.touch ht (fun b hb e => by have := hown _ e; omega), ?_, T.tch.next ht (fun b hb e => by have := hown _ e; omega), T.glt⟩
  have e : ints (acc ++ [x]) = ints acc ++ [.int .i64 x] := by simp [ints]
  rw [e]
  exact ho
end
theorem hcpost_acc {w w' : World} {acc : List Int} {k c : Nat} {A : Option Addr} (hl : acc.length = k) (hc : k ≤ c) (hr : Reads w' w'.heap.size 1 A k (ints acc)) (hb : Below w.heap.size w w') : HCPost w w' (.returned (.tuple #[.slice A k c, .int .i64 0])) (acc, 0) := by
  subst hl
  exact ⟨A, c, rfl, hc, hr, hb⟩
theorem hdec_zero (w3 : World) (s : List UInt8) (gr g q : Nat) (ls : List Nat) (h1 : RHold w3 gr s q) (h2 : CFar w3 g ls (fun k => k ≠ gr)) : HDec w3 w3 s gr g ls q 0 [] none 0 :=
  ⟨h1, h2.lt, World.ownsRow_nil _ _ _ _, Touch.refl _ _, Blk.lt h1⟩
/-- What so many symbols leave: the first error, or the symbols and the reader's place behind them. -/
def HRow (w w' : World) (e : Ending) (s : List UInt8) (gr : Nat) (U : List Int × Nat × Int) : Prop :=
  Touch w w' (fun k => k = gr) ∧ ((U.2.2 ≠ 0 ∧ e = .returned (.tuple #[.slice none 0 0, .int .i64 U.2.2])) ∨ (U.2.2 = 0 ∧ ∃ A c, e = .returned (.tuple #[.slice A U.1.length c, .int .i64 0]) ∧ U.1.length ≤ c ∧ Reads w' w'.heap.size 1 A U.1.length (ints U.1) ∧ RHold w' gr s U.2.1 ∧ U.2.1 ≤ 8 * s.length))
theorem hrow_bad {w w' : World} {s : List UInt8} {gr : Nat} {U : List Int × Nat × Int} {E : Int} (hE : E ≠ 0) (h : U.2.2 = E) (ht : Touch w w' (fun k => k = gr)) : HRow w w' (.returned (.tuple #[.slice none 0 0, .int .i64 E])) s gr U := by
  subst h
  exact ⟨ht, Or.inl ⟨hE, rfl⟩⟩
theorem hrow_good {w w' : World} {s : List UInt8} {gr g q k : Nat} {ls : List Nat} {acc : List Int} {Av : Option Addr} {cv : Nat} {U : List Int × Nat × Int} (h : (acc, q, (0 : Int)) = U) (ha : acc.length = k) (hq : q ≤ 8 * s.length) (T : HDec w w' s gr g ls q k acc Av cv) : HRow w w' (.returned (.tuple #[.slice Av k cv, .int .i64 0])) s gr U := by
  subst h ha
  obtain ⟨A2, c2, e2, h8, h9⟩ := owns_cells T.row
  injection e2 with e3 _ e4
  subst e3 e4
  exact ⟨T.tch, Or.inr ⟨rfl, _, _, rfl, h8, h9, T.rd, hq⟩⟩
section
variable {s : List UInt8} {ls : List Nat} {M : Nat}
set_option maxRecDepth 100000 in
set_option maxHeartbeats 8000000 in
theorem p_hrow_any (w3 : World) (g gr q0 : Nat) (hs : s.length ≤ 100000000000) (hM : M ≤ 100000) (hat : q0 ≤ 8 * s.length) (h15 : ∀ x ∈ ls, x ≤ 15) (hca : call ls ≤ 32768) (hD : cdeep ls ls.length = 1 ∨ call ls = 32768) (hll : ls.length ≤ 257) (hfit : ∀ f ∈ wat ls 16 0, fits f.1 f.2) (hwl : (wat ls 16 0).length ≤ 257) (h0 : HDec w3 w3 s gr g ls q0 0 [] none 0) :
    Calls Try.prog 29 #[.int .i64 (M : Int), .pointer (some ⟨gr, 0, none⟩), .func (.func 30) #[.pointer (some ⟨g, 0, none⟩)] #[]] w3 fun e w' => HRow w3 w' e s gr (cunp (wat ls 16 0) (rowOf s) M q0 []) := by
  obtain ⟨i0, hi, hz0, hz1, hz9⟩ := info_parts tint_info
  obtain ⟨U, hU⟩ : ∃ U, cunp (wat ls 16 0) (rowOf s) M q0 [] = U := ⟨_, rfl⟩
  have HG := Lib.hid fun (W : World) ok (q : Nat) (hfar : CFar W g ls ok) (hgr : ¬ ok gr) (hR : RHold W gr s q) (hq : q ≤ 8 * s.length) => c_get_far ls ok g gr s q W hfar h15 hca hD hll hgr hR (by omega) hq
  have Hok := Lib.hid fun q (hq : q ≤ 8 * s.length) => cgetF_ok (wat ls 16 0) (rowOf s) q (8 * s.length) (row_length s) hq hwl hfit
  have Hfl := Lib.hid fun q => hget_fail (wat ls 16 0) (rowOf s) q hfit
  have HU := Lib.hid hU
  have H0 := Lib.hid h0
  have hMi : (0 : Int) ≤ (M : Int) ∧ (M : Int) ≤ 100000 := by omega
  rw [hU]
  clear h0 hU h15 hca hD hll hfit hwl hs
  go_enter Try.func29, Try.ntmps29
  go_wp2
  go_loopw [8, 9, 10, 12] (fun v xv ev i wr => ∃ (k q : Nat) (acc : List Int) (Av : Option Addr) (cv : Nat), k ≤ M ∧ q ≤ 8 * s.length ∧ v = .slice Av k cv ∧ i = .int .i64 k ∧ Hid (acc.length = k) ∧ Hid (cunp (wat ls 16 0) (rowOf s) (M - k) q acc = U) ∧ Hid (HDec w3 wr s gr g ls q k acc Av cv)) (fun _ _ _ i _ => M - (intOf i).toNat)
  case atStart => exact ⟨0, q0, [], none, 0, by omega, hat, rfl, rfl, Lib.hid rfl, Lib.hid HU.out, H0⟩
  case round =>
    obtain ⟨k, q, acc, Av, cv, hk, hq, rfl, rfl, Hacc, HR, HT⟩ := hrel
    clear H0 HU hat
    by_cases hlt : k < M
    · have hki : (k : Int) < (M : Int) := by omega
      have hget := HG.out wr (fun k => k < w3.heap.size ∧ k ≠ gr) q HT.out.far (fun h => h.2 rfl) HT.out.rd hq
      have hok := Hok.out q hq
      have hfl := Hfl.out q
      have hst := HR.out
      rw [show M - k = M - (k + 1) + 1 from by omega, cunp_step] at hst
      generalize cgetF (wat ls 16 0) (rowOf s) q = G at *
      obtain ⟨g1, g2, g3⟩ := G
      unfold CGet2 at hget
      dsimp only at hst hok hget hfl
      have Hget := Lib.hid hget
      clear hget
      rcases hok with ⟨rfl, x, kk, rfl, hx, rfl, hkk⟩ | hne
      · rw [if_pos rfl, Int.toNat_natCast] at hst
        have Hst := Lib.hid hst
        rw [Int.toNat_natCast] at Hget
        clear hst hfl
        go_wp2_with (first
          | (go_at_call 30; refine Hget.out.mono ?_; rintro e w5 ⟨rfl, hr5, ht5⟩; have HT5 := Lib.hid (HT.out.get hr5 ht5); clear hr5 ht5)
          | (at_builtin; refine wpList_append_sep _ rfl _ _ 22 rfl w3.heap.size 3 i0 (.int .i64 0) 1 8 Try.underlying22 hi hz0 hz1 hz9 rfl (by decide) _ _ _ rfl (owns_below HT5.out.row ((Below.refl w5.heap.size w5).alloc (Nat.le_refl _) _) (Nat.le_refl _)) _ 1 1 _ _ rfl (reads_new w5 3 #[.int .i64 (x : Int)] 1 1 rfl) ?c1 ?c2 ?c3 ?c4 ?_))
        case c1 => first | rfl | (intro u hu; rw [List.mem_singleton.1 hu]; rfl)
        case c2 => unfold maxLen; omega
        case c3 => omega
        case c4 =>
          have := HT5.out.tch.size
          simp
          omega
        intro v7 w7 ho7 hg7 _
        obtain ⟨A8, c8, rfl, _, _⟩ := owns_cells ho7
        have HT7 : Hid (HDec w3 w7 s gr g ls (q + kk) (k + 1) (acc ++ [(x : Int)]) A8 c8) := Lib.hid (HT5.out.app ho7 hg7)
        clear ho7 hg7
        go_wp2
        go_roundw
        case rel => exact ⟨k + 1, q + kk, acc ++ [(x : Int)], A8, c8, by omega, hkk, rfl, iv (by omega), Lib.hid (by rw [List.length_append, Hacc.out]; rfl), Lib.hid Hst.out, HT7⟩
        case measure => simp only [intOf]; omega
      · have hg3 : g3 ≠ 0 := by omega
        obtain ⟨rfl, rfl⟩ := hfl hg3
        rw [if_neg hg3] at hst
        have Hu := Lib.hid (show U.2.2 = g3 by rw [← hst])
        have Hg3 := Lib.hid hg3
        have hb1 : (g3 == 0) = false := by simpa using hg3
        have hb2 : (g3 != 0) = true := by simpa using hg3
        clear hst hfl hne hg3
        go_wp2_with (go_at_call 30; refine Hget.out.mono ?_; rintro e w5 ⟨rfl, hr5, ht5⟩; have HT5 := Lib.hid (HT.out.get hr5 ht5); clear hr5 ht5)
        go_ret2
        exact hrow_bad Hg3.out Hu.out HT5.out.tch
    · obtain rfl : k = M := by omega
      have hii : ¬ (k : Int) < (k : Int) := by omega
      have hst := HR.out
      rw [Nat.sub_self] at hst
      have Hst := Lib.hid (show (acc, q, (0 : Int)) = U from hst)
      clear hst
      go_wp2
      go_ret2
      exact hrow_good Hst.out Hacc.out hq HT.out
end
set_option maxRecDepth 100000 in
set_option maxHeartbeats 8000000 in
theorem p_hdecode_any (s : List UInt8) (N : Int) (w : World) (hs : s.length ≤ 100000000000) :
    Calls Try.prog 14 #[.string ⟨s.toArray⟩, .int .i64 N] w fun e w' => HCPost w w' e (hdecF s N) := by
  obtain ⟨i0, hi, hz0, hz1, hz9⟩ := info_parts tint_info
  have hmf : ∀ (fn : Fn) (first cap : Array Value) (w : World), (Instr.makeFunc fn first cap).run Try.prog w = .ok (.func fn first cap) w := fun _ _ _ _ => rfl
  obtain ⟨F, hF⟩ : ∃ F, hdecF s N = F := ⟨_, rfl⟩
  rw [hF]
  unfold hdecF at hF
  by_cases h1 : N < 0
  · rw [if_pos (Or.inl h1)] at hF
    subst hF
    clear hs
    go_enter Try.func14, Try.ntmps14
    go_wp2
    go_ret2
    exact hcpost_none (Below.refl _ _)
  by_cases h2 : 100000 < N
  · rw [if_pos (Or.inr h2)] at hF
    subst hF
    clear hs
    go_enter Try.func14, Try.ntmps14
    go_wp2
    go_ret2
    exact hcpost_none (Below.refl _ _)
  rw [if_neg (by omega)] at hF
  obtain ⟨M, rfl⟩ := Int.eq_ofNat_of_zero_le (by omega : 0 ≤ N)
  rw [Int.toNat_natCast] at hF
  have hMi : (0 : Int) ≤ (M : Int) ∧ (M : Int) ≤ 100000 := by omega
  have hb := (Below.refl w.heap.size w).alloc (Nat.le_refl _) (.cells #[.string ⟨s.toArray⟩, .int .i64 0] 87)
  have hget := tgot_any s 0 w.heap.size 257 (w.alloc (.cells #[.string ⟨s.toArray⟩, .int .i64 0] 87)) hs (by omega) (Blk.new w _ _)
  obtain ⟨G, hG⟩ : ∃ G, tgetF (rowOf s) 0 257 = G := ⟨_, rfl⟩
  rw [hG] at hF hget
  unfold hdec1 at hF
  by_cases hE : G.2.2 = 0
  · rw [if_neg (by simpa using hE)] at hF
    have hgm := tgetF_more (rowOf s) [] 0 257 (Nat.zero_le _) (by rw [hG]; exact hE)
    rw [hG, row_length] at hgm
    obtain ⟨_, hat, hck⟩ := hgm
    obtain ⟨hl, hg, hca⟩ := check_ok hck
    obtain ⟨ln, q0, e0⟩ := G
    dsimp only at hE hF hat hck hl hg hca hget
    subst hE
    have hnew := fun (W : World) A c (hr : Reads W W.heap.size 1 A ln.length (ints ln)) => c_new_any ln A ln.length c W (by omega) hr
    have hnew2 : ∀ (W : World) A c, Reads W W.heap.size 1 A ln.length (ints ln) → Calls Try.prog 20 #[.slice A ln.length c] W fun e w' => ∃ g, e = .returned (.tuple #[.pointer (some ⟨g, 0, none⟩), .int .i64 0]) ∧ CFar w' g (ln.map Int.toNat) (fun k => W.heap.size ≤ k) ∧ Below W.heap.size W w' := fun W A c hr => by
      refine (hnew W A c hr).mono ?_
      rintro e w' ⟨h1, ⟨_, g, _, rfl, h2⟩ | ⟨h2, _⟩⟩
      · exact ⟨g, rfl, h2.2, h1⟩
      · exact absurd hck h2
    have Hnew := Lib.hid hnew2
    have h15 := cnat15 hg
    have hD := cdeep_full hck
    have hll : (ln.map Int.toNat).length ≤ 257 := by rw [List.length_map]; exact hl
    have hfit := cwords_fit ln
    rw [cwords_ok hck] at hfit
    dsimp only at hfit
    have hwl : (wat (ln.map Int.toNat) 16 0).length ≤ 257 := by rw [wat_len]; exact hll
    clear hnew hnew2 hck hg hl
    generalize ln.map Int.toNat = ls at *
    have Hrow := Lib.hid fun (W : World) (g gr : Nat) (h : HDec W W s gr g ls q0 0 [] none 0) => p_hrow_any (M := M) W g gr q0 hs (by omega) hat h15 hca hD hll hfit hwl h
    obtain ⟨U, hU⟩ : ∃ U, cunp (wat ls 16 0) (rowOf s) M q0 [] = U := ⟨_, rfl⟩
    rw [hU] at hF Hrow
    have Hdone := Lib.hid fun W (q gr : Nat) (hq : q ≤ 8 * s.length) (hR : RHold W gr s q) => done_any s q gr W (by omega) hq hR
    have Hget := Lib.hid hget
    have Hb := Lib.hid hb
    unfold hdec2 at hF
    clear hget hb hU hG h15 hca hD hll hfit hwl hs
    obtain ⟨ul, uq, ue⟩ := U
    dsimp only at hF
    have Hne : Hid (∀ (w2 : World), RHold w2 w.heap.size s q0 → w.heap.size < w2.heap.size) := Lib.hid fun w2 h => Blk.lt h
    by_cases hu : ue = 0
    · subst hu
      rw [if_neg (by decide)] at hF
      have Hrow2 : Hid (∀ (W : World) (g gr : Nat), HDec W W s gr g ls q0 0 [] none 0 → Calls Try.prog 29 #[.int .i64 (M : Int), .pointer (some ⟨gr, 0, none⟩), .func (.func 30) #[.pointer (some ⟨g, 0, none⟩)] #[]] W fun e w' => ∃ A c, e = .returned (.tuple #[.slice A ul.length c, .int .i64 0]) ∧ ul.length ≤ c ∧ Reads w' w'.heap.size 1 A ul.length (ints ul) ∧ RHold w' gr s uq ∧ uq ≤ 8 * s.length ∧ Touch W w' (fun k => k = gr)) := Lib.hid fun W g gr h => by
        refine (Hrow.out W g gr h).mono ?_
        rintro e w' ⟨ht, ⟨h2, _⟩ | ⟨_, A, c, rfl, h3, h4, h5, h6⟩⟩
        · exact absurd rfl h2
        · exact ⟨A, c, rfl, h3, h4, h5, h6, ht⟩
      clear Hrow
      obtain ⟨dn, hdn⟩ : ∃ dn, hdone (rowOf s) uq = dn := ⟨_, rfl⟩
      rw [hdn] at hF
      have Hdn : Hid (∀ (W : World) gr, uq ≤ 8 * s.length → RHold W gr s uq → Calls Try.prog 31 #[.pointer (some ⟨gr, 0, none⟩)] W fun e w' => e = .returned (.bool dn) ∧ ∃ k, W.drewN k = w') := Lib.hid fun W gr hq hR => by
        have := Hdone.out W uq gr hq hR
        rwa [hdn] at this
      clear Hdone hdn
      cases dn
      · rw [if_neg (by decide)] at hF
        go_enter Try.func14, Try.ntmps14
        go_wp2_with (first
          | (go_at_call 27; refine (newreader_any _ _).mono ?_; rintro e w1 ⟨rfl, rfl⟩)
          | (go_at_call 28; refine Hget.out.mono ?_; unfold TGot; rintro e w2 ⟨A2, c2, rfl, _, h4, h5, h6⟩; have H4 := Lib.hid h4; have H5 := Lib.hid h5; have H6 := Lib.hid h6; clear h4 h5 h6)
          | (go_at_call 20; refine (Hnew.out _ _ _ H4.out).mono ?_; rintro e w3 ⟨g, rfl, h7, hb3⟩; have H7 := Lib.hid h7; have Hb3 := Lib.hid hb3; clear h7 hb3)
          | (go_at_call 29; refine (Hrow2.out w3 g w.heap.size (hdec_zero w3 s w.heap.size g q0 ls (Blk.below H5.out Hb3.out (Hne.out w2 H5.out)) (H7.out.mono fun k hk e => absurd (e ▸ hk) (Nat.not_le_of_lt (Hne.out w2 H5.out))))).mono ?_; rintro e w4 ⟨A4, c4, rfl, h8, h9, h10, h11, h12⟩; have H8 := Lib.hid h8; have H9 := Lib.hid h9; have H10 := Lib.hid h10; have H11 := Lib.hid h11; have H12 := Lib.hid h12; clear h8 h9 h10 h11 h12)
          | (go_at_call 31; refine (Hdn.out w4 w.heap.size H11.out H10.out).mono ?_; rintro e w6 ⟨rfl, kd, rfl⟩))
        go_ret2
        have hne := Hne.out w2 H5.out
        have hb2 : Below w.heap.size w w2 := Hb.out.trans (H6.out.below (fun k _ e => by omega) Hb.out.size)
        have hb4 : Below w.heap.size w w4 := (hb2.trans (Hb3.out.mono hb2.size)).trans (H12.out.below (fun k _ e => by omega) (hb2.trans (Hb3.out.mono hb2.size)).size)
        rw [← hF]
        exact hcpost_none (below_drewN hb4 kd)
      · rw [if_pos rfl] at hF
        go_enter Try.func14, Try.ntmps14
        go_wp2_with (first
          | (go_at_call 27; refine (newreader_any _ _).mono ?_; rintro e w1 ⟨rfl, rfl⟩)
          | (go_at_call 28; refine Hget.out.mono ?_; unfold TGot; rintro e w2 ⟨A2, c2, rfl, _, h4, h5, h6⟩; have H4 := Lib.hid h4; have H5 := Lib.hid h5; have H6 := Lib.hid h6; clear h4 h5 h6)
          | (go_at_call 20; refine (Hnew.out _ _ _ H4.out).mono ?_; rintro e w3 ⟨g, rfl, h7, hb3⟩; have H7 := Lib.hid h7; have Hb3 := Lib.hid hb3; clear h7 hb3)
          | (go_at_call 29; refine (Hrow2.out w3 g w.heap.size (hdec_zero w3 s w.heap.size g q0 ls (Blk.below H5.out Hb3.out (Hne.out w2 H5.out)) (H7.out.mono fun k hk e => absurd (e ▸ hk) (Nat.not_le_of_lt (Hne.out w2 H5.out))))).mono ?_; rintro e w4 ⟨A4, c4, rfl, h8, h9, h10, h11, h12⟩; have H8 := Lib.hid h8; have H9 := Lib.hid h9; have H10 := Lib.hid h10; have H11 := Lib.hid h11; have H12 := Lib.hid h12; clear h8 h9 h10 h11 h12)
          | (go_at_call 31; refine (Hdn.out w4 w.heap.size H11.out H10.out).mono ?_; rintro e w6 ⟨rfl, kd, rfl⟩))
        go_ret2
        have hne := Hne.out w2 H5.out
        have hb2 : Below w.heap.size w w2 := Hb.out.trans (H6.out.below (fun k _ e => by omega) Hb.out.size)
        have hb4 : Below w.heap.size w w4 := (hb2.trans (Hb3.out.mono hb2.size)).trans (H12.out.below (fun k _ e => by omega) (hb2.trans (Hb3.out.mono hb2.size)).size)
        rw [← hF]
        exact hcpost_acc rfl H8.out (H9.out.drewN kd) (below_drewN hb4 kd)
    · rw [if_pos hu] at hF
      have hb1 : (ue == 0) = false := by simpa using hu
      have hb2 : (ue != 0) = true := by simpa using hu
      have Hrow2 : Hid (∀ (W : World) (g gr : Nat), HDec W W s gr g ls q0 0 [] none 0 → Calls Try.prog 29 #[.int .i64 (M : Int), .pointer (some ⟨gr, 0, none⟩), .func (.func 30) #[.pointer (some ⟨g, 0, none⟩)] #[]] W fun e w' => e = .returned (.tuple #[.slice none 0 0, .int .i64 ue]) ∧ Touch W w' (fun k => k = gr)) := Lib.hid fun W g gr h => by
        refine (Hrow.out W g gr h).mono ?_
        rintro e w' ⟨ht, ⟨_, h2⟩ | ⟨h2, _⟩⟩
        · exact ⟨h2, ht⟩
        · exact absurd h2 hu
      clear Hrow Hdone hu
      go_enter Try.func14, Try.ntmps14
      go_wp2_with (first
        | (go_at_call 27; refine (newreader_any _ _).mono ?_; rintro e w1 ⟨rfl, rfl⟩)
        | (go_at_call 28; refine Hget.out.mono ?_; unfold TGot; rintro e w2 ⟨A2, c2, rfl, _, h4, h5, h6⟩; have H4 := Lib.hid h4; have H5 := Lib.hid h5; have H6 := Lib.hid h6; clear h4 h5 h6)
        | (go_at_call 20; refine (Hnew.out _ _ _ H4.out).mono ?_; rintro e w3 ⟨g, rfl, h7, hb3⟩; have H7 := Lib.hid h7; have Hb3 := Lib.hid hb3; clear h7 hb3)
        | (go_at_call 29; refine (Hrow2.out w3 g w.heap.size (hdec_zero w3 s w.heap.size g q0 ls (Blk.below H5.out Hb3.out (Hne.out w2 H5.out)) (H7.out.mono fun k hk e => absurd (e ▸ hk) (Nat.not_le_of_lt (Hne.out w2 H5.out))))).mono ?_; rintro e w4 ⟨rfl, h12⟩; have H12 := Lib.hid h12; clear h12))
      go_ret2
      have hne := Hne.out w2 H5.out
      have hb3 : Below w.heap.size w w2 := Hb.out.trans (H6.out.below (fun k _ e => by omega) Hb.out.size)
      rw [← hF]
      exact hcpost_none ((hb3.trans (Hb3.out.mono hb3.size)).trans (H12.out.below (fun k _ e => by omega) (hb3.trans (Hb3.out.mono hb3.size)).size))
  · rw [if_pos (by simpa using hE)] at hF
    have hb1 : (G.2.2 == 0) = false := by simpa using hE
    have hb2 : (G.2.2 != 0) = true := by simpa using hE
    have Hget := Lib.hid hget
    have Hb := Lib.hid hb
    subst hF
    clear hget hb hG hE hs
    obtain ⟨ln, q0, e0⟩ := G
    dsimp only at *
    go_enter Try.func14, Try.ntmps14
    go_wp2_with (first
      | (go_at_call 27; refine (newreader_any _ _).mono ?_; rintro e w1 ⟨rfl, rfl⟩)
      | (go_at_call 28; refine Hget.out.mono ?_; unfold TGot; rintro e w2 ⟨A2, c2, rfl, _, h4, h5, h6⟩; have H6 := Lib.hid h6; clear h4 h5 h6))
    go_ret2
    exact hcpost_none (Hb.out.trans (H6.out.below (fun k _ e => by omega) Hb.out.size))
end Go.Proofs.Ytpocpckhcciecaa
namespace Go.Proofs.Ytpocpckhcciecaa
set_option linter.unusedSimpArgs false
set_option linter.unusedVariables false
open Go.ChangeShapes Go.WideShapes Go.ChangeAt Go.RowKit Go.Joins Go.Deep
/-- Two lists are the same. -/
theorem same_any (A1 A2 : Option Addr) (n1 n2 c1 c2 : Nat) (xs ys : List Int) (w : World) (h1 : Reads w w.heap.size 1 A1 n1 (ints xs)) (h2 : Reads w w.heap.size 1 A2 n2 (ints ys)) (m1 : n1 ≤ 4611686018427387904) (m2 : n2 ≤ 4611686018427387904) :
    Calls Try.prog 11 #[.slice A1 n1 c1, .slice A2 n2 c2] w fun e w' => e = .returned (.bool (decide (xs = ys))) ∧ Below w.heap.size w w' := by
  have e1 : xs.length = n1 := by have := h1.1; rw [ints_length] at this; omega
  have e2 : ys.length = n2 := by have := h2.1; rw [ints_length] at this; omega
  by_cases hn : n1 = n2
  · have g1 : 0 < n1 → ∃ b off, A1 = some ⟨b, off, none⟩ ∧ b < w.heap.size ∧ ∀ k, (hk : k < xs.length) → w.cell? ⟨b, off + k, none⟩ = some (.int .i64 xs[k]) := by
      intro h
      obtain ⟨b, off, e, hb, hc⟩ := h1.2 h
      exact ⟨b, off, e, hb, fun k hk => hc k _ (ints_get xs k hk)⟩
    have g2 : 0 < n2 → ∃ b off, A2 = some ⟨b, off, none⟩ ∧ b < w.heap.size ∧ ∀ k, (hk : k < ys.length) → w.cell? ⟨b, off + k, none⟩ = some (.int .i64 ys[k]) := by
      intro h
      obtain ⟨b, off, e, hb, hc⟩ := h2.2 h
      exact ⟨b, off, e, hb, fun k hk => hc k _ (ints_get ys k hk)⟩
    subst hn
    have G1 := Lib.hid g1
    have G2 := Lib.hid g2
    have E1 := Lib.hid e1
    have E2 := Lib.hid e2
    clear g1 g2 e1 e2 h1 h2
    generalize hr : decide (xs = ys) = r
    have Hr := Lib.hid hr
    clear hr
    go_enter Try.func11, Try.ntmps11
    go_wp2
    go_loopw [5] (fun i wr => ∃ k : Nat, k ≤ n1 ∧ i = .int .i64 k ∧ Hid (xs.take k = ys.take k) ∧ Hid (Below w.heap.size w wr)) (fun i _ => n1 - (intOf i).toNat)
    case atStart => exact ⟨0, by omega, rfl, rfl, Below.refl _ _⟩
    case round =>
      obtain ⟨k, hk, rfl, Hk, Hb⟩ := hrel
      by_cases hlt : k < n1
      · have k1 : k < xs.length := by have := E1.out; omega
        have k2 : k < ys.length := by have := E2.out; omega
        obtain ⟨b1, o1, rfl, hb1, hc1⟩ := G1.out (by omega)
        obtain ⟨b2, o2, rfl, hb2, hc2⟩ := G2.out (by omega)
        have x1 := (Hb.out.cell (p := ⟨b1, o1 + k, none⟩) hb1).trans (hc1 k k1)
        have x2 := (Hb.out.cell (p := ⟨b2, o2 + k, none⟩) hb2).trans (hc2 k k2)
        have hnext : xs[k] = ys[k] → xs.take (k + 1) = ys.take (k + 1) := fun h => by
          rw [List.take_succ_eq_append_getElem k1, List.take_succ_eq_append_getElem k2, Hk.out, h]
        have hdiff : xs[k] ≠ ys[k] → r = false := fun h => by
          rw [← Hr.out]
          refine decide_eq_false fun e => h ?_
          subst e
          rfl
        have Hnext : Hid (xs[k] = ys[k] → xs.take (k + 1) = ys.take (k + 1)) := Lib.hid hnext
        have Hdiff := Lib.hid hdiff
        clear hnext hdiff hc1 hc2
        generalize xs[k] = x at *
        generalize ys[k] = y at *
        by_cases hxy : x = y
        · subst hxy
          have Hnext2 : Hid (xs.take (k + 1) = ys.take (k + 1)) := Lib.hid (Hnext.out rfl)
          go_wp2
          go_quiet (fail)
          go_wp2
          go_roundw
          case rel => exact ⟨k + 1, by omega, iv (by omega), Hnext2.out, below_drewN Hb.out _⟩
          case measure => simp [intOf]; omega
        · go_wp2
          go_quiet (fail)
          go_wp2
          go_ret
          exact ⟨by rw [Hdiff.out hxy]; rfl, below_drewN Hb.out _⟩
      · obtain rfl : k = n1 := by omega
        have hrt : r = true := by
          rw [← Hr.out]
          have h := Hk.out
          rw [List.take_of_length_le (by have := E1.out; omega), List.take_of_length_le (by have := E2.out; omega)] at h
          simp [h]
        have Hrt := Lib.hid hrt
        clear hrt
        go_wp2
        go_ret
        exact ⟨by rw [Hrt.out]; rfl, Hb.out⟩
  · have hr : decide (xs = ys) = false := decide_eq_false fun e => hn (by rw [← e1, ← e2, e])
    rw [hr]
    clear hr h1 h2 e1 e2
    go_enter Try.func11, Try.ntmps11
    go_wp2
    go_ret
    exact ⟨rfl, by go_grown⟩
end Go.Proofs.Ytpocpckhcciecaa
