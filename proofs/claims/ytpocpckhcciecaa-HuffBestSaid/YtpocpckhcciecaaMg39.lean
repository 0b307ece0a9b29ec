/-
  What the law of the last of these texts stands on, part 39.
-/
import Derived.Test.YtpocpckhcciecaaRows
import Derived.Test.YtpocpckhcciecaaMg01
import Derived.Test.YtpocpckhcciecaaMg02
import Derived.Test.YtpocpckhcciecaaMg03
import Derived.Test.YtpocpckhcciecaaMg04
import Derived.Test.YtpocpckhcciecaaMg05
import Derived.Test.YtpocpckhcciecaaMg10
import Derived.Test.YtpocpckhcciecaaMg11
import Derived.Test.YtpocpckhcciecaaMg12
import Derived.Test.YtpocpckhcciecaaMg13
import Derived.Test.YtpocpckhcciecaaMg14
import Derived.Test.YtpocpckhcciecaaMg15
import Derived.Test.YtpocpckhcciecaaMg17
import Derived.Test.YtpocpckhcciecaaMg18
import Derived.Test.YtpocpckhcciecaaMg19
import Derived.Test.YtpocpckhcciecaaMg20
import Derived.Test.YtpocpckhcciecaaMg34
import Derived.Test.YtpocpckhcciecaaMg35
import Derived.WalkKit
import Derived.WalkSpells
import Derived.WalkLawsBesides
import Derived.ProofKit
import Derived.OpenShut
import Derived.Handy
import Derived.SizedLaws
import Derived.JoinedOf
import Derived.KernelRfl
import Derived.Lib.Hide
import Derived.Lib.SmallJoins
import Derived.Deep.Slices
import Derived.Deep.Fields
import Derived.Deep.SlicePairs
import Derived.Deep.Draws
import Derived.Deep.AppendLies
import Derived.Deep.QuietTactic
import Derived.BigQuiet
import Derived.Deep.RegionHeld3
import Derived.StillTailTactics
import Derived.Laws.OwnMore
import Derived.Laws.Rows
import Derived.Below
import Derived.Carry
import Derived.Lib.BitFns
import Derived.Deep.OwnRows
import Derived.WalkMore
import Derived.Laws.BytesString
import Derived.Laws.BitsLemmas
import Derived.Laws.Concat
import Derived.Laws.EntriesVeiled
import Derived.OwnWalk
import Derived.Deep.Upon
import Derived.Deep.RegionLaw
import Derived.Laws.CopyOwn
import Derived.Laws.Bits64b
namespace Go.Proofs.Ytpocpckhcciecaa
set_option linter.unusedSimpArgs false
set_option linter.unusedVariables false
open Go.ChangeShapes Go.WideShapes Go.ChangeAt Go.RowKit Go.Joins Go.Deep
/-- What Get leaves. -/
def CGet2 (w w' : World) (e : Ending) (gr : Nat) (l : List UInt8) (p : Nat) (F : Int × Int × Int) : Prop := e = .returned (.tuple #[.int .i64 F.1, .int .i64 F.2.2]) ∧ RHold w' gr l (p + F.2.1.toNat) ∧ Touch w w' (fun k => k = gr)
theorem RHold.below {w w' : World} {g B p : Nat} {l : List UInt8} (h : RHold w g l p) (hb : Below B w w') (hg : g < B) : RHold w' g l p := Blk.below h hb hg
theorem cget_after {w wr w5 : World} (hB : Below w.heap.size w wr) (ht : Touch wr w5 (fun k => k = w.heap.size)) : Below w.heap.size w w5 := hB.trans (ht.below (fun k _ e => by omega) hB.size)
set_option maxRecDepth 100000 in
set_option maxHeartbeats 4000000 in
theorem c_get_far (ls : List Nat) (ok : Nat → Prop) (g gr : Nat) (l : List UInt8) (p : Nat) (w : World) (hfar : CFar w g ls ok) (h15 : ∀ x ∈ ls, x ≤ 15) (hca : call ls ≤ 32768) (hD : cdeep ls ls.length = 1 ∨ call ls = 32768) (hlen : ls.length ≤ 257) (hgr : ¬ ok gr) (hR : RHold w gr l p) (hl : l.length ≤ 1099511627776) (hp : p ≤ 8 * l.length) :
    Calls Try.prog 30 #[.pointer (some ⟨g, 0, none⟩), .pointer (some ⟨gr, 0, none⟩)] w fun e w' => CGet2 w w' e gr l p (cgetF (wat ls 16 0) (rowOf l) p) := by
  obtain ⟨B, hBw, h⟩ := hfar.code
  have Hfar : ∀ W, Touch w W (fun k => k = gr) → ∃ B2, B2 ≤ W.heap.size ∧ CCode W B2 g ls := fun W hW => (hfar.touch hW (fun k hk e => hgr (e ▸ hk))).code
  have Hn : Hid (Calls Try.prog 52 #[.pointer (some ⟨g, 0, none⟩)] w fun e w' => e = .returned (.bool false) ∧ w = w') := Lib.hid (c_none_no g w h.made)
  obtain ⟨c1, c2, z1, z2⟩ := Blk.two hR
  have hgl := Blk.lt hR
  have hpi : (p : Int) ≤ 8796093022208 := by omega
  have hbin : Bin ((rowOf l).drop p) := fun d hd => row_bin l d (List.mem_of_mem_drop hd)
  have hRl : ((rowOf l).drop p).length = 8 * l.length - p := by rw [List.length_drop, row_length]
  obtain ⟨F, hF⟩ : ∃ F, cgetF (wat ls 16 0) (rowOf l) p = F := ⟨_, rfl⟩
  rw [hF]
  unfold cgetF at hF
  have hE : (rowOf l).drop p = [] → (if p = (rowOf l).length then (4 : Int) else 40) = 4 := fun e => by
    rw [if_pos]
    have := congrArg List.length e
    rw [List.length_drop, List.length_nil] at this
    rw [row_length] at this ⊢
    omega
  have hE2 : (rowOf l).drop p ≠ [] → (if p = (rowOf l).length then (4 : Int) else 40) = 40 := fun e => by
    rw [if_neg]
    intro e2
    exact e (List.drop_of_length_le (by omega))
  have hg1 := cdeep_pos (ls := ls) ls.length
  have hg2 := cdeep_le (ls := ls) (fun s hs => h15 _ (List.getElem_mem hs)) ls.length (Nat.le_refl _)
  have hg3 : ∀ s (hs : s < ls.length), ls[s] ≤ cdeep ls ls.length := fun s hs => cdeep_ge _ (Nat.le_refl _) s hs hs
  -- what is found
  have Hshort : Hid (∀ wd, 0 < wd → wd ≤ cdeep ls ls.length → 8 * l.length - p + 1 = wd → cpos ls wd 0 ≤ v15 ((rowOf l).drop p) → F = (0, 0, 4)) := Lib.hid fun wd a1 a2 a3 a4 => by
    rw [← hF]
    exact cgo_short h15 hca hbin wd _ a1 a2 (by rw [hRl]; exact a3) a4 hD _ hE
  have Hhit : Hid (∀ wd k s : Nat, 0 < wd → wd ≤ cdeep ls ls.length → wd ≤ 8 * l.length - p → num (((rowOf l).drop p).take wd) = cst ls wd + k → (crow ls ls.length wd)[k]? = some s → F = ((s : Int), (wd : Int), 0)) := Lib.hid fun wd k s a1 a2 a3 a4 a5 => by
    rw [← hF]
    exact cgo_hit h15 hca hbin _ wd a1 (by omega) (by rw [hRl]; exact a3) k s a4 a5
  have Hmiss : Hid (∀ wd, wd ≤ cdeep ls ls.length → wd ≤ 8 * l.length - p → cst ls wd + (crow ls ls.length wd).length ≤ num (((rowOf l).drop p).take wd) → cpos ls (wd + 1) 0 ≤ v15 ((rowOf l).drop p)) := Lib.hid fun wd a1 a2 a3 => cgo_miss hbin wd (by omega) (by rw [hRl]; exact a2) a3
  have Hle : Hid (∀ wd, wd ≤ cdeep ls ls.length → wd ≤ 8 * l.length - p → cpos ls wd 0 ≤ v15 ((rowOf l).drop p) → cst ls wd ≤ num (((rowOf l).drop p).take wd)) := Lib.hid fun wd a1 a2 a3 => cgo_le hbin wd (by omega) (by rw [hRl]; exact a2) a3
  have Hend : Hid (cdeep ls ls.length ≤ 8 * l.length - p → cpos ls (cdeep ls ls.length + 1) 0 ≤ v15 ((rowOf l).drop p) → F = (0, 0, 40)) := Lib.hid fun a1 a2 => by
    rw [← hF, cgo_end h15 hca hbin _ hg1 hg2 hg3 (by rw [hRl]; exact a1) a2, hE2]
    intro e
    rw [e, List.length_nil] at hRl
    omega
  have Hnum : Hid (∀ m, m < 8 * l.length - p → ∃ b, b ≤ 1 ∧ num (((rowOf l).drop (p + m)).take 1) = b ∧ num (((rowOf l).drop p).take (m + 1)) = 2 * num (((rowOf l).drop p).take m) + b) := Lib.hid fun m hm => by
    have hm2 : m < ((rowOf l).drop p).length := by rw [hRl]; exact hm
    refine ⟨((rowOf l).drop p)[m], ?_, ?_, cgo_num m hm2⟩
    · have := hbin _ (List.getElem_mem hm2)
      omega
    · rw [← List.drop_drop]
      exact cgo_bit hbin m hm2
  have Hbig : Hid (∀ m, m ≤ 15 → num (((rowOf l).drop p).take m) < 32768) := Lib.hid fun m hm => by
    have h1 := num_lt (l := ((rowOf l).drop p).take m) fun d hd => hbin d (List.mem_of_mem_take hd)
    have h2 : (2 : Nat) ^ (((rowOf l).drop p).take m).length ≤ 2 ^ 15 := Nat.pow_le_pow_right (by omega) (by rw [List.length_take]; omega)
    omega
  have Hstl : Hid (∀ j, j ≤ 15 → cst ls j ≤ 32768) := Lib.hid fun j hj => cst_le j hj hca
  have Hcnt : Hid (∀ j, (crow ls ls.length j).length ≤ 257) := Lib.hid fun j => by
    have := crow_len_le (ls := ls) ls.length j
    omega
  have hPos : cpos ls 1 0 = 0 := by rw [← cpos_next 0 ls.length (Nat.le_refl _)]; exact cpos_none _
  have Hpos : Hid (cpos ls 1 0 ≤ v15 ((rowOf l).drop p)) := Lib.hid (by rw [hPos]; exact Nat.zero_le _)
  -- the code's cells in a later world
  have Hdeep : Hid (∀ W, Touch w W (fun k => k = gr) → W.cell? ⟨g, 34, none⟩ = some (.int .i64 (cdeep ls ls.length : Nat)) ∧ g < W.heap.size) := Lib.hid fun W hW => by
    obtain ⟨B2, _, h2⟩ := Hfar W hW
    exact ⟨h2.deep, h2.at.2⟩
  have Hstart : Hid (∀ W, Touch w W (fun k => k = gr) → ∀ j, 1 ≤ j → j ≤ cdeep ls ls.length → W.cell? ⟨g, 2 + j, none⟩ = some (.int .i64 (cst ls j : Int))) := Lib.hid fun W hW j a1 a2 => by
    obtain ⟨B2, _, h2⟩ := Hfar W hW
    exact h2.start j a1 a2 (by omega)
  have Hrow : Hid (∀ W, Touch w W (fun k => k = gr) → ∀ j, j < 16 → ∃ A c, W.cell? ⟨g, 18 + j, none⟩ = some (.slice A (crow ls ls.length j).length c) ∧ (0 < (crow ls ls.length j).length → ∃ b off, A = some ⟨b, off, none⟩ ∧ b < W.heap.size ∧ ∀ k s : Nat, (crow ls ls.length j)[k]? = some s → W.cell? ⟨b, off + k, none⟩ = some (.int .i64 (s : Int)))) := Lib.hid fun W hW j a1 => by
    obtain ⟨B2, hb2, h2⟩ := Hfar W hW
    obtain ⟨A, c, e1, e2⟩ := h2.row j a1
    refine ⟨A, c, e1, fun hn => ?_⟩
    obtain ⟨b, off, e3, hb, e4⟩ := e2 hn
    exact ⟨b, off, e3, Nat.lt_of_lt_of_le hb hb2, e4⟩
  have HR := Lib.hid hR
  have hPL : 8 * l.length - p ≤ 8796093022208 := by omega
  have Hget : Hid (∀ W (ga m : Nat), m + 1 ≤ 8 * l.length - p → RHold W ga l (p + m) → Calls Try.prog 53 #[.pointer (some ⟨ga, 0, none⟩), .int .i64 1] W fun e w' => e = .returned (.tuple #[.int .i64 (num (((rowOf l).drop (p + m)).take 1)), .int .i64 0]) ∧ RHold w' ga l (p + m + 1) ∧ Touch W w' (fun k => k = ga)) := Lib.hid fun W ga m hm hH => get_yes l (p + m) 1 ga W hl (by omega) (by omega) hH
  have Hno := Lib.hid fun W (ga : Nat) (hH : RHold W ga l (p + (8 * l.length - p))) => get_no l (p + (8 * l.length - p)) ga 1 4 W hl (by omega) hH (by
    unfold bgetF
    rw [if_neg (by omega), if_pos (by rw [row_length]; omega)]) (by omega)
  have Hmove := Lib.hid fun W (wd : Nat) (hm : wd ≤ 8 * l.length - p) (hw : wd ≤ 15) (hH : RHold W gr l p) => get_yes l p wd gr W hl (by omega) (by omega) hH
  clear h hfar Hfar hBw h15 hca hD hlen hR hl hp hF hE hE2 hbin hRl hg3 hPos
  generalize cdeep ls ls.length = D at *
  generalize 8 * l.length - p = M at *
  have hDi : (1 : Int) ≤ (D : Int) ∧ (D : Int) ≤ 15 := by omega
  go_enter Try.func30, Try.ntmps30
  go_wp2_with (go_at_call 52; refine Hn.out.mono ?_; rintro e w1 ⟨rfl, rfl⟩)
  have HA0 : Hid (RHold (w.alloc (.cells #[.string ⟨l.toArray⟩, .int .i64 p] 87)) w.heap.size l (p + 0)) := Lib.hid (Blk.new w _ _)
  have HB0 : Hid (Below w.heap.size w (w.alloc (.cells #[.string ⟨l.toArray⟩, .int .i64 p] 87))) := Lib.hid ((Below.refl _ _).alloc (Nat.le_refl _) _)
  generalize w.alloc (.cells #[.string ⟨l.toArray⟩, .int .i64 p] 87) = wz at *
  go_loopw [7, 8, 9, 10, 11] (fun nx wx bx ex kx W => ∃ (m wd N : Nat), m + 1 = wd ∧ m ≤ D ∧ m ≤ M ∧ nx = .int .i64 N ∧ wx = .int .i64 wd ∧ Hid (num (((rowOf l).drop p).take m) = N) ∧ Hid (cpos ls wd 0 ≤ v15 ((rowOf l).drop p)) ∧ Hid (RHold W w.heap.size l (p + m)) ∧ Hid (Below w.heap.size w W)) (fun _ wx _ _ _ _ => D + 1 - (intOf wx).toNat)
  case atStart => exact ⟨0, 1, 0, by omega, by omega, by omega, rfl, rfl, Lib.hid rfl, Hpos, HA0, HB0⟩
  case round =>
    obtain ⟨m, wd, N, hwd, hmD, hmM, rfl, rfl, HN, HV, HA, HB⟩ := hrel
    clear HA0 HB0 Hpos
    have hBW : Touch w wr (fun k => k = gr) := touch_below HB.out (Nat.le_refl _)
    obtain ⟨x1, x2⟩ := Hdeep.out wr hBW
    have HBW := Lib.hid hBW
    clear hBW
    by_cases hlt : wd ≤ D
    · have hwi : (wd : Int) ≤ (D : Int) := by omega
      by_cases hend : m = M
      · subst hend
        have Hf := Lib.hid (Hshort.out wd (by omega) hlt hwd HV.out)
        have Hn2 := Lib.hid (Hno.out wr w.heap.size HA.out)
        clear Hno Hget Hmove Hstart Hrow Hnum
        go_wp2_with (go_at_call 53; refine Hn2.out.mono ?_; rintro e w5 ⟨rfl, k5, rfl⟩)
        go_ret2
        rw [Hf.out]
        have hb2 : Below w.heap.size w (wr.drewN k5) := below_drewN HB.out _
        exact ⟨rfl, Blk.below HR.out hb2 hgl, touch_below hb2 (Nat.le_refl _)⟩
      · have hm1 : m + 1 ≤ M := by omega
        have hwM : wd ≤ M := by omega
        have hw15 : wd ≤ 15 := by omega
        have hw16 : wd < 16 := by omega
        obtain ⟨b, hb1, hb2, hb3⟩ := Hnum.out m (by omega)
        have Hg := Lib.hid fun hH => Hget.out wr w.heap.size m hm1 hH
        rw [hb2] at Hg
        have hN1 := Hbig.out m (by omega)
        have hL := Hle.out wd hlt hwM HV.out
        have hst := Hstl.out wd hw15
        have hcnt := Hcnt.out wd
        have hH := fun k s => Hhit.out wd k s (by omega) hlt hwM
        have hMs := Hmiss.out wd hlt hwM
        rw [HN.out, hwd] at hb3
        rw [hb3] at hL hH hMs
        rw [HN.out] at hN1
        obtain ⟨q, hq⟩ : ∃ q, 2 * N + b - cst ls wd = q := ⟨_, rfl⟩
        have Hst2 := Lib.hid fun W2 hW2 => Hstart.out W2 hW2 wd (by omega) hlt
        have Hrow2 := Lib.hid fun W2 hW2 => Hrow.out W2 hW2 wd hw16
        have Hh := Lib.hid hH
        have Hm := Lib.hid hMs
        have HN2 : Hid (num (((rowOf l).drop p).take (m + 1)) = 2 * N + b) := Lib.hid (by rw [hwd]; exact hb3)
        have Hmv := Lib.hid fun W2 hH => Hmove.out W2 wd hwM hw15 hH
        clear Hget Hno Hmove Hstart Hrow Hnum Hshort Hhit Hmiss Hle hb2 hb3 hH hMs Hbig
        generalize num (((rowOf l).drop p).take wd) = NW at *
        obtain ⟨C, hC⟩ : ∃ C, crow ls ls.length wd = C := ⟨_, rfl⟩
        rw [hC] at Hrow2 Hh Hm hcnt
        have hCC := Lib.hid hC
        clear hC
        obtain ⟨cn, hcn⟩ : ∃ cn, C.length = cn := ⟨_, rfl⟩
        rw [hcn] at Hrow2 Hm hcnt
        have Hcn := Lib.hid hcn
        clear hcn
        generalize cst ls wd = st at *
        have hk : 2 * (N : Int) + (b : Int) - (st : Int) = (q : Int) := by omega
        have hbi : (0 : Int) ≤ (b : Int) ∧ (b : Int) ≤ 1 ∧ (N : Int) < 32768 ∧ (st : Int) ≤ 32768 ∧ (cn : Int) ≤ 257 := by omega
        by_cases hqc : q < cn
        · have hqi : (0 : Int) ≤ (q : Int) ∧ (q : Int) < (cn : Int) := by omega
          obtain ⟨sy, hsy⟩ : ∃ sy, C[q]? = some sy := ⟨_, List.getElem?_eq_getElem (by rw [Hcn.out]; exact hqc)⟩
          have Hf := Lib.hid (Hh.out q sy (by omega) hsy)
          have Hrow3 : Hid (∀ W2, Touch w W2 (fun k => k = gr) → ∃ b off c, W2.cell? ⟨g, 18 + wd, none⟩ = some (.slice (some ⟨b, off, none⟩) cn c) ∧ W2.cell? ⟨b, off + q, none⟩ = some (.int .i64 (sy : Int))) := Lib.hid fun W2 hW2 => by
            obtain ⟨A, c, e1, e2⟩ := Hrow2.out W2 hW2
            obtain ⟨b, off, rfl, _, e3⟩ := e2 (by omega)
            exact ⟨b, off, c, e1, e3 q sy hsy⟩
          clear Hrow2 hsy Hm Hh hq hL
          go_wp2_with (first
            | (go_at_call 53; (with_reducible refine (Hg.out HA.out).mono ?_); rintro e w5 ⟨rfl, hr5, ht5⟩; have Hb5 := Lib.hid (cget_after HB.out ht5); clear hr5 ht5; have y1 := Hst2.out w5 (touch_below Hb5.out (Nat.le_refl _)); obtain ⟨b5, o5, c5, y2, _⟩ := Hrow3.out w5 (touch_below Hb5.out (Nat.le_refl _)); obtain ⟨y3, y4⟩ := Hdeep.out w5 (touch_below Hb5.out (Nat.le_refl _)))
            | (go_at_call 53; (with_reducible refine (Hmv.out w5 (RHold.below HR.out Hb5.out hgl)).mono ?_); rintro e w6 ⟨rfl, hr6, ht6⟩; have Hr6 := Lib.hid hr6; have Ht6 := Lib.hid ht6; clear hr6 ht6; obtain ⟨b6, o6, c6, y5, y6⟩ := Hrow3.out w6 ((touch_below Hb5.out (Nat.le_refl _)).trans Ht6.out); obtain ⟨y7, y8⟩ := Hdeep.out w6 ((touch_below Hb5.out (Nat.le_refl _)).trans Ht6.out)))
          go_ret2
          rw [Hf.out]
          exact ⟨rfl, Hr6.out, (touch_below Hb5.out (Nat.le_refl _)).trans Ht6.out⟩
        · have hqi : ¬ (q : Int) < (cn : Int) := by omega
          have HV2 := Lib.hid (Hm.out (by omega))
          have Hrow3 : Hid (∀ W2, Touch w W2 (fun k => k = gr) → ∃ A c, W2.cell? ⟨g, 18 + wd, none⟩ = some (.slice A cn c)) := Lib.hid fun W2 hW2 => by
            obtain ⟨A, c, e1, _⟩ := Hrow2.out W2 hW2
            exact ⟨A, c, e1⟩
          clear Hrow2 Hm Hh hq hL
          go_wp2_with (go_at_call 53; (with_reducible refine (Hg.out HA.out).mono ?_); rintro e w5 ⟨rfl, hr5, ht5⟩; have Hb5 := Lib.hid (cget_after HB.out ht5); have Ha5 := Lib.hid hr5; clear hr5 ht5; have y1 := Hst2.out w5 (touch_below Hb5.out (Nat.le_refl _)); obtain ⟨A5, c5, y2⟩ := Hrow3.out w5 (touch_below Hb5.out (Nat.le_refl _)); obtain ⟨y3, y4⟩ := Hdeep.out w5 (touch_below Hb5.out (Nat.le_refl _)))
          go_roundw
          case rel => exact ⟨m + 1, wd + 1, 2 * N + b, by omega, by omega, by omega, iv (by omega), iv (by omega), HN2, HV2, Ha5, Hb5⟩
          case measure => simp only [intOf]; omega
    · obtain rfl : wd = D + 1 := by omega
      have hwi : ¬ ((D + 1 : Nat) : Int) ≤ (D : Int) := by omega
      have Hf := Lib.hid (Hend.out (by omega) HV.out)
      go_wp2
      go_ret2
      rw [Hf.out]
      exact ⟨rfl, Blk.below HR.out HB.out hgl, touch_below HB.out (Nat.le_refl _)⟩
end Go.Proofs.Ytpocpckhcciecaa
namespace Go.Proofs.Ytpocpckhcciecaa
set_option linter.unusedSimpArgs false
set_option linter.unusedVariables false
open Go.ChangeShapes Go.WideShapes Go.ChangeAt Go.RowKit Go.Joins Go.Deep
set_option maxRecDepth 100000 in
set_option maxHeartbeats 1000000 in
theorem rgamma_no (l : List UInt8) (p g : Nat) (e : Int) (w : World) (hl : l.length ≤ 1099511627776) (hp : p ≤ 8 * l.length) (hB : RHold w g l p) (he : (ungam ((rowOf l).drop p)).2.2 = e) (hne : e ≠ 0) :
    Calls Try.prog 73 #[.pointer (some ⟨g, 0, none⟩)] w fun r w' => r = .returned (.tuple #[.int .i64 0, .int .i64 e]) ∧ ∃ k, w.drewN k = w' := by
  have hlen : ((rowOf l).drop p).length = 8 * l.length - p := by rw [List.length_drop, row_length]
  have hzl := lz_le ((rowOf l).drop p)
  unfold ungam at he
  rw [hlen] at he hzl
  have Hnou := Lib.hid fun v hB => noughts_any l p g v hl hp hB
  have Hleft := Lib.hid fun v hB => bleft_any l p g v (by omega) hp hB
  have hMi : ((8 * l.length - p : Nat) : Int) ≤ 8796093022208 := by omega
  obtain ⟨c1, c2, z1, z2⟩ := Blk.two hB
  have hg := Blk.lt hB
  have HB := Lib.hid hB
  clear hB hl hp hlen
  generalize lz ((rowOf l).drop p) = z at *
  generalize 8 * l.length - p = M at *
  by_cases a1 : z = M
  · rw [if_pos a1] at he
    subst he
    have b1 : (z : Int) = (M : Int) := by omega
    have b2 : ((z : Int) == (M : Int)) = true := by simp; omega
    subst a1
    go_enter Try.func73, Try.ntmps73
    go_wp2_with (first
      | (go_at_call 54; refine (some_is g _).mono ?_; rintro e w1 ⟨rfl, rfl⟩)
      | (go_at_call 56; refine (Hnou.out _ (HB.out.drewN 0)).mono ?_; rintro e w1 ⟨rfl, k0, rfl⟩)
      | (go_at_call 55; refine (Hleft.out _ (HB.out.drewN _)).mono ?_; rintro e w1 ⟨rfl, k1, rfl⟩))
    go_ret2
    exact ⟨rfl, _, rfl⟩
  · rw [if_neg a1] at he
    have b1 : ¬ (z : Int) = (M : Int) := by omega
    have b2 : ((z : Int) == (M : Int)) = false := by simp; omega
    by_cases a2 : 32 ≤ z
    · rw [if_pos a2] at he
      subst he
      have b3 : (32 : Int) ≤ (z : Int) := by omega
      go_enter Try.func73, Try.ntmps73
      go_wp2_with (first
        | (go_at_call 54; refine (some_is g _).mono ?_; rintro e w1 ⟨rfl, rfl⟩)
        | (go_at_call 56; refine (Hnou.out _ (HB.out.drewN 0)).mono ?_; rintro e w1 ⟨rfl, k0, rfl⟩)
        | (go_at_call 55; refine (Hleft.out _ (HB.out.drewN _)).mono ?_; rintro e w1 ⟨rfl, k1, rfl⟩))
      go_ret2
      exact ⟨rfl, _, rfl⟩
    · rw [if_neg a2] at he
      by_cases a3 : M < 2 * z + 1
      · rw [if_pos a3] at he
        subst he
        have b3 : ¬ (32 : Int) ≤ (z : Int) := by omega
        have b4 : (M : Int) < 2 * (z : Int) + 1 := by omega
        go_enter Try.func73, Try.ntmps73
        go_wp2_with (first
          | (go_at_call 54; refine (some_is g _).mono ?_; rintro e w1 ⟨rfl, rfl⟩)
          | (go_at_call 56; refine (Hnou.out _ (HB.out.drewN 0)).mono ?_; rintro e w1 ⟨rfl, k0, rfl⟩)
          | (go_at_call 55; refine (Hleft.out _ (HB.out.drewN _)).mono ?_; rintro e w1 ⟨rfl, k1, rfl⟩))
        go_ret2
        exact ⟨rfl, ⟨_, rfl⟩⟩
      · rw [if_neg a3] at he
        exact absurd he.symm hne
end Go.Proofs.Ytpocpckhcciecaa
namespace Go.Proofs.Ytpocpckhcciecaa
set_option linter.unusedSimpArgs false
set_option linter.unusedVariables false
open Go.ChangeShapes Go.WideShapes Go.ChangeAt Go.RowKit Go.Joins Go.Deep
set_option maxRecDepth 100000 in
set_option maxHeartbeats 2000000 in
theorem tcheck1_any (lb nb M ol cv : Nat) (Av : Option Addr) (out : List Int) (x cnt last : Int) (W : World) (hol : out.length = ol) (hle : ol ≤ M) (hM : M ≤ 257) (hlast : (out = [] ∧ last = -1) ∨ out.getLast? = some last) (hx : 0 ≤ x)
    (c1 : W.cell? ⟨lb, 0, none⟩ = some (.slice Av ol cv)) (c2 : W.cell? ⟨nb, 0, none⟩ = some (.int .i64 (M : Int))) (hr : Reads W W.heap.size 1 Av ol (ints out)) :
    Calls Try.prog 72 #[.int .i64 x, .int .i64 cnt, .pointer (some ⟨lb, 0, none⟩), .pointer (some ⟨nb, 0, none⟩)] W fun e w' => e = .returned (.int .i64 (if x = last then 5 else if (M : Int) - ol < cnt then 40 else 0)) ∧ w' = W := by
  have hMi : (0 : Int) ≤ (ol : Int) ∧ (ol : Int) ≤ (M : Int) ∧ (M : Int) ≤ 257 := by omega
  rcases Nat.eq_zero_or_pos ol with h0 | h0
  · subst h0
    have ho : out = [] := List.length_eq_zero_iff.1 hol
    have hl : last = -1 := by
      rcases hlast with h | h
      · exact h.2
      · rw [ho] at h; cases h
    rw [if_neg (by omega)]
    clear hlast hl hol ho hr hle hM
    by_cases hc : (M : Int) - ((0 : Nat) : Int) < cnt
    · rw [if_pos hc]
      have hc2 : (M : Int) < cnt := by omega
      clear hc
      go_enter Try.func72, Try.ntmps72
      go_wp2
      go_ret
      exact ⟨rfl, rfl⟩
    · rw [if_neg hc]
      have hc2 : ¬ (M : Int) < cnt := by omega
      clear hc
      go_enter Try.func72, Try.ntmps72
      go_wp2
      go_ret
      exact ⟨rfl, rfl⟩
  · obtain ⟨p, hp⟩ : ∃ p, p + 1 = ol := ⟨ol - 1, by omega⟩
    have hpl : p < out.length := by omega
    have hlp : out[p] = last := by
      rcases hlast with h | h
      · rw [h.1] at hpl; simp at hpl
      · rw [List.getLast?_eq_getElem?, hol, show ol - 1 = p from by omega, List.getElem?_eq_getElem hpl] at h
        injection h
    obtain ⟨b, off, rfl, hb, hcell⟩ := hr.2 h0
    have x1 : W.cell? ⟨b, off + p, none⟩ = some (.int .i64 last) := by
      rw [← hlp]
      exact hcell p _ (ints_get out p hpl)
    have hpos : (0 : Int) < (ol : Int) := by omega
    have hsub : (ol : Int) - 1 = (p : Int) := by omega
    have hw1 : IntKind.i64.wrap ((ol : Int) - 1) = (p : Int) := by rw [IntKind.wrap_i64]; omega
    have hw2 : IntKind.i64.wrap (p : Int) = (p : Int) := by rw [IntKind.wrap_i64]; omega
    have hpi : (0 : Int) ≤ (p : Int) ∧ (p : Int) < (ol : Int) := by omega
    clear hlast hlp hpl hp hr hcell hol hle hM h0
    by_cases hxl : x = last
    · rw [if_pos hxl]
      have hb1 : (last == x) = true := by simpa using hxl.symm
      clear hxl
      go_enter Try.func72, Try.ntmps72
      go_wp2
      go_ret
      exact ⟨rfl, rfl⟩
    · rw [if_neg hxl]
      have hb1 : (last == x) = false := by simpa using fun h => hxl h.symm
      clear hxl
      by_cases hc : (M : Int) - (ol : Int) < cnt
      · rw [if_pos hc]
        go_enter Try.func72, Try.ntmps72
        go_wp2
        go_ret
        exact ⟨rfl, rfl⟩
      · rw [if_neg hc]
        go_enter Try.func72, Try.ntmps72
        go_wp2
        go_ret
        exact ⟨rfl, rfl⟩
end Go.Proofs.Ytpocpckhcciecaa
