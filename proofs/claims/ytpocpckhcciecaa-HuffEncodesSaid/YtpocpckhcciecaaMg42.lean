/-
  What the law of the last of these texts stands on, part 42.
-/
import Derived.Test.YtpocpckhcciecaaRows
import Derived.Test.YtpocpckhcciecaaMg01
import Derived.Test.YtpocpckhcciecaaMg02
import Derived.Test.YtpocpckhcciecaaMg03
import Derived.Test.YtpocpckhcciecaaMg04
import Derived.Test.YtpocpckhcciecaaMg05
import Derived.Test.YtpocpckhcciecaaMg06
import Derived.Test.YtpocpckhcciecaaMg07
import Derived.Test.YtpocpckhcciecaaMg08
import Derived.Test.YtpocpckhcciecaaMg09
import Derived.Test.YtpocpckhcciecaaMg10
import Derived.Test.YtpocpckhcciecaaMg11
import Derived.Test.YtpocpckhcciecaaMg12
import Derived.Test.YtpocpckhcciecaaMg13
import Derived.Test.YtpocpckhcciecaaMg14
import Derived.Test.YtpocpckhcciecaaMg15
import Derived.Test.YtpocpckhcciecaaMg16
import Derived.Test.YtpocpckhcciecaaMg17
import Derived.Test.YtpocpckhcciecaaMg18
import Derived.Test.YtpocpckhcciecaaMg19
import Derived.Test.YtpocpckhcciecaaMg20
import Derived.Test.YtpocpckhcciecaaMg21
import Derived.Test.YtpocpckhcciecaaMg22
import Derived.Test.YtpocpckhcciecaaMg23
import Derived.Test.YtpocpckhcciecaaMg24
import Derived.Test.YtpocpckhcciecaaMg25
import Derived.Test.YtpocpckhcciecaaMg26
import Derived.Test.YtpocpckhcciecaaMg27
import Derived.Test.YtpocpckhcciecaaMg28
import Derived.Test.YtpocpckhcciecaaMg29
import Derived.Test.YtpocpckhcciecaaMg30
import Derived.Test.YtpocpckhcciecaaMg31
import Derived.Test.YtpocpckhcciecaaMg32
import Derived.Test.YtpocpckhcciecaaMg33
import Derived.Test.YtpocpckhcciecaaMg34
import Derived.Test.YtpocpckhcciecaaMg35
import Derived.Test.YtpocpckhcciecaaMg36
import Derived.Test.YtpocpckhcciecaaMg37
import Derived.Test.YtpocpckhcciecaaMg38
import Derived.Test.YtpocpckhcciecaaMg39
import Derived.Test.YtpocpckhcciecaaMg40
import Derived.Test.YtpocpckhcciecaaMg41
import Derived.WalkKit
import Derived.WalkSpells
import Derived.WalkLawsBesides
import Derived.ProofKit
import Derived.OpenShut
import Derived.Handy
import Derived.SizedLaws
import Derived.JoinedOf
import Derived.KernelRfl
import Derived.Lib.Hide
import Derived.Lib.SmallJoins
import Derived.Deep.Slices
import Derived.Deep.Fields
import Derived.Deep.SlicePairs
import Derived.Deep.Draws
import Derived.Deep.AppendLies
import Derived.Deep.QuietTactic
import Derived.BigQuiet
import Derived.Deep.RegionHeld3
import Derived.StillTailTactics
import Derived.Laws.OwnMore
import Derived.Laws.Rows
import Derived.Below
import Derived.Carry
import Derived.Lib.BitFns
import Derived.Deep.OwnRows
import Derived.WalkMore
import Derived.Laws.BytesString
import Derived.Laws.BitsLemmas
import Derived.Laws.Concat
import Derived.Laws.EntriesVeiled
import Derived.OwnWalk
import Derived.Shelf.Spec.SlicesGrow
import Derived.Lib.OwnBridge
import Derived.Shelf.SlSorted.Search
import Derived.Deep.RegionWith
import Derived.Deep.Upon
import Derived.Sort.WalkB2
import Derived.Sort.WalkB12
import Derived.Deep.LoopGhost
import Derived.Shelf.SlSortCmp.KitK
import Derived.Deep.RegionLaw
import Derived.Laws.CopyOwn
import Derived.Laws.Bits64b
import Derived.ChangeMaps5
namespace Go.Proofs.Ytpocpckhcciecaa
set_option linter.unusedSimpArgs false
set_option linter.unusedVariables false
open Go.ChangeShapes Go.WideShapes Go.ChangeAt Go.RowKit Go.Joins Go.Deep
theorem hzeros (L C : List Int) (hl : L.length = C.length) (hC : ∀ i (h : i < C.length), C[i] = 0) (hp : ∀ i (h : i < L.length) (hc : i < C.length), 0 < L[i] ↔ 0 < C[i]) (h0 : ∀ i (h : i < L.length), 0 ≤ L[i]) : L = List.replicate L.length 0 :=
  List.eq_replicate_iff.2 ⟨rfl, fun b hb => by
    obtain ⟨i, hi, rfl⟩ := List.getElem_of_mem hb
    have a := h0 i hi
    have b := hp i hi (by omega)
    rw [hC i (by omega)] at b
    omega⟩
theorem hL_nil : hL [] = List.replicate 257 0 := by
  have hg := hL_good (l := []) (by simp)
  have := hzeros (hL []) (hcount []) hg.len (fun i h => by rw [hcount_get, List.count_nil]; rfl) hg.pos (fun i h => (hg.rng i h).1)
  rw [hL_len] at this
  exact this
theorem hB_nil : hB [] = [0, 0, 0, 0, 0, 0, 0, 0] ++ ([0, 0, 0, 0, 1, 0, 0, 0] ++ [0, 0, 0, 0, 1]) := by
  have h1 : hB [] = tbits (List.replicate 257 0) := by
    unfold hB
    rw [hL_nil]
    show _ ++ [] = _
    rw [List.append_nil]
  have h2 := tbits_run 0 257 [] (by decide) (by simp)
  rw [List.append_nil] at h2
  rw [h1, h2]
  decide +kernel
theorem htext_nil : text (hB []) = [0, 8, 8] := by
  rw [hB_nil, text_whole 1 _ _ rfl, text_whole 1 _ _ rfl, text_short _ (by decide) (by decide), text_short _ (by decide) (by decide), text_short _ (by decide) (by decide)]
  decide
theorem haw_e0 : hencF [] = ([0, 8, 8], 0) := by
  unfold hencF
  rw [if_pos (by rfl), htext_nil]
theorem haw_z0 : hsizeF [] = 21 := by
  unfold hsizeF
  rw [if_pos (by rfl), hB_nil]
  rfl
theorem haw_d0 : hdecF [0, 8, 8] 0 = ([], 0) := by
  have := hback (l := []) (by simp) rfl
  rw [htext_nil] at this
  exact this
theorem haw_e1 : hencF [1, 0, 1] = (text (hB [1, 0, 1]), 0) := by
  unfold hencF
  rw [if_pos (by decide +kernel)]
theorem haw_d1 : hdecF (text (hB [1, 0, 1])) 3 = ([1, 0, 1], 0) := hback (l := [1, 0, 1]) (by simp) (by decide)
theorem haw_e2 : hencF [257] = ([], 70) := by
  have : hcF [257] = ([], 70) := by unfold hcF; rw [if_neg (by decide), if_neg (by decide)]
  unfold hencF
  rw [this]
  rfl
theorem haw_c1 : hcF [1, 0, 1] = (hcount [1, 0, 1], 0) := by unfold hcF; rw [if_neg (by decide), if_pos (by decide)]
theorem htext_len {l : List Int} (h : l.length ≤ 100000) : (text (hB l)).length ≤ 1000000 := by
  have h1 := hB_len h
  rw [text_length]
  omega
section
variable {cs : Array Value} {n N : Nat} {xs ys : List Int} {e : Int}
theorem hfresh (hcs : cs = (ints xs).toArray) (hn : xs.length = n) (w : World) : Reads (w.alloc (.cells cs 3)) (w.alloc (.cells cs 3)).heap.size 1 (some ⟨w.heap.size, 0, none⟩) n (ints xs) := by
  subst hcs
  have := reads_new w 3 (ints xs).toArray 1 n (by simp [ints_length, hn])
  exact this.more (by simp)
theorem hqback {w w' : World} {o : Obj} (hb : Below (w.alloc o).heap.size (w.alloc o) w') : Below w.heap.size w w' := ((Below.refl _ _).alloc (Nat.le_refl _) o).trans (hb.mono (by simp))
theorem aw11_enc {s : List UInt8} (hcs : cs = (ints xs).toArray) (hn : xs.length = n) (hm : n ≤ 1000) (h : hencF xs = (s, e)) (w : World) :
    Calls Try.prog 7 #[.slice (some ⟨w.heap.size, 0, none⟩) n n] (w.alloc (.cells cs 3)) fun r w' => r = .returned (.tuple #[.string ⟨s.toArray⟩, .int .i64 e]) ∧ Below w.heap.size w w' := by
  refine (p_hencode_any xs _ n n _ (by omega) (hfresh hcs hn w)).mono ?_
  rintro r w' ⟨rfl, hb⟩
  rw [h]
  exact ⟨rfl, hqback hb⟩
theorem aw11_dec {s : List UInt8} {k : Int} (hs : s.length ≤ 1000000) (hN : ys.length = N) (h : hdecF s k = (ys, e)) (w : World) :
    Calls Try.prog 14 #[.string ⟨s.toArray⟩, .int .i64 k] w fun r w' => ∃ A c, r = .returned (.tuple #[.slice A N c, .int .i64 e]) ∧ Reads w' w'.heap.size 1 A N (ints ys) ∧ Below w.heap.size w w' := by
  refine (p_hdecode_any s k w (by omega)).mono ?_
  rw [h]
  rintro r w' ⟨A, c, rfl, _, hr, hb⟩
  subst hN
  exact ⟨A, c, rfl, hr, hb⟩
theorem aw11_same (A : Option Addr) (c : Nat) (hcs : cs = (ints xs).toArray) (hn : xs.length = n) (hm : n ≤ 1000) (W : World) (hr : Reads W W.heap.size 1 A n (ints xs)) :
    Calls Try.prog 11 #[.slice A n c, .slice (some ⟨W.heap.size, 0, none⟩) n n] (W.alloc (.cells cs 3)) fun r w' => r = .returned (.bool true) ∧ Below W.heap.size W w' := by
  have hb : Below W.heap.size W (W.alloc (.cells cs 3)) := (Below.refl _ _).alloc (Nat.le_refl _) _
  refine (same_any A (some ⟨W.heap.size, 0, none⟩) n n c n xs xs _ ((hr.below hb).more hb.size) (hfresh hcs hn W) (by omega) (by omega)).mono ?_
  rintro r w' ⟨rfl, hb2⟩
  exact ⟨by simp, hqback hb2⟩
theorem aw11_counts (hcs : cs = (ints [1, 0, 1]).toArray) (w : World) :
    Calls Try.prog 9 #[.slice (some ⟨w.heap.size, 0, none⟩) 3 3] (w.alloc (.cells cs 3)) fun r w' => ∃ b off c, r = .returned (.tuple #[.slice (some ⟨b, off, none⟩) 257 c, .int .i64 0]) ∧ b < w'.heap.size ∧ w'.cell? ⟨b, off + 1, none⟩ = some (.int .i64 2) ∧ Below w.heap.size w w' := by
  refine (p_hcounts_any [1, 0, 1] _ 3 3 _ (by omega) (hfresh hcs rfl w)).mono ?_
  rw [haw_c1]
  rintro r w' ⟨A, c, rfl, _, hr, hb⟩
  rw [hcount_len] at hr ⊢
  obtain ⟨b, off, rfl, hb2, hc⟩ := hr.2 (by decide)
  refine ⟨b, off, c, rfl, hb2, hc 1 _ ?_, hqback hb⟩
  rw [ints_get _ 1 (by rw [hcount_len]; decide), hcount_get]
  rfl
end
set_option maxRecDepth 100000 in
set_option maxHeartbeats 4000000 in
theorem awake11_any (w : World) : Calls Try.prog 6 #[] w fun e w' => e = .returned (.bool true) ∧ Below w.heap.size w w' := by
  have P0 : Hid (∀ w, Calls Try.prog 7 #[.slice none 0 0] w fun r w' => r = .returned (.tuple #[.string ⟨#[0, 8, 8]⟩, .int .i64 0]) ∧ Below w.heap.size w w') := Lib.hid fun w => by
    have := p_hencode_any [] none 0 0 w (by omega) Reads.none_
    rwa [haw_e0] at this
  have U0 : Hid (∀ w, Calls Try.prog 14 #[.string ⟨#[0, 8, 8]⟩, .int .i64 0] w fun r w' => ∃ A c, r = .returned (.tuple #[.slice A 0 c, .int .i64 0]) ∧ Reads w' w'.heap.size 1 A 0 (ints []) ∧ Below w.heap.size w w') := Lib.hid fun w => aw11_dec (N := 0) (by decide) rfl haw_d0 w
  have P1 := Lib.hid fun w => aw11_enc (cs := #[.int .i64 1, .int .i64 0, .int .i64 1]) (n := 3) rfl rfl (by decide) haw_e1 w
  have U1 := Lib.hid fun w => aw11_dec (N := 3) (htext_len (l := [1, 0, 1]) (by simp)) rfl haw_d1 w
  have P2 := Lib.hid fun w => aw11_enc (cs := #[.int .i64 257]) (n := 1) rfl rfl (by decide) haw_e2 w
  have C1 := Lib.hid fun w => aw11_counts (cs := #[.int .i64 1, .int .i64 0, .int .i64 1]) rfl w
  have S1 := Lib.hid fun A c W h => aw11_same (cs := #[.int .i64 1, .int .i64 0, .int .i64 1]) (n := 3) (xs := [1, 0, 1]) A c rfl rfl (by decide) W h
  have Z1 : Hid (∀ w, Calls Try.prog 12 #[.slice none 0 0] w fun r w' => r = .returned (.int .i64 21) ∧ Below w.heap.size w w') := Lib.hid fun w => by
    have := p_hsize_any [] none 0 0 w (by omega) Reads.none_
    rwa [haw_z0] at this
  generalize text (hB [1, 0, 1]) = T at *
  go_enter Try.func6, Try.ntmps6
  go_wp2_with (first
    | (go_at_call 7; (with_reducible refine (P0.out _).mono ?_); rintro e w1 ⟨rfl, hb1⟩; have Hb := Lib.hid hb1; clear hb1 P0)
    | (go_at_call 14; (with_reducible refine (U0.out _).mono ?_); rintro e w2 ⟨A2, c2, rfl, _, hb2⟩; replace Hb := Lib.hid (Hb.out.trans (hb2.mono Hb.out.size)); clear hb2 U0)
    | (go_at_call 7; (with_reducible refine (P1.out _).mono ?_); rintro e w3 ⟨rfl, hb3⟩; replace Hb := Lib.hid (Hb.out.trans (hb3.mono Hb.out.size)); clear hb3 P1)
    | (go_at_call 14; (with_reducible refine (U1.out _).mono ?_); rintro e w4 ⟨A4, c4, rfl, hr4, hb4⟩; have H4 := Lib.hid hr4; replace Hb := Lib.hid (Hb.out.trans (hb4.mono Hb.out.size)); clear hr4 hb4 U1)
    | (go_at_call 7; (with_reducible refine (P2.out _).mono ?_); rintro e w5 ⟨rfl, hb5⟩; replace H4 := Lib.hid (H4.out.onto hb5); replace Hb := Lib.hid (Hb.out.trans (hb5.mono Hb.out.size)); clear hb5 P2)
    | (go_at_call 9; (with_reducible refine (C1.out _).mono ?_); rintro e w6 ⟨b6, o6, c6, rfl, hl6, hc6, hb6⟩; have Hl6 := Lib.hid hl6; have Hc6 := Lib.hid hc6; replace H4 := Lib.hid (H4.out.onto hb6); replace Hb := Lib.hid (Hb.out.trans (hb6.mono Hb.out.size)); clear hb6 C1 hl6 hc6)
    | (go_at_call 11; (with_reducible refine (S1.out _ _ _ H4.out).mono ?_); rintro e w7 ⟨rfl, hb7⟩; have x7 := (hb7.cell (p := ⟨b6, o6 + 1, none⟩) Hl6.out).trans Hc6.out; replace Hb := Lib.hid (Hb.out.trans (hb7.mono Hb.out.size)); clear hb7 S1 H4)
    | (go_at_call 12; (with_reducible refine (Z1.out _).mono ?_); rintro e w8 ⟨rfl, hb8⟩; replace Hb := Lib.hid (Hb.out.trans (hb8.mono Hb.out.size)); clear hb8 Z1))
  go_ret
  exact ⟨rfl, Hb.out⟩
end Go.Proofs.Ytpocpckhcciecaa
namespace Go.Proofs.Ytpocpckhcciecaa
set_option linter.unusedSimpArgs false
set_option linter.unusedVariables false
open Go.ChangeShapes Go.WideShapes Go.ChangeAt Go.RowKit Go.Joins Go.Deep
theorem ownP : ownKnob Try.prog.godebug = none := by kernel_rfl
theorem laidP : laidOutB Try.prog = true := by kernel_rfl
section
variable {H : Type} {enc : TypeId × Value → H} {P : Program} {w : World} {base : Nat} {spare : Nat → Bool} {held : Bool}
/-- A slice of integers: it reads as a row. -/
theorem open_nums {k : IntKind} {b0 : Nat} {t e : TypeId} {v : Value} {d : DataW H} {p : List MemPlace} (hk : k = .i64) (ht : P.underlying t = some (.slice e)) (he : P.underlying e = some (.int k)) (ce : P.cellsOf e = 1)
    (hv : Value.okWide P w .any b0 t v) (h : DataW.Trod enc P w base spare held t v d p) :
    ∃ (A : Option Addr) (n c : Nat) (l : List Int), v = .slice A n c ∧ l.length = n ∧ n ≤ c ∧ c ≤ maxLen ∧ Reads w w.heap.size 1 A n (ints l) ∧ ∀ x ∈ l, x < 9223372036854775808 := by
  subst hk
  obtain ⟨A, n, c, rfl⟩ := okWide_slice ht hv
  obtain ⟨fuel, hf⟩ := h
  rcases open_ints ht he ce hf with ⟨hcs, _⟩ | ⟨a, len, cap, zs, hcs, hb, hl, hm, hzl, _, hz, hw⟩
  · simp [Value.cells] at hcs
    obtain ⟨rfl, rfl, rfl⟩ := hcs
    exact ⟨none, 0, 0, [], rfl, rfl, Nat.le_refl _, Nat.zero_le _, Reads.none_, by simp⟩
  · simp [Value.cells] at hcs
    obtain ⟨rfl, rfl, rfl⟩ := hcs
    have hlm : n ≤ zs.length := by rw [hzl]; split <;> omega
    refine ⟨some a, n, c, zs.take n, rfl, by simp [hlm], hl, hm, ⟨by rw [ints_length]; simp [hlm], fun hn => ?_⟩, fun x hx => ?_⟩
    · have h0 := hz 0 (by omega)
      have hlt0 := cell_lt h0
      have hsp0 : a.spot = none := by simpa [Addr.add] using World.cell?_spot h0
      obtain ⟨b, off, sp⟩ := a
      simp only at hsp0
      subst hsp0
      refine ⟨b, off, rfl, by simpa [block_of_add] using hlt0, fun j u hu => ?_⟩
      have hj : j < n := by
        have := (List.getElem?_eq_some_iff.1 hu).1
        rw [ints_length] at this
        simp at this
        omega
      have hc := hz j (by omega)
      rw [add_mk] at hc
      rw [hc, ← hu]
      simp [ints, hj, List.getElem?_eq_getElem (by omega : j < zs.length)]
    · exact Int.lt_of_le_of_lt (bounds_i64 (hw x (List.mem_of_mem_take hx))).2 (by decide)
end
end Go.Proofs.Ytpocpckhcciecaa
