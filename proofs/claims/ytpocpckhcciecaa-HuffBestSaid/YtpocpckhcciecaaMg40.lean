/-
  What the law of the last of these texts stands on, part 40.
-/
import Derived.Test.YtpocpckhcciecaaRows
import Derived.Test.YtpocpckhcciecaaMg01
import Derived.Test.YtpocpckhcciecaaMg02
import Derived.Test.YtpocpckhcciecaaMg03
import Derived.Test.YtpocpckhcciecaaMg04
import Derived.Test.YtpocpckhcciecaaMg05
import Derived.Test.YtpocpckhcciecaaMg12
import Derived.Test.YtpocpckhcciecaaMg13
import Derived.Test.YtpocpckhcciecaaMg14
import Derived.Test.YtpocpckhcciecaaMg15
import Derived.Test.YtpocpckhcciecaaMg17
import Derived.Test.YtpocpckhcciecaaMg18
import Derived.Test.YtpocpckhcciecaaMg19
import Derived.Test.YtpocpckhcciecaaMg20
import Derived.Test.YtpocpckhcciecaaMg34
import Derived.Test.YtpocpckhcciecaaMg35
import Derived.Test.YtpocpckhcciecaaMg39
import Derived.WalkKit
import Derived.WalkSpells
import Derived.WalkLawsBesides
import Derived.ProofKit
import Derived.OpenShut
import Derived.Handy
import Derived.SizedLaws
import Derived.JoinedOf
import Derived.KernelRfl
import Derived.Lib.Hide
import Derived.Lib.SmallJoins
import Derived.Deep.Slices
import Derived.Deep.Fields
import Derived.Deep.SlicePairs
import Derived.Deep.Draws
import Derived.Deep.AppendLies
import Derived.Deep.QuietTactic
import Derived.BigQuiet
import Derived.Deep.RegionHeld3
import Derived.StillTailTactics
import Derived.Laws.OwnMore
import Derived.Laws.Rows
import Derived.Below
import Derived.Carry
import Derived.Lib.BitFns
import Derived.WalkMore
import Derived.Laws.BytesString
import Derived.Laws.BitsLemmas
import Derived.Laws.Concat
import Derived.Laws.EntriesVeiled
import Derived.Deep.Upon
import Derived.Deep.RegionLaw
import Derived.Deep.OwnRows
import Derived.Laws.CopyOwn
import Derived.Laws.Bits64b
namespace Go.Proofs.Ytpocpckhcciecaa
set_option linter.unusedSimpArgs false
set_option linter.unusedVariables false
open Go.ChangeShapes Go.WideShapes Go.ChangeAt Go.RowKit Go.Joins Go.Deep
/-- What read holds on to: the reader's place, the number's box, the lengths' box and their row. -/
structure TRd (w wr : World) (s : List UInt8) (g M to ol : Nat) (out : List Int) (Av : Option Addr) (cv : Nat) : Prop where
  rd : RHold wr g s to
  nbx : Blk wr w.heap.size 3 #[.int .i64 (M : Int)]
  lbx : Blk wr (w.heap.size + 1) 22 #[.slice Av ol cv]
  row : wr.ownsRow (w.heap.size + 2) 3 1 (.slice Av ol cv) ol (ints out)
  tch : Touch w wr (fun k => k = g)
  glt : g < w.heap.size
section
variable {w wr w2 : World} {s : List UInt8} {g M to ol : Nat} {out : List Int} {Av : Option Addr} {cv : Nat}
theorem TRd.below (T : TRd w wr s g M to ol out Av cv) (hb : Below wr.heap.size wr w2) : TRd w w2 s g M to ol out Av cv :=
  ⟨Blk.below T.rd hb (Blk.lt T.rd), T.nbx.below hb T.nbx.lt, T.lbx.below hb T.lbx.lt, owns_below T.row hb (Nat.le_refl _), T.tch.trans (touch_below hb (Nat.le_refl _)), T.glt⟩
theorem TRd.go (T : TRd w wr s g M to ol out Av cv) {to2 : Nat} (h : RHold w2 g s to2) (ht : Touch wr w2 (fun k => k = g)) : TRd w w2 s g M to2 ol out Av cv :=
  ⟨h, T.nbx.touch ht (by have := T.glt; omega), T.lbx.touch ht (by have := T.glt; omega), owns_touch T.row ht (fun k hk e => by have := (T.row.lt k hk).1; have := T.glt; omega), T.tch.trans ht, T.glt⟩
theorem TRd.drewN (T : TRd w wr s g M to ol out Av cv) (k : Nat) : TRd w (wr.drewN k) s g M to ol out Av cv := T.below (below_drewN (Below.refl _ _) k)
theorem TRd.reads (T : TRd w wr s g M to ol out Av cv) : Reads wr wr.heap.size 1 Av ol (ints out) ∧ ol ≤ cv := by
  obtain ⟨A, c, e, h1, h2⟩ := owns_cells T.row
  injection e with e1 _ e2
  subst e1 e2
  exact ⟨h2, h1⟩
theorem TRd.app (T : TRd w wr s g M to ol out Av cv) {A2 : Option Addr} {N c2 : Nat} {ys : List Int} (ho : w2.ownsRow (w.heap.size + 2) 3 1 (.slice A2 N c2) N (ints out ++ ints ys)) (hg : wr.grownBy w2 (Value.slice Av ol cv).ownBlock) :
    w2.cell? ⟨w.heap.size + 1, 0, none⟩ = some (.slice Av ol cv) ∧ w2.frozen? ⟨w.heap.size + 1, 0, none⟩ = false ∧ TRd w (w2.setCell ⟨w.heap.size + 1, 0, none⟩ (.slice A2 N c2)) s g M to N (out ++ ys) A2 c2 := by
  have hown : ∀ k, (Value.slice Av ol cv).ownBlock = some k → w.heap.size + 2 ≤ k := fun k hk => (T.row.lt k hk).1
  have hne : ∀ k, k < w.heap.size + 2 → (Value.slice Av ol cv).ownBlock ≠ some k := fun k hk e => by have := hown k e; omega
  have h1 := T.lbx.grow' hg (hne _ (by omega))
  have h2 := T.nbx.grow' hg (hne _ (by omega))
  have h3 := Blk.grow' T.rd hg (hne _ (by have := T.glt; omega))
  have ht := touch_grow hg
  refine ⟨h1.cell 0, h1.frozen 0, ?_, h2.far (by simp) _, ?_, ?_, ?_, T.glt⟩
  · exact Blk.far h3 (by have := T.glt; show g ≠ w.heap.size + 1; omega) _
  · exact h1.set_ 0 _
  · have e : ints (out ++ ys) = ints out ++ ints ys := by simp [ints]
    rw [e]
    exact owns_touch ho ((Touch.refl w2 (fun k => k = w.heap.size + 1)).set (p := ⟨w.heap.size + 1, 0, none⟩) (Or.inl rfl) _) (fun k hk e => by have := (ho.lt k hk).1; omega)
  · refine (T.tch.next ht (fun k hk e => ?_)).set (p := ⟨w.heap.size + 1, 0, none⟩) (Or.inr (by show w.heap.size ≤ w.heap.size + 1; omega)) _
    have := hown k e.symm
    omega
end
theorem blk_ints {w : World} {g n : Nat} {t : TypeId} {l : List Int} (h : Blk w g t (ints l).toArray) (hn : l.length = n) : Reads w w.heap.size 1 (some ⟨g, 0, none⟩) n (ints l) :=
  ⟨by rw [ints_length]; omega, fun _ => ⟨g, 0, rfl, h.lt, fun j u hu => by rw [Nat.zero_add, h.cell]; simpa using hu⟩⟩
def trdL (Z : List Int × Nat × Int) : List Int := if Z.2.2 ≠ 0 then [] else Z.1
def trdE (Z : List Int × Nat × Int) : Int := if Z.2.2 ≠ 0 then Z.2.2 else checkF Z.1
theorem trd_bad {Z : List Int × Nat × Int} {to : Nat} {e : Int} (h : ([], to, e) = Z) (he : e ≠ 0) : trdL Z = [] ∧ trdE Z = e := by
  subst h
  exact ⟨if_pos he, if_pos he⟩
theorem trd_good {Z : List Int × Nat × Int} {to : Nat} {out : List Int} (h : (out, to, 0) = Z) : trdL Z = out ∧ trdE Z = checkF out ∧ Z.2.1 = to := by
  subst h
  exact ⟨if_neg (by simp), if_neg (by simp), rfl⟩
/-- What read answers. -/
def TRdPost (w w' : World) (s : List UInt8) (g : Nat) (e : Ending) (Z : List Int × Nat × Int) : Prop :=
  ∃ A c q, e = .returned (.tuple #[.slice A (trdL Z).length c, .int .i64 (trdE Z)]) ∧ (trdL Z).length ≤ c ∧ Reads w' w'.heap.size 1 A (trdL Z).length (ints (trdL Z)) ∧ RHold w' g s q ∧ Touch w w' (fun k => k = g) ∧ (Z.2.2 = 0 → q = Z.2.1) ∧ ∀ a : Addr, A = some a → w.heap.size ≤ a.block
theorem trd_end {w wr : World} {s : List UInt8} {g M to ol : Nat} {out : List Int} {Av : Option Addr} {cv : Nat} {Z : List Int × Nat × Int} {to2 : Nat} {e : Int} (T : TRd w wr s g M to ol out Av cv) (h : ([], to2, e) = Z) (he : e ≠ 0) :
    TRdPost w wr s g (.returned (.tuple #[.slice none 0 0, .int .i64 e])) Z := by
  obtain ⟨h1, h2⟩ := trd_bad h he
  have h3 : Z.2.2 = e := by rw [← h]
  unfold TRdPost
  rw [h1, h2]
  exact ⟨none, 0, to, rfl, Nat.le_refl _, Reads.none_, T.rd, T.tch, fun h => absurd (h3.symm.trans h) he, fun a h => by cases h⟩
set_option maxRecDepth 100000 in
set_option maxHeartbeats 8000000 in
theorem p_tread_any (s : List UInt8) (p g M : Nat) (w : World) (hM : M ≤ 257) (hs : s.length ≤ 100000000000) (hp : p ≤ 8 * s.length) (hR : RHold w g s p) (Z : List Int × Nat × Int) (hZ : tget1 (rowOf s) M (M + 1) p (-1) [] = Z) :
    Calls Try.prog 51 #[.pointer (some ⟨g, 0, none⟩), .int .i64 (M : Int)] w fun e w' => TRdPost w w' s g e Z := by
  obtain ⟨i0, hi, hz0, hz1, hz9⟩ := info_parts tint_info2
  have hmf := tmkfunc
  have hMi : (0 : Int) ≤ (M : Int) ∧ (M : Int) ≤ 257 := by omega
  have hbin : Bin (rowOf s) := row_bin s
  have hrl : (rowOf s).length = 8 * s.length := row_length s
  have hgl := Blk.lt hR
  have T0 : TRd w ((w.alloc (.cells #[.int .i64 (M : Int)] 3)).alloc (.cells #[.slice none 0 0] 22)) s g M p 0 [] none 0 := by
    have e1 : (w.alloc (.cells #[.int .i64 (M : Int)] 3)).heap.size = w.heap.size + 1 := World.size_alloc _ _
    refine ⟨(Blk.alloc (Blk.alloc hR _) _), (Blk.new w _ _).alloc _, ?_, World.ownsRow_nil _ _ _ _, ((Touch.refl w _).alloc _).alloc _, hgl⟩
    rw [← e1]
    exact Blk.new _ _ _
  have HT0 := Lib.hid T0
  have HZ0 := Lib.hid hZ
  have Hbf := Lib.hid fun to x e h => bget_facts hbin to x e h
  have Huf := Lib.hid fun (to : Nat) c e k h => ungam_facts (R := (rowOf s).drop to) (fun d hd => hbin d (List.mem_of_mem_drop hd)) c e k h
  have Hrl := Lib.hid hrl
  have Hs := Lib.hid hs
  have HL0 : Hid (([] : List Int).length = 0 ∧ M < 0 + (M + 1)) := Lib.hid ⟨rfl, by omega⟩
  clear T0 hZ hbin hrl hs hR
  go_enter Try.func51, Try.ntmps51
  go_wp2
  go_loopw [8, 9, 10, 11] (fun xa xb xc xd wr => ∃ (fu to ol : Nat) (last : Int) (out : List Int) (Av : Option Addr) (cv : Nat), to ≤ 8 * s.length ∧ ol ≤ M ∧ Hid (out.length = ol ∧ M < ol + fu) ∧ Hid ((out = [] ∧ last = -1) ∨ out.getLast? = some last) ∧ Hid (tget1 (rowOf s) M fu to last out = Z) ∧ Hid (TRd w wr s g M to ol out Av cv)) (fun xa xb xc xd wr => M - (match wr.cell? ⟨w.heap.size + 1, 0, none⟩ with | some (.slice _ m _) => m | _ => 0))
  case atStart => exact ⟨M + 1, p, 0, -1, [], none, 0, hp, by omega, HL0, Lib.hid (Or.inl ⟨rfl, rfl⟩), HZ0, HT0⟩
  case round =>
    obtain ⟨fu, to, ol, last, out, Av, cv, hto, hol, HL, Hlast, HZ, HT⟩ := hrel
    clear HT0 HZ0 HL0 hp
    have x1 : wr.cell? ⟨w.heap.size + 1, 0, none⟩ = some (.slice Av ol cv) := HT.out.lbx.cell 0
    have x2 : wr.cell? ⟨w.heap.size, 0, none⟩ = some (.int .i64 (M : Int)) := HT.out.nbx.cell 0
    rw [x1]
    by_cases hlt : ol < M
    · have hoi : (ol : Int) < (M : Int) := by omega
      obtain ⟨f, hf⟩ : ∃ f, fu = f + 1 := ⟨fu - 1, by have := HL.out.2; omega⟩
      have hz := HZ.out
      rw [hf, tget1_step, if_neg (by have := HL.out.1; omega)] at hz
      have Hfu : Hid (M < ol + (f + 1)) := Lib.hid (by have := HL.out.2; omega)
      clear hf
      obtain ⟨x, e, hxe⟩ : ∃ x e, bgetF (rowOf s) to 4 = (x, e) := ⟨_, _, rfl⟩
      have hbf := Hbf.out to x e hxe
      rw [hxe] at hz
      dsimp only at hz
      rcases hbf with ⟨rfl, h4, hx0, hx1⟩ | ⟨rfl, rfl⟩
      · rw [if_neg (by decide)] at hz
        rw [Hrl.out] at h4
        have hxv : ((num (((rowOf s).drop to).take 4) : Nat) : Int) = x := by
          have := congrArg Prod.fst hxe
          unfold bgetF at this
          rw [if_neg (by omega), if_neg (by rw [Hrl.out]; omega), Int.toNat_natCast] at this
          exact this
        have hget : Calls Try.prog 53 #[.pointer (some ⟨g, 0, none⟩), .int .i64 4] wr fun e w' => e = .returned (.tuple #[.int .i64 ((num (((rowOf s).drop to).take 4) : Nat) : Int), .int .i64 0]) ∧ RHold w' g s (to + 4) ∧ Touch wr w' (fun k => k = g) := get_yes s to 4 g wr (by have := Hs.out; omega) h4 (by decide) HT.out.rd
        rw [hxv] at hget
        have Hget := Lib.hid hget
        obtain ⟨c, k, fe, hke⟩ : ∃ c k fe, ungam ((rowOf s).drop (to + 4)) = (c, k, fe) := ⟨_, _, _, rfl⟩
        have huf := Huf.out (to + 4) c fe k hke
        rw [hke] at hz
        dsimp only at hz
        clear hget hxv hxe
        by_cases hfe : fe = 0
        · subst hfe
          rcases huf with ⟨_, hk1, hk2, hsl⟩ | h
          · rw [List.length_drop, Hrl.out] at hsl
            rw [if_neg (by decide)] at hz
            obtain ⟨d, rfl⟩ := Int.eq_ofNat_of_zero_le (by omega : 0 ≤ c)
            have hto2 : to + 4 + k ≤ 8 * s.length := by omega
            have Hgam := Lib.hid fun W hR => rgamma_yes s (to + 4) g d W (by have := Hs.out; omega) h4 hR k hke
            have hchk := fun W c1 c2 hr => tcheck1_any (w.heap.size + 1) w.heap.size M ol cv Av out x (d : Int) last W HL.out.1 hol hM Hlast.out hx0 c1 c2 hr
            rw [HL.out.1] at hz
            clear hke hsl
            by_cases hxl : x = last
            · rw [if_pos hxl] at hz
              rw [if_pos hxl] at hchk
              have Hchk := Lib.hid hchk
              have Hend := Lib.hid fun (W : World) (h : TRd w W s g M (to + 4 + k) ol out Av cv) => trd_end h hz (by decide)
              clear hz hchk hxl
              go_wp2_with (first
                | (go_at_call 53; refine Hget.out.mono ?_; rintro e w2 ⟨rfl, hR2, ht2⟩; have HT2 := Lib.hid (HT.out.go hR2 ht2); clear hR2 ht2)
                | (go_at_call 73; refine (Hgam.out _ HT2.out.rd).mono ?_; rintro e w3 ⟨rfl, hR3, ht3⟩; have HT3 := Lib.hid (HT2.out.go hR3 ht3); clear hR3 ht3)
                | (go_at_call 72; refine (Hchk.out _ (HT3.out.lbx.cell 0) (HT3.out.nbx.cell 0) HT3.out.reads.1).mono ?_; rintro e w4 ⟨rfl, rfl⟩))
              go_ret2
              exact Hend.out _ HT3.out
            · rw [if_neg hxl] at hz
              rw [if_neg hxl] at hchk
              by_cases hkb : (M : Int) - ol < (d : Int)
              · rw [if_pos hkb] at hz
                rw [if_pos hkb] at hchk
                have Hchk := Lib.hid hchk
                have Hend := Lib.hid fun (W : World) (h : TRd w W s g M (to + 4 + k) ol out Av cv) => trd_end h hz (by decide)
                clear hz hchk hxl hkb
                go_wp2_with (first
                  | (go_at_call 53; refine Hget.out.mono ?_; rintro e w2 ⟨rfl, hR2, ht2⟩; have HT2 := Lib.hid (HT.out.go hR2 ht2); clear hR2 ht2)
                  | (go_at_call 73; refine (Hgam.out _ HT2.out.rd).mono ?_; rintro e w3 ⟨rfl, hR3, ht3⟩; have HT3 := Lib.hid (HT2.out.go hR3 ht3); clear hR3 ht3)
                  | (go_at_call 72; refine (Hchk.out _ (HT3.out.lbx.cell 0) (HT3.out.nbx.cell 0) HT3.out.reads.1).mono ?_; rintro e w4 ⟨rfl, rfl⟩))
                go_ret2
                exact Hend.out _ HT3.out
              · rw [if_neg hkb] at hz
                rw [if_neg hkb] at hchk
                rw [Int.toNat_natCast] at hz
                have Hchk := Lib.hid hchk
                have Hz := Lib.hid hz
                have hdm : ol + d ≤ M ∧ 1 ≤ d ∧ d ≤ 257 := by omega
                clear hz hchk hxl hkb hk1 hk2
                go_wp2_with (first
                  | (go_at_call 53; refine Hget.out.mono ?_; rintro e w2 ⟨rfl, hR2, ht2⟩; have HT2 := Lib.hid (HT.out.go hR2 ht2); clear hR2 ht2)
                  | (go_at_call 73; refine (Hgam.out _ HT2.out.rd).mono ?_; rintro e w3 ⟨rfl, hR3, ht3⟩; have HT3 := Lib.hid (HT2.out.go hR3 ht3); clear hR3 ht3)
                  | (go_at_call 72; refine (Hchk.out _ (HT3.out.lbx.cell 0) (HT3.out.nbx.cell 0) HT3.out.reads.1).mono ?_; rintro e w4 ⟨rfl, rfl⟩))
                have hsz : w.heap.size ≤ w4.heap.size := HT3.out.tch.size
                have hlbs : w.heap.size + 1 < w4.heap.size := HT3.out.lbx.lt
                have y1 : w4.cell? ⟨w.heap.size + 1, 0, none⟩ = some (.slice Av ol cv) := HT3.out.lbx.cell 0
                have Hrep := Lib.hid (trepeat_any x (some ⟨w4.heap.size, 0, none⟩) 1 d (w4.drew.alloc (.cells #[.int .i64 x] 3)) (by omega) (by omega) (by
                  have := reads_new w4.drew 3 #[.int .i64 x] 1 1 rfl
                  exact this.more (by simp)))
                have Hpre : Hid (Below w4.heap.size w4 (w4.drew.alloc (.cells #[.int .i64 x] 3))) := Lib.hid ((Below.refl w4.heap.size w4).drew.alloc (Nat.le_refl _) _)
                have Hone : Hid (∀ u ∈ ints (List.replicate d x), u.oneCell' = true) := Lib.hid (tints_one _)
                clear x1 x2
                go_region_law (first
                  | (go_simp; go_at_call 74; refine Hrep.out.mono ?_; rintro e w6 ⟨g4, rfl, hg4, hB4, hb4⟩; have Hb4 := Lib.hid (Hpre.out.trans (hb4.mono Hpre.out.size)); have HT4 := Lib.hid (HT3.out.below Hb4.out); have HB4 := Lib.hid hB4; have y4 : w6.cell? ⟨w.heap.size + 1, 0, none⟩ = some (.slice Av ol cv) := HT4.out.lbx.cell 0; clear hB4 hb4 hg4)
                  | (refine lstep_append (by rfl) (.tmp 40) (.tmp 44) 22 (by rfl) (w.heap.size + 2) 3 i0 _ 1 8 Try.underlying22 hi hz0 hz1 hz9 rfl (by decide) (.slice Av ol cv) ol (ints out) (by rfl) HT4.out.row (some ⟨g4, 0, none⟩) d d _ (ints (List.replicate d x)) (by rfl) (blk_ints HB4.out (by simp)) Hone.out (by unfold maxLen; omega) (by omega) (HT4.out.lbx.lt) (ol + d) rfl ?_; intro A5 c5 w7 ho5 hg5 hs5; obtain ⟨z1, z2, hT5⟩ := HT4.out.app ho5 hg5; have HT5 := Lib.hid hT5; clear hT5 ho5 hg5 hs5))
                all_goals (
                  go_wp2
                  have HT8 := Lib.hid HT5.out
                  have x8 := HT8.out.lbx.cell 0
                  clear Hlast
                  go_roundw
                  case rel => exact ⟨f, to + 4 + k, ol + d, x, out ++ List.replicate d x, A5, c5, hto2, hdm.1, Lib.hid ⟨by rw [List.length_append, List.length_replicate, HL.out.1], by have := Hfu.out; omega⟩, Lib.hid (Or.inr (by rw [show d = d - 1 + 1 from by omega, List.replicate_succ', ← List.append_assoc, List.getLast?_append]; simp)), Lib.hid Hz.out, HT8⟩
                  case measure =>
                    rw [x8]
                    show M - (ol + d) < M - ol
                    omega)
          · exact absurd h (by decide)
        · rw [if_pos hfe] at hz
          have Hgam := Lib.hid fun W hR => rgamma_no s (to + 4) g fe W (by have := Hs.out; omega) h4 hR (by rw [hke]) hfe
          have Hend := Lib.hid fun (W : World) (h : TRd w W s g M (to + 4) ol out Av cv) => trd_end h hz hfe
          have hb1 : (fe == 0) = false := by simpa using hfe
          have hb2 : (fe != 0) = true := by simpa using hfe
          clear hz hke huf
          go_wp2_with (first
            | (go_at_call 53; refine Hget.out.mono ?_; rintro e w2 ⟨rfl, hR2, ht2⟩; have HT2 := Lib.hid (HT.out.go hR2 ht2); clear hR2 ht2)
            | (go_at_call 73; refine (Hgam.out _ HT2.out.rd).mono ?_; rintro e w3 ⟨rfl, kd, rfl⟩))
          go_ret2
          exact Hend.out _ (HT2.out.drewN kd)
      · rw [if_pos (by decide)] at hz
        have Hget := Lib.hid (get_no s to g 4 4 wr (by have := Hs.out; omega) hto HT.out.rd (by rw [hxe]) (by decide))
        have Hend := Lib.hid fun k => trd_end (HT.out.drewN k) hz (by decide)
        clear hz hxe
        go_wp2_with (go_at_call 53; refine Hget.out.mono ?_; rintro e w2 ⟨rfl, kd, rfl⟩)
        go_ret2
        exact Hend.out _
    · have hoi : ¬ (ol : Int) < (M : Int) := by omega
      obtain ⟨f, hf⟩ : ∃ f, fu = f + 1 ∨ fu = 0 := ⟨fu - 1, by omega⟩
      have hz : (out, to, (0 : Int)) = Z := by
        have h := HZ.out
        rcases hf with hf | hf
        · rw [hf, tget1_step, if_pos (by have := HL.out.1; omega)] at h
          exact h
        · rw [hf] at h
          exact h
      obtain ⟨g1, g2, g3⟩ := trd_good hz
      have G1 := Lib.hid g1
      have G2 := Lib.hid g2
      have G3 := Lib.hid g3
      have Hck := Lib.hid fun (W : World) (T : TRd w W s g M to ol out Av cv) => p_check_any out Av ol cv W (by omega) T.reads.1
      rw [lcheck_ref] at Hck
      have hfin : Hid (∀ W, TRd w W s g M to ol out Av cv → TRdPost w W s g (.returned (.tuple #[.slice Av ol cv, .int .i64 (checkF out)])) Z) := Lib.hid fun W T => by
        unfold TRdPost
        rw [G1.out, G2.out, HL.out.1]
        exact ⟨Av, cv, to, rfl, T.reads.2, T.reads.1, T.rd, T.tch, fun _ => G3.out.symm, fun a h => by have := (T.row.lt a.block (by rw [h]; rfl)).1; omega⟩
      have H0 : Hid (wr.drew.cell? ⟨w.heap.size + 1, 0, none⟩ = some (.slice Av ol cv) ∧ TRd w wr.drew s g M to ol out Av cv) := Lib.hid ⟨x1, HT.out.drewN 1⟩
      clear hf hz g1 g2 g3
      generalize checkF out = E at *
      go_wp2
      go_region_held3 (fun w' => w'.cell? ⟨w.heap.size + 1, 0, none⟩ = some (.slice Av ol cv) ∧ TRd w w' s g M to ol out Av cv)
        (first | exact ⟨((show _ ∧ TRd w _ s g M to ol out Av cv by assumption).2.below hb1).lbx.cell 0, (show _ ∧ TRd w _ s g M to ol out Av cv by assumption).2.below hb1⟩ | exact H0.out)
        (first | (go_at_call 41; refine (Hck.out _ (show _ ∧ TRd w _ s g M to ol out Av cv by assumption).2).mono ?_; rintro e w' ⟨rfl, hb1⟩))
      go_wp2
      go_ret2
      exact hfin.out _ (show _ ∧ TRd w _ s g M to ol out Av cv by assumption).2
end Go.Proofs.Ytpocpckhcciecaa
namespace Go.Proofs.Ytpocpckhcciecaa
set_option linter.unusedSimpArgs false
set_option linter.unusedVariables false
open Go.ChangeShapes Go.WideShapes Go.ChangeAt Go.RowKit Go.Joins Go.Deep
theorem tget_out (L : List Nat) (p : Nat) (N : Int) (h : N < 0 ∨ 257 < N) : tgetF L p N = ([], p, 2) := by
  unfold tgetF
  rw [if_pos h]
theorem tget_in (L : List Nat) (p M : Nat) (hM : M ≤ 257) (Z : List Int × Nat × Int) (hZ : tget1 L M (M + 1) p (-1) [] = Z) : tgetF L p (M : Int) = if trdE Z ≠ 0 then ([], p, trdE Z) else (trdL Z, Z.2.1, 0) := by
  unfold tgetF trdE trdL
  rw [if_neg (by omega), Int.toNat_natCast, hZ]
  by_cases h : Z.2.2 ≠ 0
  · rw [if_pos h, if_pos h, if_pos h]
  · rw [if_neg h, if_neg h, if_neg h]
theorem trd_zero {Z : List Int × Nat × Int} (h : trdE Z = 0) : Z.2.2 = 0 := by
  unfold trdE at h
  by_cases h2 : Z.2.2 ≠ 0
  · rw [if_pos h2] at h
    exact h
  · omega
theorem treads_set {w : World} {size n : Nat} {A : Option Addr} {xs : List Value} (h : Reads w w.heap.size size A n xs) {p : Addr} (hp : ∀ a : Addr, A = some a → a.block ≠ p.block) (u : Value) : Reads (w.setCell p u) (w.setCell p u).heap.size size A n xs := by
  refine ⟨h.1, fun hn => ?_⟩
  obtain ⟨b, off, e, hb, hc⟩ := h.2 hn
  refine ⟨b, off, e, by simpa [World.setCell] using hb, fun j u2 hu => ?_⟩
  rw [World.cell?_setCell_other w p _ u (fun e2 => hp _ e (by rw [e2]))]
  exact hc j u2 hu
/-- What Get answers, and where the reader is then. -/
def TGot (w w' : World) (s : List UInt8) (g : Nat) (e : Ending) (F : List Int × Nat × Int) : Prop :=
  ∃ A' c', e = .returned (.tuple #[.slice A' F.1.length c', .int .i64 F.2.2]) ∧ F.1.length ≤ c' ∧ Reads w' w'.heap.size 1 A' F.1.length (ints F.1) ∧ RHold w' g s F.2.1 ∧ Touch w w' (fun k => k = g)
theorem tgot_bad {w w' : World} {s : List UInt8} {g p : Nat} {E : Int} (hR : RHold w' g s p) (ht : Touch w w' (fun k => k = g)) : TGot w w' s g (.returned (.tuple #[.slice none 0 0, .int .i64 E])) ([], p, E) :=
  ⟨none, 0, rfl, Nat.le_refl _, Reads.none_, hR, ht⟩
set_option maxRecDepth 100000 in
set_option maxHeartbeats 4000000 in
theorem tgot_any (s : List UInt8) (p g : Nat) (N : Int) (w : World) (hs : s.length ≤ 100000000000) (hp : p ≤ 8 * s.length) (hR : RHold w g s p) :
    Calls Try.prog 28 #[.pointer (some ⟨g, 0, none⟩), .int .i64 N] w fun e w' => TGot w w' s g e (tgetF (rowOf s) p N) := by
  by_cases h1 : N < 0
  · rw [tget_out _ _ _ (Or.inl h1)]
    go_enter Try.func28, Try.ntmps28
    go_wp2
    go_ret2
    exact tgot_bad hR (Touch.refl _ _)
  by_cases h2 : 257 < N
  · rw [tget_out _ _ _ (Or.inr h2)]
    go_enter Try.func28, Try.ntmps28
    go_wp2
    go_ret2
    exact tgot_bad hR (Touch.refl _ _)
  obtain ⟨M, rfl⟩ := Int.eq_ofNat_of_zero_le (by omega : 0 ≤ N)
  obtain ⟨Z, hZ⟩ : ∃ Z, tget1 (rowOf s) M (M + 1) p (-1) [] = Z := ⟨_, rfl⟩
  rw [tget_in _ _ _ (by omega) Z hZ]
  obtain ⟨c1, c2, z1, z2⟩ := Blk.two hR
  have hgl := Blk.lt hR
  have hMi : (0 : Int) ≤ (M : Int) ∧ (M : Int) ≤ 257 := by omega
  have Hread := Lib.hid (p_tread_any s p w.heap.size M (w.alloc (.cells #[.string ⟨s.toArray⟩, .int .i64 (p : Int)] 87)) (by omega) hs hp (Blk.new w _ _) Z hZ)
  have HR := Lib.hid hR
  have Hback : Hid (∀ w2, Touch (w.alloc (.cells #[.string ⟨s.toArray⟩, .int .i64 (p : Int)] 87)) w2 (fun k => k = w.heap.size) → RHold w2 g s p ∧ Touch w w2 (fun k => k = g)) := Lib.hid fun w2 h =>
    ⟨(Blk.alloc hR _).touch h (by omega), ((Touch.refl w _).alloc _).next h (fun k hk e => by omega)⟩
  clear hZ hR hs hp
  by_cases hE : trdE Z = 0
  · rw [if_neg (by simpa using hE)]
    have hz := trd_zero hE
    have HE := Lib.hid hE
    have Hz := Lib.hid hz
    clear hE hz
    go_enter Try.func28, Try.ntmps28
    go_wp2_with (go_at_call 51; refine Hread.out.mono ?_; unfold TRdPost; rintro e w2 ⟨A2, cv2, q, rfl, h3, h4, h5, h6, h7, h8⟩; rw [HE.out]; have hq := h7 Hz.out; subst hq; obtain ⟨g1, g2⟩ := Hback.out _ h6; have H3 := Lib.hid h3; have H4 := Lib.hid h4; have G1 := Lib.hid g1; have G2 := Lib.hid g2; have H8 := Lib.hid h8; obtain ⟨d1, d2, _, _⟩ := Blk.two h5; obtain ⟨e1, e2, e3, e4⟩ := Blk.two g1; clear h3 h4 h5 h6 h7 h8 g1 g2)
    go_ret2
    refine ⟨A2, cv2, rfl, H3.out, ?_, ?_, ?_⟩
    · exact treads_set (treads_set H4.out (fun a h => by have := H8.out a h; rw [World.size_alloc] at this; show a.block ≠ g; omega) _) (fun a h => by have := H8.out a h; rw [World.size_alloc] at this; show a.block ≠ g; omega) _
    · exact ((Blk.set_ G1.out 0 _).set_ 1 _)
    · exact (G2.out.set (p := ⟨g, 0, none⟩) (Or.inl rfl) _).set (p := ⟨g, 1, none⟩) (Or.inl rfl) _
  · rw [if_pos (by simpa using hE)]
    have hb1 : (trdE Z == 0) = false := by simpa using hE
    have hb2 : (trdE Z != 0) = true := by simpa using hE
    go_enter Try.func28, Try.ntmps28
    go_wp2_with (go_at_call 51; refine Hread.out.mono ?_; unfold TRdPost; rintro e w2 ⟨A2, cv2, q, rfl, h3, h4, h5, h6, h7, h8⟩; obtain ⟨g1, g2⟩ := Hback.out _ h6; have G1 := Lib.hid g1; have G2 := Lib.hid g2; clear h3 h4 h5 h6 h7 h8 g1 g2)
    go_ret2
    exact tgot_bad G1.out G2.out
end Go.Proofs.Ytpocpckhcciecaa
