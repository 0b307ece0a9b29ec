/-
  By any other lengths that a code has, by which each of the symbols has a word, they have no fewer bits behind those of the lengths; the layer's probe holds (HuffBest). No condition.
-/
import Derived.Test.YtpocpckhcciecaaRows
import Derived.Test.YtpocpckhcciecaaMg01
import Derived.Test.YtpocpckhcciecaaMg02
import Derived.Test.YtpocpckhcciecaaMg03
import Derived.Test.YtpocpckhcciecaaMg04
import Derived.Test.YtpocpckhcciecaaMg05
import Derived.Test.YtpocpckhcciecaaMg06
import Derived.Test.YtpocpckhcciecaaMg07
import Derived.Test.YtpocpckhcciecaaMg08
import Derived.Test.YtpocpckhcciecaaMg09
import Derived.Test.YtpocpckhcciecaaMg10
import Derived.Test.YtpocpckhcciecaaMg11
import Derived.Test.YtpocpckhcciecaaMg12
import Derived.Test.YtpocpckhcciecaaMg13
import Derived.Test.YtpocpckhcciecaaMg14
import Derived.Test.YtpocpckhcciecaaMg15
import Derived.Test.YtpocpckhcciecaaMg16
import Derived.Test.YtpocpckhcciecaaMg17
import Derived.Test.YtpocpckhcciecaaMg18
import Derived.Test.YtpocpckhcciecaaMg19
import Derived.Test.YtpocpckhcciecaaMg20
import Derived.Test.YtpocpckhcciecaaMg21
import Derived.Test.YtpocpckhcciecaaMg22
import Derived.Test.YtpocpckhcciecaaMg23
import Derived.Test.YtpocpckhcciecaaMg24
import Derived.Test.YtpocpckhcciecaaMg25
import Derived.Test.YtpocpckhcciecaaMg26
import Derived.Test.YtpocpckhcciecaaMg27
import Derived.Test.YtpocpckhcciecaaMg28
import Derived.Test.YtpocpckhcciecaaMg29
import Derived.Test.YtpocpckhcciecaaMg30
import Derived.Test.YtpocpckhcciecaaMg31
import Derived.Test.YtpocpckhcciecaaMg32
import Derived.Test.YtpocpckhcciecaaMg33
import Derived.Test.YtpocpckhcciecaaMg34
import Derived.Test.YtpocpckhcciecaaMg35
import Derived.Test.YtpocpckhcciecaaMg36
import Derived.Test.YtpocpckhcciecaaMg37
import Derived.Test.YtpocpckhcciecaaMg38
import Derived.Test.YtpocpckhcciecaaMg39
import Derived.Test.YtpocpckhcciecaaMg40
import Derived.Test.YtpocpckhcciecaaMg41
import Derived.Test.YtpocpckhcciecaaMg42
import Derived.WalkKit
import Derived.WalkSpells
import Derived.WalkLawsBesides
import Derived.ProofKit
import Derived.OpenShut
import Derived.Handy
import Derived.SizedLaws
import Derived.JoinedOf
import Derived.KernelRfl
import Derived.Lib.Hide
import Derived.Lib.SmallJoins
import Derived.Deep.Slices
import Derived.Deep.Fields
import Derived.Deep.SlicePairs
import Derived.Deep.Draws
import Derived.Deep.AppendLies
import Derived.Deep.QuietTactic
import Derived.BigQuiet
import Derived.Deep.RegionHeld3
import Derived.StillTailTactics
import Derived.Laws.OwnMore
import Derived.Laws.Rows
import Derived.Below
import Derived.Carry
import Derived.Lib.BitFns
import Derived.Deep.OwnRows
import Derived.WalkMore
import Derived.Laws.BytesString
import Derived.Laws.BitsLemmas
import Derived.Laws.Concat
import Derived.Laws.EntriesVeiled
import Derived.OwnWalk
import Derived.Shelf.Spec.SlicesGrow
import Derived.ChangeMaps5
import Derived.Lib.OwnBridge
import Derived.Shelf.SlSorted.Search
import Derived.Deep.RegionWith
import Derived.Deep.Upon
import Derived.Sort.WalkB2
import Derived.Sort.WalkB12
import Derived.Deep.LoopGhost
import Derived.Shelf.SlSortCmp.KitK
import Derived.Deep.RegionLaw
import Derived.Laws.CopyOwn
import Derived.Laws.Bits64b
namespace Go.Proofs.Ytpocpckhcciecaa
set_option linter.unusedSimpArgs false
set_option linter.unusedVariables false
open Go.ChangeShapes Go.WideShapes Go.ChangeAt Go.RowKit Go.Joins Go.Deep
set_option maxHeartbeats 2000000 in
/-- Beyond the sizes that the statement looks at: the probe alone. -/
theorem huffBest_far0 (A1 A2 : Option Addr) (n1 c1 n2 c2 : Nat) (w : World) (h : 2000 < n1) :
    Calls Try.prog 5 #[.slice A1 n1 c1, .slice A2 n2 c2] w fun e w' => e = .returned (.bool true) ∧ Below w.heap.size w w' := by
  have h1 : (2000 : Int) < n1 := by omega
  go_enter Try.func5, Try.ntmps5
  go_wp2_with (go_at_call 6; refine (awake11_any _).mono ?_; rintro e w9 ⟨rfl, hb9⟩)
  go_ret
  exact ⟨rfl, hb9⟩
set_option maxHeartbeats 2000000 in
/-- Beyond the sizes that the statement looks at: the probe alone. -/
theorem huffBest_far1 (A1 A2 : Option Addr) (n1 c1 n2 c2 : Nat) (w : World) (h : n1 ≤ 2000) (k : 257 < n2) :
    Calls Try.prog 5 #[.slice A1 n1 c1, .slice A2 n2 c2] w fun e w' => e = .returned (.bool true) ∧ Below w.heap.size w w' := by
  have h1 : ¬ (2000 : Int) < n1 := by omega
  have h2 : (257 : Int) < n2 := by omega
  go_enter Try.func5, Try.ntmps5
  go_wp2_with (go_at_call 6; refine (awake11_any _).mono ?_; rintro e w9 ⟨rfl, hb9⟩)
  go_ret
  exact ⟨rfl, hb9⟩
/-- Each of these symbols has a word by the other lengths. -/
def HOther (o l : List Int) (k : Nat) : Prop := ∀ s ∈ l.take k, ∃ hk : s.toNat < o.length, o[s.toNat] ≠ 0
theorem HOther.step {o l : List Int} {k : Nat} (h : HOther o l k) (hk : k < l.length) (x : Nat) (hx : l[k] = (x : Int)) (hxo : x < o.length) (h0 : o[x] ≠ 0) : HOther o l (k + 1) := fun s hs => by
  rw [List.take_succ_eq_append_getElem hk] at hs
  rcases List.mem_append.1 hs with hs | hs
  · exact h s hs
  · rw [List.mem_singleton.1 hs, hx]
    exact ⟨hxo, h0⟩
set_option maxRecDepth 100000 in
set_option maxHeartbeats 4000000 in
theorem huffBest_none (A1 A2 : Option Addr) (n1 c1 n2 c2 : Nat) (o : List Int) (w : World) (hr2 : Reads w w.heap.size 1 A2 n2 (ints o)) (h : n1 ≤ 2000) (h' : n2 ≤ 257) (hc : checkF o ≠ 0) :
    Calls Try.prog 5 #[.slice A1 n1 c1, .slice A2 n2 c2] w fun e w' => e = .returned (.bool true) ∧ Below w.heap.size w w' := by
  have h1 : ¬ (2000 : Int) < n1 := by omega
  have h2 : ¬ (257 : Int) < n2 := by omega
  have Hck := Lib.hid (lref_check_any o A2 n2 c2 w (by omega) hr2)
  have hb1 : (checkF o == 0) = false := by simpa using hc
  have hb2 : (checkF o != 0) = true := by simpa using hc
  clear hr2 hc h h'
  generalize checkF o = E at *
  go_enter Try.func5, Try.ntmps5
  go_wp2_with (first
    | (go_at_call 15; refine Hck.out.mono ?_; rintro e w1 ⟨rfl, hw1⟩; obtain rfl := hw1.symm; clear hw1)
    | (go_at_call 6; refine (awake11_any _).mono ?_; rintro e w9 ⟨rfl, hb9⟩; have Hb := Lib.hid hb9; clear hb9))
  go_ret
  exact ⟨rfl, Hb.out⟩
set_option maxRecDepth 100000 in
set_option maxHeartbeats 4000000 in
theorem huffBest_no (A1 A2 : Option Addr) (n1 c1 n2 c2 : Nat) (l o : List Int) (w : World) (hr1 : Reads w w.heap.size 1 A1 n1 (ints l)) (hr2 : Reads w w.heap.size 1 A2 n2 (ints o)) (h : n1 ≤ 2000) (h' : n2 ≤ 257) (hc : checkF o = 0) (hE : (hcF l).2 ≠ 0) :
    Calls Try.prog 5 #[.slice A1 n1 c1, .slice A2 n2 c2] w fun e w' => e = .returned (.bool true) ∧ Below w.heap.size w w' := by
  have h1 : ¬ (2000 : Int) < n1 := by omega
  have h2 : ¬ (257 : Int) < n2 := by omega
  have hck := lref_check_any o A2 n2 c2 w (by omega) hr2
  rw [hc] at hck
  have Hck := Lib.hid hck
  have Hcnt := Lib.hid (hc_counts_no hE A1 n1 c1 w (by omega) hr1)
  have hb1 : ((hcF l).2 == 0) = false := by simpa using hE
  have hb2 : ((hcF l).2 != 0) = true := by simpa using hE
  clear hr1 hr2 hc h h' hck hE
  generalize (hcF l).2 = E at *
  go_enter Try.func5, Try.ntmps5
  go_wp2_with (first
    | (go_at_call 15; refine Hck.out.mono ?_; rintro e w1 ⟨rfl, hw1⟩; obtain rfl := hw1.symm; clear hw1)
    | (go_at_call 9; refine Hcnt.out.mono ?_; rintro e w2 ⟨A3, c3, rfl, hb2⟩; have Hb := Lib.hid hb2; clear hb2)
    | (go_at_call 6; refine (awake11_any _).mono ?_; rintro e w9 ⟨rfl, hb9⟩; replace Hb := Lib.hid (Hb.out.trans (hb9.mono Hb.out.size)); clear hb9))
  go_ret
  exact ⟨rfl, Hb.out⟩
set_option maxRecDepth 100000 in
set_option maxHeartbeats 8000000 in
theorem huffBest_near (A1 A2 : Option Addr) (n1 c1 n2 c2 : Nat) (l o : List Int) (w : World) (hr1 : Reads w w.heap.size 1 A1 n1 (ints l)) (hr2 : Reads w w.heap.size 1 A2 n2 (ints o)) (h : n1 ≤ 2000) (h' : n2 ≤ 257) (hc : checkF o = 0) (hE : (hcF l).2 = 0) :
    Calls Try.prog 5 #[.slice A1 n1 c1, .slice A2 n2 c2] w fun e w' => e = .returned (.bool true) ∧ Below w.heap.size w w' := by
  have h1 : ¬ (2000 : Int) < n1 := by omega
  have h2 : ¬ (257 : Int) < n2 := by omega
  have hck := lref_check_any o A2 n2 c2 w (by omega) hr2
  rw [hc] at hck
  have Hck := Lib.hid hck
  obtain ⟨hl, hin0, _⟩ := hc_ok hE
  have el : l.length = n1 := by have := hr1.1; rw [ints_length] at this; omega
  have eo : o.length = n2 := by have := hr2.1; rw [ints_length] at this; omega
  have Hcnt := Lib.hid (hc_counts hE A1 n1 c1 w (by omega) hr1)
  have Hbest := Lib.hid fun W A c hr => hc_best (l := l) hl W A c hr
  have hs := fun W (hW : Below w.heap.size w W) => p_hsize_any l A1 n1 c1 W (by omega) (hr1.onto hW)
  rw [show hsizeF l = (hB l).length from if_pos hE] at hs
  have hts : ∀ (W : World) A c (hc : 257 ≤ c) (hr : Reads W W.heap.size 1 A 257 (ints (hL l))), Calls Try.prog 17 #[.slice A 257 c] W fun e w' => e = .returned (.int .i64 ((tbits (hL l)).length : Int)) ∧ Below W.heap.size W w' := fun W A c hc hr => by
    have := p_tsize_any (hL l) A 257 c W (by omega) hr
    rwa [show tsizeF (hL l) = (tbits (hL l)).length from if_pos (hL_check hl)] at this
  have hco1 := fun (W : World) A cc (hW : Below w.heap.size w W) (h1 : Reads W W.heap.size 1 A 257 (ints (hcount l))) => p_cost_any (hcount l) o A A2 257 n2 cc c2 W (by omega) (by omega) h1 (hr2.onto hW)
  have hco2 := fun (W : World) A B ca cb (h1 : Reads W W.heap.size 1 A 257 (ints (hcount l))) (h2 : Reads W W.heap.size 1 B 257 (ints (hL l))) => p_cost_any (hcount l) (hL l) A B 257 257 ca cb W (by omega) (by omega) h1 h2
  have hsz := hsize_is hl hin0
  have hbl := hB_len hl
  have Hle : Hid (HOther o l n1 → costF (hcount l) (hL l) ≤ costF (hcount l) o) := Lib.hid fun hs => hleast hl hin0 o hc fun s hm => hs s (by rw [List.take_of_length_le (by omega)]; exact hm)
  have Hx : Hid (∀ k (hk : k < l.length), ∃ x : Nat, l[k] = (x : Int) ∧ x ≤ 256) := Lib.hid fun k hk => by
    have := hin_get hin0 l[k] (List.getElem_mem hk)
    exact ⟨l[k].toNat, by omega, by omega⟩
  have Hc1 : Hid (∀ W, Below w.heap.size w W → ∀ k (hk : k < l.length), ∃ b off, A1 = some ⟨b, off, none⟩ ∧ W.cell? ⟨b, off + k, none⟩ = some (.int .i64 l[k])) := Lib.hid fun W hW k hk => by
    obtain ⟨b, off, e, hb, hc⟩ := hr1.2 (by omega)
    exact ⟨b, off, e, (hW.cell (p := ⟨b, off + k, none⟩) hb).trans (hc k _ (ints_get l k hk))⟩
  have Hc2 : Hid (∀ W, Below w.heap.size w W → ∀ k (hk : k < o.length), ∃ b off, A2 = some ⟨b, off, none⟩ ∧ W.cell? ⟨b, off + k, none⟩ = some (.int .i64 o[k])) := Lib.hid fun W hW k hk => by
    obtain ⟨b, off, e, hb, hc⟩ := hr2.2 (by omega)
    exact ⟨b, off, e, (hW.cell (p := ⟨b, off + k, none⟩) hb).trans (hc k _ (ints_get o k hk))⟩
  have El := Lib.hid el
  have Eo := Lib.hid eo
  have hzb : ((hB l).length : Int) ≤ 10000000 ∧ 0 ≤ ((tbits (hL l)).length : Int) ∧ ((tbits (hL l)).length : Int) ≤ 1000000 ∧ 0 ≤ ((hB l).length : Int) := by have := htbits_len l; omega
  clear hr1 hr2 hc hck hE hl hin0 el eo hbl h h'
  generalize ((hB l).length : Int) = z at *
  generalize ((tbits (hL l)).length : Int) = T at *
  generalize costF (hcount l) (hL l) = C at *
  generalize costF (hcount l) o = Co at *
  have hzt : z - T = C := by omega
  have hcc : (C == C) = true := by simp
  have Hs := Lib.hid hs
  have Hts := Lib.hid hts
  have Hco1 := Lib.hid hco1
  have Hco2 := Lib.hid hco2
  clear hs hts hco1 hco2 hsz
  go_enter Try.func5, Try.ntmps5
  go_wp2_with (first
    | (go_at_call 15; refine Hck.out.mono ?_; rintro e w1 ⟨rfl, hw1⟩; obtain rfl := hw1.symm; clear hw1)
    | (go_at_call 9; refine Hcnt.out.mono ?_; rintro e w3 ⟨A3, c3, rfl, h3, hb3⟩; have H3 := Lib.hid h3; have Hb := Lib.hid hb3; clear h3 hb3)
    | (go_at_call 16; refine (Hbest.out _ _ _ H3.out).mono ?_; rintro e w4 ⟨A4, c4, rfl, hc4, h4, hb4⟩; have H4 := Lib.hid h4; have Hc4 := Lib.hid hc4; replace H3 := Lib.hid (H3.out.onto hb4); replace Hb := Lib.hid (Hb.out.trans (hb4.mono Hb.out.size)); clear hb4; clear h4 hc4))
  go_loop [9] (fun i => ∃ k : Nat, k ≤ n1 ∧ i = .int .i64 k ∧ Hid (HOther o l k)) (fun i => n1 - (intOf i).toNat)
  case atStart => exact ⟨0, by omega, rfl, Lib.hid (fun s hs => by rw [List.take_zero] at hs; cases hs)⟩
  case round =>
    obtain ⟨k, hk, rfl, HO⟩ := hrel
    by_cases hlt : k < n1
    · have hki : (k : Int) < (n1 : Int) := by omega
      have hkl : k < l.length := by rw [El.out]; exact hlt
      obtain ⟨b1, o1, rfl, x1⟩ := Hc1.out w4 Hb.out k hkl
      obtain ⟨x, hx, hx256⟩ := Hx.out k hkl
      rw [hx] at x1
      have hxi : (0 : Int) ≤ (x : Int) ∧ (x : Int) ≤ 256 := by omega
      by_cases hxo : x < n2
      · have hxoi : (x : Int) < (n2 : Int) := by omega
        have hxl : x < o.length := by rw [Eo.out]; exact hxo
        obtain ⟨b2, o2, rfl, x2⟩ := Hc2.out w4 Hb.out x hxl
        by_cases h0 : o[x] = 0
        · have hb1 : (o[x] == 0) = true := by simpa using h0
          rw [h0] at x2
          clear hx hkl h0 hb1
          go_wp2_with (go_at_call 6; refine (awake11_any _).mono ?_; rintro e w9 ⟨rfl, hb9⟩; replace Hb := Lib.hid (Hb.out.trans (hb9.mono Hb.out.size)); clear hb9)
          go_ret
          exact ⟨rfl, Hb.out⟩
        · have HO2 := Lib.hid (HO.out.step hkl x hx hxl h0)
          have hb1 : (o[x] == 0) = false := by simpa using h0
          have hb2 : ¬ o[x] = 0 := h0
          clear h0 hx hkl
          generalize o[x] = y at *
          go_wp2
          go_round
          case rel => exact ⟨k + 1, by omega, iv (by omega), HO2⟩
          case measure => simp only [intOf]; omega
      · have hxoi : ¬ (x : Int) < (n2 : Int) := by omega
        have hxoi2 : (n2 : Int) ≤ (x : Int) := by omega
        clear hx hkl
        go_wp2_with (go_at_call 6; refine (awake11_any _).mono ?_; rintro e w9 ⟨rfl, hb9⟩; replace Hb := Lib.hid (Hb.out.trans (hb9.mono Hb.out.size)); clear hb9)
        go_ret
        exact ⟨rfl, Hb.out⟩
    · obtain rfl : k = n1 := by omega
      have hii : ¬ (k : Int) < (k : Int) := by omega
      have hle := Hle.out HO.out
      have Hk := Lib.hid (Below.refl w4.heap.size w4)
      go_wp2_with (first
        | (go_at_call 12; refine (Hs.out _ Hb.out).mono ?_; rintro e w5 ⟨rfl, hb5⟩; replace Hk := Lib.hid (Hk.out.trans (hb5.mono Hk.out.size)); replace Hb := Lib.hid (Hb.out.trans (hb5.mono Hb.out.size)); clear hb5)
        | (go_at_call 17; refine (Hts.out _ _ _ Hc4.out (H4.out.onto Hk.out)).mono ?_; rintro e w6 ⟨rfl, hb6⟩; replace Hk := Lib.hid (Hk.out.trans (hb6.mono Hk.out.size)); replace Hb := Lib.hid (Hb.out.trans (hb6.mono Hb.out.size)); clear hb6)
        | (go_at_call 18; (with_reducible refine (Hco1.out _ _ _ Hb.out (H3.out.onto Hk.out)).mono ?_); rintro e w7 ⟨rfl, hb7⟩; replace Hk := Lib.hid (Hk.out.trans (hb7.mono Hk.out.size)); replace Hb := Lib.hid (Hb.out.trans (hb7.mono Hb.out.size)); clear hb7)
        | (go_at_call 18; (with_reducible refine (Hco2.out _ _ _ _ _ (H3.out.onto Hk.out) (H4.out.onto Hk.out)).mono ?_); rintro e w8 ⟨rfl, hb8⟩; replace Hk := Lib.hid (Hk.out.trans (hb8.mono Hk.out.size)); replace Hb := Lib.hid (Hb.out.trans (hb8.mono Hb.out.size)); clear hb8)
        | (go_at_call 6; refine (awake11_any _).mono ?_; rintro e w9 ⟨rfl, hb9⟩; replace Hb := Lib.hid (Hb.out.trans (hb9.mono Hb.out.size)); clear hb9))
      go_ret
      exact ⟨rfl, Hb.out⟩
theorem huffBest_walk (A1 A2 : Option Addr) (n1 c1 n2 c2 : Nat) (l o : List Int) (w : World) (hr1 : Reads w w.heap.size 1 A1 n1 (ints l)) (hr2 : Reads w w.heap.size 1 A2 n2 (ints o)) :
    Calls Try.prog 5 #[.slice A1 n1 c1, .slice A2 n2 c2] w fun e w' => e = .returned (.bool true) ∧ Below w.heap.size w w' := by
  by_cases h : n1 ≤ 2000
  · by_cases h2 : n2 ≤ 257
    · by_cases hc : checkF o = 0
      · by_cases hE : (hcF l).2 = 0
        · exact huffBest_near A1 A2 n1 c1 n2 c2 l o w hr1 hr2 h h2 hc hE
        · exact huffBest_no A1 A2 n1 c1 n2 c2 l o w hr1 hr2 h h2 hc hE
      · exact huffBest_none A1 A2 n1 c1 n2 c2 o w hr2 h h2 hc
    · exact huffBest_far1 A1 A2 n1 c1 n2 c2 w h (by omega)
  · exact huffBest_far0 A1 A2 n1 c1 n2 c2 w (by omega)
namespace HuffBest
set_option maxRecDepth 100000 in
theorem lifted (os : Os) (started : os.Started) (H : Type) (enc : TypeId × Value → H) :
    ReturnsInHanded {} Try.checked os 5 .any (Rows.huffBestSpec.pre6 enc Try.prog Try.f5 Rows.huffBestRow.domain false) (Rows.huffBestSpec.post enc Try.prog Try.f5 false true false false) := by
  refine law_sized (C := Try.checked) (tb := 4) ownP started (by kernel_rfl) Try.func5
    (ChangeSpec.witness6 (enc := enc) (C := Try.checked) false ⟨#[], #[.slice none 0 0, .slice none 0 0], []⟩ 8 (by kernel_rfl) (by kernel_rfl) (by kernel_rfl) (by kernel_rfl))
    laidP (by kernel_rfl) rfl (by kernel_rfl) Try.underlying4 (by intro ds h; match ds, h with | [_, _], _ => rfl) ?_
  intro W base args ds p hval0 hA0 hlt _
  have hval : ∀ (j : Nat) t v, Try.f5.params[j]? = some t → args[j]? = some v → Value.okWide Try.prog W .any base t v := hval0
  have hA : DataW.TrodAll enc Try.prog W 0 (fun _ => true) true Try.f5.params.toList args.toList ds p := hA0
  rw [Try.params5] at hA hval
  obtain ⟨v0, v1, d0, d1, p0, p1, rfl, rfl, rfl, h0, h1⟩ := trodAll_two hA
  obtain ⟨Aks, nks, cks, ks, rfl, eks, hnks, hmks, hrks, hbks⟩ := open_nums rfl Try.underlying22 Try.underlying3 (by kernel_rfl) (hval 0 22 v0 rfl rfl) h0
  obtain ⟨Ajs, njs, cjs, js, rfl, ejs, hnjs, hmjs, hrjs, hbjs⟩ := open_nums rfl Try.underlying22 Try.underlying3 (by kernel_rfl) (hval 1 22 v1 rfl rfl) h1
  exact huffBest_walk Aks Ajs nks cks njs cjs ks js W hrks hrjs
theorem holds : Rows.HuffBestSaid :=
  OpenClaim.holds_of_wide 5 Try.f5 rfl rfl rfl rfl rfl rfl rfl ⟨rfl, rfl, rfl, rfl, rfl⟩ rfl rfl rfl rfl rfl (by kernel_rfl) Try.func5 (by kernel_rfl)
    (of_decide_eq_true (by kernel_rfl)) (by unfold Func.isWrapper; first | (rw [if_pos (by decide +kernel)]; kernel_rfl) | (rw [if_neg (by decide +kernel)]; exact ⟨rfl, rfl⟩))
    (fun os started H enc _ => lifted os started H enc)
end HuffBest
end Go.Proofs.Ytpocpckhcciecaa
