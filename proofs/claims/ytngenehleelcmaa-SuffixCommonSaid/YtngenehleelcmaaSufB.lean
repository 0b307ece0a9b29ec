/-
  Layer 12: the program's Sort, Ranks and ranksOf, for every argument.
-/
import Derived.Test.YtngenehleelcmaaSufQ
import Derived.Test.YtngenehleelcmaaSufS
import Derived.Test.YtngenehleelcmaaTabR
namespace Go.Proofs.Ytngenehleelcmaa
set_option linter.unusedSimpArgs false
set_option linter.unusedVariables false
open Go.ChangeShapes Go.WideShapes Go.ChangeAt Go.RowKit Go.Joins Go.Deep Go.Shelf

/-! ### Sort -/
theorem kgood_bad {keys : List Int} {most : Int} (k : Nat) (hk : k < keys.length) (h : sin keys[k] most = false) : kgood keys most = false := by
  cases h2 : kgood keys most with
  | false => rfl
  | true =>
    have := (sin_iff _ _).2 (kgood_get h2 k hk)
    rw [h] at this
    cases this
theorem s_wrong_any (n top : Int) (pb : Nat) (w : World) (hP : Blk w pb 3 #[.int .i64 top]) : Calls Try.prog 23 #[.int .i64 n, .pointer (some ⟨pb, 0, none⟩)] w fun e w' => e = .returned (.bool (!sin n top)) ∧ w' = w := by
  have c1 : w.cell? ⟨pb, 0, none⟩ = some (.int .i64 top) := hP.cell 0
  clear hP
  go_enter Try.func23, Try.ntmps23
  go_wp2_with (go_at_call 24; refine (s_within_any n top _).mono ?_; rintro e w1 ⟨rfl, rfl⟩)
  go_ret
  exact ⟨rfl, rfl⟩

set_option maxRecDepth 100000 in
theorem s_index_any (l : List Int) (top : Int) (A : Option Addr) (n c pb : Nat) (w : World) (hm : n ≤ 4611686018427387904) (hr : Reads w w.heap.size 1 A n (ints l)) (hP : Blk w pb 3 #[.int .i64 top]) :
    Calls Try.prog 41 #[.slice A n c, .func (.func 23) #[] #[.pointer (some ⟨pb, 0, none⟩)]] w fun e w' => ∃ r : Int, e = .returned (.int .i64 r) ∧ (decide (0 ≤ r)) = !kgood l top ∧ w' = w := by
  have en : l.length = n := by have := hr.1; rw [ints_length] at this; omega
  have Hcell : Hid (0 < n → ∃ b off, A = some ⟨b, off, none⟩ ∧ ∀ k, (hk : k < l.length) → w.cell? ⟨b, off + k, none⟩ = some (.int .i64 l[k])) := Lib.hid fun h => by
    obtain ⟨b, off, e, hb, hc⟩ := hr.2 h
    exact ⟨b, off, e, fun k hk => hc k _ (ints_get l k hk)⟩
  have Hcl := Lib.hid fun n => s_wrong_any n top pb w hP
  have Hbad : Hid (∀ k (hk : k < l.length), sin l[k] top = false → kgood l top = false) := Lib.hid fun k hk h => kgood_bad k hk h
  have Hgood : Hid ((∀ k (hk : k < l.length), sin l[k] top = true) → kgood l top = true) := Lib.hid fun h => kgood_of fun k hk => (sin_iff _ _).1 (h k hk)
  have En := Lib.hid en
  clear hr hP en
  go_enter Try.func41, Try.ntmps41
  go_wp2
  go_loop [8] (fun i => ∃ k : Nat, k ≤ n ∧ i = .int .i64 k ∧ Hid (∀ j (hj : j < l.length), j < k → sin l[j] top = true)) (fun i => n - (intOf i).toNat)
  case atStart => exact ⟨0, by omega, rfl, fun j _ h => by omega⟩
  case round =>
    obtain ⟨k, hk, rfl, Hk⟩ := hrel
    by_cases hlt : k < n
    · have hkl : k < l.length := by rw [En.out]; exact hlt
      obtain ⟨b, off, rfl, hc⟩ := Hcell.out (by omega)
      have hcell := hc k hkl
      have hki : (0 : Int) ≤ (k : Int) ∧ (k : Int) < n := by omega
      have Hc2 := Lib.hid (Hcl.out l[k])
      clear hc
      cases hz : sin l[k] top with
      | true =>
        have Hn : Hid (∀ j (hj : j < l.length), j < k + 1 → sin l[j] top = true) := Lib.hid fun j hj h => by
          rcases Nat.lt_or_ge j k with h1 | h1
          · exact Hk.out j hj h1
          · obtain rfl : j = k := by omega
            exact hz
        rw [hz] at Hc2
        clear hz Hbad Hgood
        generalize l[k] = x at *
        go_wp2_with (go_at_call 23; refine Hc2.out.mono ?_; rintro e w1 ⟨rfl, rfl⟩)
        go_round
        case rel => exact ⟨k + 1, by omega, iv (by omega), Hn.out⟩
        case measure => simp only [intOf]; omega
      | false =>
        have Hf := Lib.hid (Hbad.out k hkl hz)
        rw [hz] at Hc2
        clear hz Hbad Hgood
        generalize l[k] = x at *
        go_wp2_with (go_at_call 23; refine Hc2.out.mono ?_; rintro e w1 ⟨rfl, rfl⟩)
        go_ret
        exact ⟨_, rfl, by rw [Hf.out]; simp, rfl⟩
    · obtain rfl : k = n := by omega
      have Hg := Lib.hid (Hgood.out fun j hj => Hk.out j hj (by have := En.out; omega))
      clear Hbad Hgood
      go_wp2
      go_ret
      exact ⟨_, rfl, by rw [Hg.out]; rfl, rfl⟩

theorem s_contains_any (l : List Int) (top : Int) (A : Option Addr) (n c pb : Nat) (w : World) (hm : n ≤ 4611686018427387904) (hr : Reads w w.heap.size 1 A n (ints l)) (hP : Blk w pb 3 #[.int .i64 top]) :
    Calls Try.prog 25 #[.slice A n c, .func (.func 23) #[] #[.pointer (some ⟨pb, 0, none⟩)]] w fun e w' => e = .returned (.bool (!kgood l top)) ∧ w' = w := by
  have Hi := Lib.hid (s_index_any l top A n c pb w hm hr hP)
  clear hr hP
  generalize kgood l top = g at *
  go_enter Try.func25, Try.ntmps25
  go_wp2_with (go_at_call 41; refine Hi.out.mono ?_; rintro e w1 ⟨r, rfl, hd, rfl⟩; have Hd := Lib.hid hd; clear hd)
  go_ret
  exact ⟨by rw [← Hd.out]; rfl, rfl⟩

theorem krow_keys {w : World} {A : Option Addr} {n : Nat} {keys : List Int} (hn : keys.length = n) (hr : Reads w w.heap.size 1 A n (ints keys)) (h0 : ∀ i (h : i < keys.length), 0 ≤ keys[i]) : KRow w .i64 (fun p => (keys.getD p 0).toNat) A n (List.range n) := fun p hp => by
  have hp' : p < keys.length := by rw [hn]; exact List.mem_range.1 hp
  obtain ⟨b, off, e, hb, hc⟩ := hr.2 (by omega)
  refine ⟨by omega, b, off, e, hb, fun W hW => ?_⟩
  show W.cell? ⟨b, off + p, none⟩ = some (.int .i64 ((keys.getD p 0).toNat : Int))
  rw [sgetD p hp', (hW.cell (p := ⟨b, off + p, none⟩) hb), hc p _ (ints_get keys p hp')]
  have := h0 p hp'
  rw [Int.toNat_of_nonneg this]

set_option maxRecDepth 100000 in
set_option maxHeartbeats 4000000 in
theorem p_ssort_any (keys : List Int) (most : Int) (A : Option Addr) (n c : Nat) (w : World) (hm : n ≤ 1000000) (hr : Reads w w.heap.size 1 A n (ints keys)) :
    Calls Try.prog 11 #[.slice A n c, .int .i64 most] w fun e w' => LPost w w' e (ksF keys most) := by
  have en : keys.length = n := by have := hr.1; rw [ints_length] at this; omega
  have hmf := s_mkfunc
  have Hb1 : Hid (Below w.heap.size w (w.alloc (.cells #[.int .i64 most] 3))) := Lib.hid ((Below.refl _ _).alloc (Nat.le_refl _) _)
  have hc0 : (w.alloc (.cells #[.int .i64 most] 3)).cell? ⟨w.heap.size, 0, none⟩ = some (.int .i64 most) := (Blk.new w 3 #[.int .i64 most]).cell 0
  have Hct := Lib.hid (s_contains_any keys most A n c w.heap.size (w.alloc (.cells #[.int .i64 most] 3)) (by omega) ((hr.below Hb1.out).more Hb1.out.size) (Blk.new w _ _))
  have Hwi := Lib.hid fun W => s_within_any most 1000000 W
  cases hw : sin most 1000000 with
  | false =>
    have fin : ksF keys most = ([], 2) := by
      have h1 : most < 0 ∨ 1000000 < most := by
        by_cases h : 0 ≤ most ∧ most ≤ 1000000
        · rw [(sin_iff _ _).2 h] at hw; cases hw
        · omega
      exact if_pos h1
    rw [fin]
    rw [hw] at Hwi
    clear fin hr hw
    go_enter Try.func11, Try.ntmps11
    go_wp2_with (first
      | (go_at_call 24; refine (Hwi.out _).mono ?_; rintro e w1 ⟨rfl, rfl⟩)
      | (go_at_call 25; refine Hct.out.mono ?_; rintro e w1 ⟨rfl, rfl⟩))
    go_ret2
    exact lpost_none Hb1.out
  | true =>
    have hmost := (sin_iff _ _).1 hw
    have h1 : ¬ (most < 0 ∨ 1000000 < most) := by omega
    rw [hw] at Hwi
    cases hg : kgood keys most with
    | false =>
      have fin : ksF keys most = ([], 2) := by
        unfold ksF
        rw [if_neg h1, if_neg (by rw [hg]; decide)]
      rw [fin]
      rw [hg] at Hct
      clear fin hr hw h1 hmost
      go_enter Try.func11, Try.ntmps11
      go_wp2_with (first
        | (go_at_call 24; refine (Hwi.out _).mono ?_; rintro e w1 ⟨rfl, rfl⟩)
        | (go_at_call 25; refine Hct.out.mono ?_; rintro e w1 ⟨rfl, rfl⟩))
      go_ret2
      exact lpost_none Hb1.out
    | true =>
      have Fin : Hid (ksF keys most = (splc (slay (klt keys) n), 0)) := Lib.hid (by
        unfold ksF
        rw [if_neg h1, if_pos hg, en])
      have h0 := fun i h => (kgood_get hg i h).1
      have hkey : ∀ p ∈ List.range n, (keys.getD p 0).toNat ≤ 1000000 := fun p hp => by
        have hp' : p < keys.length := by rw [en]; exact List.mem_range.1 hp
        have := kgood_get hg p hp'
        rw [sgetD p hp']
        omega
      have Hkey := Lib.hid hkey
      have HK := Lib.hid fun W (hW : Below w.heap.size w W) => krow_keys en (hr.upto hW) h0
      have Hsrt : Hid (∀ m, (∀ p ∈ List.range n, (keys.getD p 0).toNat < m) → bks (fun p => (keys.getD p 0).toNat) (List.range n) m = slay (klt keys) n) := Lib.hid fun m h => by
        have := bks_sort keys h0 m (by rw [en]; exact h)
        rwa [en] at this
      rw [hg] at Hct
      have hni : (n : Int) ≤ 1000000 := by omega
      clear hr hw h1 hmost h0 hkey hg
      go_enter Try.func11, Try.ntmps11
      go_wp2_with (first
        | (go_at_call 24; refine (Hwi.out _).mono ?_; rintro e w1 ⟨rfl, rfl⟩)
        | (go_at_call 25; refine Hct.out.mono ?_; rintro e w1 ⟨rfl, rfl⟩)
        | (go_at_call 27; refine (s_upto_ex n _ (by omega)).mono ?_; rintro e w2 ⟨gU, rfl, hU, hb2⟩; have HU := Lib.hid hU; have Hb2 := Lib.hid (Hb1.out.trans (hb2.mono Hb1.out.size)); clear hU hb2)
        | (go_at_call 26; refine (s_sorted_int (List.range n) (fun p => (keys.getD p 0).toNat) _ A n n n c _ (List.length_range ..) (by omega) Hkey.out (gblk_ints HU.out (by rw [splc_len, List.length_range])) (HK.out _ Hb2.out)).mono ?_; rintro e w3 ⟨gS, M, rfl, _, hM, hS, hb3⟩; have HM := Lib.hid hM; have HS := Lib.hid hS; have Hb3 := Lib.hid (Hb2.out.trans (hb3.mono Hb2.out.size)); clear hM hS hb3))
      go_ret2
      rw [Fin.out, ← Hsrt.out M HM.out]
      exact lpost_blk (by rw [bks_all_len _ _ M HM.out, List.length_range]) HS.out Hb3.out

/-! ### Ranks -/
set_option maxRecDepth 100000 in
set_option maxHeartbeats 4000000 in
/-- slices.Repeat of one integer, no time. -/
theorem s_repeat_zero (x : Int) (A : Option Addr) (c : Nat) (w : World) (hr : Reads w w.heap.size 1 A 1 (ints [x])) :
    Calls Try.prog 28 #[.slice A 1 c, .int .i64 0] w fun e w' => ∃ g, e = .returned (.slice (some ⟨g, 0, none⟩) 0 0) ∧ w.heap.size ≤ g ∧ Blk w' g 3 (ints []).toArray ∧ Below w.heap.size w w' := by
  obtain ⟨b, off, rfl, hb, hc⟩ := hr.2 (by omega)
  have hmk := fun w => tmk_ints 0 0 rfl (by omega) w
  have Hz : Hid ((ints (List.replicate 0 0)) = []) := Lib.hid rfl
  clear hc hr
  go_enter Try.func28, Try.ntmps28
  go_wp2_with (first
    | (go_at_call 42; refine (tmul_one 0 (by omega) (by omega) _).mono ?_; rintro e w1 ⟨rfl, rfl⟩)
    | (refine wpList_copy_splice rfl _ _ _ _ rfl 3 Try.underlying22 (by kernel_rfl) _ _ 0 0 1 c rfl rfl w.heap.size 0 (ints (List.replicate 0 0)) 3 (Blk.new w _ _) [] ?c1 (fun h => absurd h (by simp)) ?c2 (fun u hu => by cases hu) w.heap.size w ((Below.refl _ _).alloc (Nat.le_refl _) _) (Nat.le_refl _) ?_))
  case c1 => rfl
  case c2 => simp [ints]
  intro w1 hb1 hB1
  have Hb1 : Hid (Blk w1 w.heap.size 3 (ints []).toArray) := Lib.hid (by
    have h9 := hb1.out
    exact h9)
  have HB1 := Lib.hid hB1
  clear hb1 hB1 hmk
  go_wp2
  go_loopw [8] (fun i wr => i = .int .i64 0 ∧ wr = w1) (fun _ _ => 0)
  case atStart => exact ⟨rfl, rfl⟩
  case round =>
    obtain ⟨rfl, rfl⟩ := hrel
    go_wp2
    go_ret
    exact ⟨_, rfl, Nat.le_refl _, Hb1.out, HB1.out⟩
theorem s_repeat_any (x : Int) (A : Option Addr) (c d : Nat) (w : World) (hd : d ≤ 1000000) (hr : Reads w w.heap.size 1 A 1 (ints [x])) :
    Calls Try.prog 28 #[.slice A 1 c, .int .i64 (d : Int)] w fun e w' => ∃ g, e = .returned (.slice (some ⟨g, 0, none⟩) d d) ∧ w.heap.size ≤ g ∧ Blk w' g 3 (ints (List.replicate d x)).toArray ∧ Below w.heap.size w w' := by
  cases d with
  | zero => exact s_repeat_zero x A c w hr
  | succ d => exact trepeat_any x A c (d + 1) w (by omega) hd hr

set_option maxRecDepth 100000 in
set_option maxHeartbeats 4000000 in
theorem p_sranks_any (a : List Int) (A : Option Addr) (n c : Nat) (w : World) (hm : n ≤ 1000000) (hr : Reads w w.heap.size 1 A n (ints a)) :
    Calls Try.prog 14 #[.slice A n c] w fun e w' => LPost w w' e (skF a) := by
  have en : a.length = n := by have := hr.1; rw [ints_length] at this; omega
  have hni : (n : Int) ≤ 1000000 := by omega
  have Hcell := Lib.hid (gcells hr)
  have En := Lib.hid en
  have Hone : Hid (Reads (w.alloc (.cells #[.int .i64 (-1)] 3)) (w.alloc (.cells #[.int .i64 (-1)] 3)).heap.size 1 (some ⟨w.heap.size, 0, none⟩) 1 (ints [-1])) := Lib.hid (gblk_ints (l := [-1]) (Blk.new w _ _) rfl)
  have Hb0 : Hid (Below w.heap.size w (w.alloc (.cells #[.int .i64 (-1)] 3))) := Lib.hid ((Below.refl _ _).alloc (Nat.le_refl _) _)
  have Hmid : Hid (List.replicate n (-1) = srk a 0) := Lib.hid (by rw [srk_zero, en])
  have Hwi := Lib.hid fun z W => s_within_any z ((n : Int) - 1) W
  clear hr en
  have hw0 : IntKind.i64.wrap ((n : Int) - 1) = (n : Int) - 1 := by rw [IntKind.wrap_i64]; omega
  go_enter Try.func14, Try.ntmps14
  go_wp2_with (go_at_call 28; refine (s_repeat_any (-1) _ _ n _ hm Hone.out).mono ?_; rintro e w1 ⟨g, rfl, hgw, hB, hb1⟩; rw [Hmid.out] at hB; have HB0 := Lib.hid hB; have HO0 := Lib.hid (Hb0.out.trans (hb1.mono Hb0.out.size)); have Hgw := Lib.hid (Nat.le_trans Hb0.out.size hgw); clear hB hb1 hgw)
  go_loopw [13] (fun i W => ∃ k2 : Nat, k2 ≤ n ∧ i = .int .i64 k2 ∧ Hid (∀ j, j < k2 → sok a j) ∧ Hid (Blk W g 3 (ints (srk a k2)).toArray) ∧ Hid (Below w.heap.size w W)) (fun i _ => n - (intOf i).toNat)
  case atStart => exact ⟨0, by omega, rfl, Lib.hid fun j hj => by omega, HB0, HO0⟩
  case round =>
    obtain ⟨q, hq, rfl, HK, HB, HO⟩ := hrel
    clear HB0 HO0
    by_cases hlt : q < n
    · have hqi : (q : Int) < (n : Int) := by omega
      have hql : q < a.length := by rw [En.out]; exact hlt
      obtain ⟨b, off, rfl, hbl, x1⟩ := Hcell.out _ HO.out q hql
      have hgd := sgetD q hql
      have hgl := HB.out.lt
      obtain ⟨x, hx⟩ : ∃ x, a[q] = x := ⟨_, rfl⟩
      rw [hx] at x1 hgd
      have Hwx := Lib.hid (Hwi.out x)
      by_cases h0 : 0 ≤ x ∧ x ≤ (n : Int) - 1
      · rw [(sin_iff _ _).2 h0] at Hwx
        obtain ⟨p, rfl⟩ := Int.eq_ofNat_of_zero_le h0.1
        have hpi : (0 : Int) ≤ (p : Int) ∧ (p : Int) < (n : Int) := by omega
        have hpl : p < (srk a q).length := by rw [srk_len, En.out]; omega
        have x2 := gblk_cell HB.out p hpl
        have x3 := HB.out.frozen p
        rw [srk_get] at x2
        by_cases h2 : (p : Int) ∈ a.take q
        · rw [if_pos h2] at x2
          have Hf := Lib.hid (sk_no q hql fun h => by
            obtain ⟨_, _, h3⟩ := h
            rw [hgd] at h3
            exact h3 h2)
          generalize (a.take q).idxOf (p : Int) = z at *
          have hz : (0 : Int) ≤ (z : Int) := by omega
          clear hgd hx h2 hql hpl h0
          go_wp2_with (go_at_call 24; refine (Hwx.out _).mono ?_; rintro e w2 ⟨rfl, rfl⟩)
          go_ret2
          rw [Hf.out]
          exact lpost_none HO.out
        · rw [if_neg h2] at x2
          have Hst := Lib.hid (srk_step a q p hql hx h2)
          have HK2 : Hid (∀ j, j < q + 1 → sok a j) := Lib.hid fun j hj => by
            by_cases e : j = q
            · subst e
              refine ⟨by omega, by rw [En.out]; omega, ?_⟩
              rw [hgd]
              exact h2
            · exact HK.out j (by omega)
          clear hgd hx h2 hql hpl h0
          go_wp2_with (go_at_call 24; refine (Hwx.out _).mono ?_; rintro e w2 ⟨rfl, rfl⟩)
          go_roundw
          case rel => exact ⟨q + 1, by omega, iv (by omega), HK2, Lib.hid (by rw [← Hst.out, ← gints_set]; exact HB.out.set_ p _), Lib.hid (HO.out.setCell (p := ⟨g, p, none⟩) Hgw.out _)⟩
          case measure => simp only [intOf]; omega
      · rw [sin_no _ _ h0] at Hwx
        have Hf := Lib.hid (sk_no q hql fun h => by
          obtain ⟨h3, h4, _⟩ := h
          rw [hgd] at h3 h4
          rw [En.out] at h4
          omega)
        clear hgd hx hql h0
        go_wp2_with (go_at_call 24; refine (Hwx.out _).mono ?_; rintro e w2 ⟨rfl, rfl⟩)
        go_ret2
        rw [Hf.out]
        exact lpost_none HO.out
    · obtain rfl : q = n := by omega
      have hii2 : ¬ (q : Int) < (q : Int) := by omega
      have Hf : Hid (skF a = (srk a q, 0)) := Lib.hid (by
        unfold skF
        rw [if_pos (sord_of fun i hi => HK.out i (by rw [← En.out]; exact hi)), En.out])
      go_wp2
      go_ret2
      rw [Hf.out]
      exact lpost_blk (by rw [srk_len, En.out]) HB.out HO.out

/-! ### Where the ends of a text stand -/
def sroF (s : List UInt8) (a : List Int) : List Int × Int := if a.length = s.length + 1 then skF a else ([], 2)
set_option maxRecDepth 100000 in
set_option maxHeartbeats 2000000 in
theorem s_ranksof_any (s : List UInt8) (a : List Int) (A : Option Addr) (n c : Nat) (w : World) (hs : s.length ≤ 1000000) (hm : n ≤ 1000000) (hr : Reads w w.heap.size 1 A n (ints a)) :
    Calls Try.prog 29 #[.string ⟨s.toArray⟩, .slice A n c] w fun e w' => LPost w w' e (sroF s a) := by
  have en : a.length = n := by have := hr.1; rw [ints_length] at this; omega
  have hni : (n : Int) ≤ 1000000 ∧ (s.length : Int) ≤ 1000000 := by omega
  by_cases hl : n = s.length + 1
  · have hle : ((n : Int) == (s.length : Int) + 1) = true := by rw [beq_iff_eq]; omega
    have hle3 : ((n : Int) != (s.length : Int) + 1) = false := by simp; omega
    have Hrk := Lib.hid (p_sranks_any a A n c w hm hr)
    have fin : sroF s a = skF a := if_pos (by omega)
    rw [fin]
    generalize (skF a) = F at *
    obtain ⟨L, E⟩ := F
    clear hr fin hl
    go_enter Try.func29, Try.ntmps29
    go_wp2_with (go_at_call 14; refine Hrk.out.mono ?_; unfold LPost; rintro e w2 ⟨A2, c2, rfl, hc2, hr2, hb2⟩; have Hb2 := Lib.hid hb2; have Hr2 := Lib.hid hr2; clear hb2 hr2)
    go_ret2
    exact ⟨_, _, rfl, hc2, Hr2.out, Hb2.out⟩
  · have hle : ((n : Int) == (s.length : Int) + 1) = false := by rw [beq_eq_false_iff_ne]; omega
    have hle3 : ((n : Int) != (s.length : Int) + 1) = true := by simp; omega
    have fin : sroF s a = ([], 2) := if_neg (by omega)
    rw [fin]
    clear hr fin hl
    go_enter Try.func29, Try.ntmps29
    go_wp2
    go_ret2
    exact lpost_none (Below.refl _ _)
end Go.Proofs.Ytngenehleelcmaa
