/-
  Layer 12: the document's own Find, for every text, row and what is looked for (ahead of the code's landing).
-/
import Derived.Test.YtngenehleelcmaaSufV
namespace Go.Proofs.Ytngenehleelcmaa
set_option linter.unusedSimpArgs false
set_option linter.unusedVariables false
open Go.ChangeShapes Go.WideShapes Go.ChangeAt Go.RowKit Go.Joins Go.Deep

/-- A call that returns a range and an error. -/
def SFPost (w w' : World) (e : Ending) (F : (Int × Int) × Int) : Prop := e = .returned (.tuple #[.agg #[.int .i64 F.1.1, .int .i64 F.1.2], .int .i64 F.2]) ∧ Below w.heap.size w w'
theorem sf_no {s : List UInt8} {a : List Int} {x : List UInt8} (h : ¬ (sordF a = true ∧ a.length = s.length + 1)) : sfF s a x = ((0, 0), 2) := if_pos h
theorem sf_big {s : List UInt8} {a : List Int} {x : List UInt8} (h : sordF a = true ∧ a.length = s.length + 1) (hb : 20000 < s.length) : sfF s a x = ((0, 0), 3) := by
  unfold sfF
  rw [if_neg (fun h2 => h2 h), if_pos hb]
theorem sf_yes {s : List UInt8} {a : List Int} {x : List UInt8} (h : sordF a = true ∧ a.length = s.length + 1) (hb : ¬ 20000 < s.length) (hu : sup s a = true) : sfF s a x = (sfr s a x a.length, 0) := by
  unfold sfF
  rw [if_neg (fun h2 => h2 h), if_neg hb, if_pos hu]
theorem sf_down {s : List UInt8} {a : List Int} {x : List UInt8} (h : sordF a = true ∧ a.length = s.length + 1) (hb : ¬ 20000 < s.length) (hu : ¬ sup s a = true) : sfF s a x = ((0, 0), 2) := by
  unfold sfF
  rw [if_neg (fun h2 => h2 h), if_neg hb, if_neg hu]
theorem sfr_hit {s : List UInt8} {a : List Int} {x : List UInt8} {k : Nat} (h : shit s a x k) : sfr s a x (k + 1) = (if (sfr s a x k).2 < (sfr s a x k).1 then (k : Int) else (sfr s a x k).1, (k : Int)) := if_pos h
theorem sfr_miss {s : List UInt8} {a : List Int} {x : List UInt8} {k : Nat} (h : ¬ shit s a x k) : sfr s a x (k + 1) = sfr s a x k := if_neg h
theorem shit_at {s : List UInt8} {a : List Int} {x : List UInt8} {k p : Nat} (hk : k < a.length) (hp : a[k] = (p : Int)) : shit s a x k ↔ alike (s.drop p) x = x.length := by
  unfold shit
  rw [sgetD k hk, hp, Int.toNat_natCast]

set_option maxRecDepth 100000 in
set_option maxHeartbeats 4000000 in
theorem sref_find_any (s : List UInt8) (a : List Int) (x : List UInt8) (A : Option Addr) (n c : Nat) (w : World) (hs : s.length ≤ 1000000) (hx : x.length ≤ 1000000) (hm : n ≤ 1000000) (hr : Reads w w.heap.size 1 A n (ints a)) :
    Calls Try.prog 19 #[.string ⟨s.toArray⟩, .slice A n c, .string ⟨x.toArray⟩] w fun e w' => SFPost w w' e (sfF s a x) := by
  have hb0 : Below w.heap.size w (w.alloc (.cells #[.int .i64 0, .int .i64 0] 38)) := (Below.refl _ _).alloc (Nat.le_refl _) _
  have hrk := sref_ranks_any a A n c (w.alloc (.cells #[.int .i64 0, .int .i64 0] 38)) hm (hr.upto hb0)
  have en : a.length = n := by have := hr.1; rw [ints_length] at this; omega
  have hni : (n : Int) ≤ 1000000 ∧ (s.length : Int) ≤ 1000000 ∧ (x.length : Int) ≤ 1000000 := by omega
  have Hb0 := Lib.hid hb0
  have HZ := Lib.hid (Blk.new w 38 #[.int .i64 0, .int .i64 0])
  clear hb0
  have Hsz0 : Hid (w.heap.size ≤ (w.alloc (.cells #[.int .i64 0, .int .i64 0] 38)).heap.size) := Lib.hid (by simp)
  generalize hg : w.heap.size = g at *
  by_cases ho : sordF a = true
  · rw [sk_yes ho] at hrk
    by_cases hl : n = s.length + 1
    · have hle : ((n : Int) == (s.length : Int) + 1) = true := by rw [beq_iff_eq]; omega
      have hle3 : ((n : Int) != (s.length : Int) + 1) = false := by simp; omega
      by_cases hbig : 20000 < s.length
      · rw [sf_big ⟨ho, by omega⟩ hbig]
        have hbi : (20000 : Int) < (s.length : Int) := by omega
        have Hrk := Lib.hid hrk
        clear hrk ho hr en hs hl hbig
        go_enter Try.func19, Try.ntmps19
        go_wp2_with (go_at_call 15; refine Hrk.out.mono ?_; unfold LPost; rintro e w2 ⟨A2, c2, rfl, _, _, hb2⟩; have Hb2 := Lib.hid (Hb0.out.trans (hb2.mono Hsz0.out)); have HZ2 := Lib.hid (HZ.out.below hb2 HZ.out.lt); obtain ⟨d1, d2, d3, d4⟩ := Blk.two HZ2.out; clear hb2 Hrk)
        refine bodyPost_ret (v := .tuple #[.agg #[.int .i64 0, .int .i64 0], .int .i64 3]) (by simp [results, Try.results19, go_sem, d1, d2]) rfl ⟨rfl, ?_⟩
        subst hg
        exact (Hb2.out.setCell (p := ⟨w.heap.size, 0, none⟩) (Nat.le_refl _) _).setCell (p := ⟨w.heap.size, 1, none⟩) (Nat.le_refl _) _
      · have hbi : ¬ (20000 : Int) < (s.length : Int) := by omega
        have hr' : Reads w w.heap.size 1 A n (ints a) := by rw [hg]; exact hr
        obtain ⟨bA, oA, rfl, hbA, hcA⟩ := gcells_at hr' (show 0 < n by omega)
        rw [hg] at hcA
        clear hr'
        have HcA := Lib.hid hcA
        have Hrk := Lib.hid hrk
        have Hat := Lib.hid (sord_at ho)
        have Hst : Hid (∀ p, p ≤ s.length → ∀ w, (Instr.slice 9 (.string ⟨s.toArray⟩) (some (.int .i64 (p : Int))) none none).run Try.prog w = .ok (.string ⟨(s.drop p).toArray⟩) w) := Lib.hid fun p hp w => str_from s p hp w
        have htl : ∀ l : List UInt8, (ByteArray.mk l.toArray).toList = l := fun l => by rw [Lib.toList_data]
        have En := Lib.hid en
        have Hl := Lib.hid hl
        have hn1 : 1 ≤ n := by omega
        have Hdown := Lib.hid fun hu => sf_down (x := x) ⟨ho, by omega⟩ hbig hu
        have Hyes := Lib.hid fun hu => sf_yes (x := x) ⟨ho, by omega⟩ hbig hu
        have Hal := Lib.hid fun (p : Nat) (W : World) => sref_alike_any (s.drop p) x W (by rw [List.length_drop]; omega) (by omega)
        clear hrk ho hr hcA en hs hl hbig
        generalize hFF : sfF s a x = FF at *
        clear hFF
        go_enter Try.func19, Try.ntmps19
        go_wp2_with (go_at_call 15; refine Hrk.out.mono ?_; unfold LPost; rintro e w2 ⟨A2, c2, rfl, _, _, hb2⟩; have Hb2 := Lib.hid (Hb0.out.trans (hb2.mono Hsz0.out)); have HZ2 := Lib.hid (HZ.out.below hb2 HZ.out.lt); obtain ⟨d1, d2, d3, d4⟩ := Blk.two HZ2.out; clear hb2 Hrk)
        go_loopw [10] (fun i wr => ∃ k m : Nat, k + 1 = m ∧ m ≤ n ∧ i = .int .i64 (m : Int) ∧ Hid (∀ i, i < m → i ≠ 0 → slt s (a.getD (i - 1) 0).toNat (a.getD i 0).toNat = true) ∧ Hid (Blk wr g 38 #[.int .i64 0, .int .i64 0]) ∧ Hid (Below g w wr)) (fun i _ => n - (intOf i).toNat)
        case atStart => exact ⟨0, 1, rfl, hn1, rfl, Lib.hid fun i h1 h2 => by omega, HZ2, Hb2⟩
        case round =>
          obtain ⟨k, m, hkm, hm2, rfl, HU, HZ3, HB⟩ := hrel
          clear HZ2 Hb2
          obtain ⟨d1, d2, d3, d4⟩ := Blk.two HZ3.out
          by_cases hlt : m < n
          · have hki : (m : Int) < (n : Int) := by omega
            have hk1 : m < a.length := by rw [En.out]; omega
            obtain ⟨p, hp, hpn⟩ := Hat.out m hk1
            obtain ⟨q, hq, hqn⟩ := Hat.out k (by omega)
            rw [En.out] at hpn hqn
            have hlo := Hl.out
            have x1 := HcA.out wr HB.out m hk1
            have x2 := HcA.out wr HB.out k (by omega)
            rw [hp] at x1
            rw [hq] at x2
            have hsp := Hst.out p (by omega)
            have hsq := Hst.out q (by omega)
            have hsub : (m : Int) - 1 = (k : Int) := by omega
            have hw1 : IntKind.i64.wrap ((m : Int) - 1) = (k : Int) := by rw [IntKind.wrap_i64]; omega
            have hw2 : IntKind.i64.wrap (k : Int) = (k : Int) := by rw [IntKind.wrap_i64]; omega
            have hki2 : (0 : Int) ≤ (k : Int) ∧ (k : Int) < (n : Int) ∧ (0 : Int) ≤ (m : Int) := by omega
            have hpe : a.getD m 0 = (p : Int) := by rw [sgetD m hk1, hp]
            have hqe : a.getD (m - 1) 0 = (q : Int) := by rw [show m - 1 = k from by omega, sgetD k (by omega), hq]
            have hb0 : Op.bytesLess (s.drop q) (s.drop p) = slt s q p := rfl
            cases hd : slt s q p with
            | true =>
              rw [hd] at hb0
              have HU2 : Hid (∀ i, i < m + 1 → i ≠ 0 → slt s (a.getD (i - 1) 0).toNat (a.getD i 0).toNat = true) := Lib.hid fun i h1 h2 => by
                by_cases e : i = m
                · subst e
                  rw [hpe, hqe, Int.toNat_natCast, Int.toNat_natCast]
                  exact hd
                · exact HU.out i (by omega) h2
              clear hp hq hk1 hpn hqn hlo hpe hqe hd hkm
              go_wp2
              go_quiet (fail)
              go_wp2
              go_roundw
              case rel => exact ⟨m, m + 1, rfl, by omega, iv (by omega), HU2, Lib.hid (HZ3.out.drewN _), Lib.hid (below_drewN HB.out _)⟩
              case measure => simp only [intOf]; omega
            | false =>
              rw [hd] at hb0
              have Hf := Lib.hid (Hdown.out fun hu => by
                have := sup_get hu m hk1 (by omega)
                rw [hpe, hqe, Int.toNat_natCast, Int.toNat_natCast, hd] at this
                cases this)
              clear hp hq hk1 hpn hqn hlo hpe hqe hd hkm
              go_wp2
              go_quiet (fail)
              go_wp2
              rw [Hf.out]
              refine bodyPost_ret (v := .tuple #[.agg #[.int .i64 0, .int .i64 0], .int .i64 2]) (by simp [results, Try.results19, go_sem, d1, d2]) rfl ⟨rfl, ?_⟩
              subst hg
              exact ((below_drewN HB.out _).setCell (p := ⟨w.heap.size, 0, none⟩) (Nat.le_refl _) _).setCell (p := ⟨w.heap.size, 1, none⟩) (Nat.le_refl _) _
          · obtain rfl : m = n := by omega
            have hii : ¬ (m : Int) < (m : Int) := by omega
            have hf := Hyes.out (sup_of fun i h1 h2 => HU.out i (by rw [← En.out]; exact h1) h2)
            rw [En.out] at hf
            have Hf := Lib.hid hf
            clear hf hkm
            have HR0 : Hid (Blk (wr.alloc (.cells #[.int .i64 1, .int .i64 0] 38)) wr.heap.size 38 #[.int .i64 (sfr s a x 0).1, .int .i64 (sfr s a x 0).2]) := Lib.hid (Blk.new wr _ _)
            have HZ4 := Lib.hid (HZ3.out.alloc (.cells #[.int .i64 1, .int .i64 0] 38))
            have hgw : g < wr.heap.size := HZ3.out.lt
            have HB4 := Lib.hid (HB.out.alloc (Nat.le_of_lt hgw) (.cells #[.int .i64 1, .int .i64 0] 38))
            clear HZ3 HB d1 d2 d3 d4
            go_wp2
            generalize wr.alloc (.cells #[.int .i64 1, .int .i64 0] 38) = wz at *
            generalize hg2 : wr.heap.size = g2 at *
            have Hgg := Lib.hid hgw
            clear hgw hg2
            go_loopw [12] (fun i W => ∃ k2 : Nat, k2 ≤ m ∧ i = .int .i64 (k2 : Int) ∧ Hid (Blk W g2 38 #[.int .i64 (sfr s a x k2).1, .int .i64 (sfr s a x k2).2]) ∧ Hid (Blk W g 38 #[.int .i64 0, .int .i64 0]) ∧ Hid (Below g w W)) (fun i _ => m - (intOf i).toNat)
            case atStart => exact ⟨0, by omega, rfl, HR0, HZ4, HB4⟩
            case round =>
              obtain ⟨k2, hk2, rfl, HR, HZ5, HB5⟩ := hrel
              clear HR0 HZ4 HB4
              have Hsz5 : Hid (g ≤ wr.heap.size) := Lib.hid (Nat.le_of_lt HZ5.out.lt)
              obtain ⟨u, hu⟩ : ∃ u, (sfr s a x k2).1 = u := ⟨_, rfl⟩
              obtain ⟨v, hv⟩ : ∃ v, (sfr s a x k2).2 = v := ⟨_, rfl⟩
              rw [hu, hv] at HR
              have Huv : Hid (sfr s a x k2 = (u, v)) := Lib.hid (by rw [← hu, ← hv])
              clear hu hv
              by_cases hlt2 : k2 < m
              · have hki2 : (k2 : Int) < (m : Int) := by omega
                have hk1 : k2 < a.length := by rw [En.out]; exact hlt2
                obtain ⟨p, hp, hpn⟩ := Hat.out k2 hk1
                rw [En.out] at hpn
                have hlo := Hl.out
                have x1 := HcA.out wr HB5.out k2 hk1
                rw [hp] at x1
                have hsp := Hst.out p (by omega)
                have hal := fun W => Hal.out p W
                have hsh := shit_at (s := s) (x := x) hk1 hp
                obtain ⟨z, hz⟩ : ∃ z : Nat, alike (s.drop p) x = z := ⟨_, rfl⟩
                rw [hz] at hal hsh
                have Hal2 := Lib.hid hal
                have Hsh := Lib.hid hsh
                clear hal hsh hz hp hk1 hpn hlo
                by_cases hzx : z = x.length
                · have b1 : ((z : Int) == (x.length : Int)) = true := by rw [beq_iff_eq]; omega
                  have hst2 := sfr_hit (Hsh.out.2 hzx)
                  rw [Huv.out] at hst2
                  dsimp only at hst2
                  by_cases hvu : v < u
                  · rw [if_pos hvu] at hst2
                    have Hst2 := Lib.hid hst2
                    clear hst2 hzx
                    go_wp2_with (go_at_call 31; refine (Hal2.out _).mono ?_; rintro e w6 ⟨rfl, hb6⟩; have HB6 := Lib.hid (HB5.out.trans (hb6.mono Hsz5.out)); have HR6 := Lib.hid (HR.out.below hb6 HR.out.lt); have HZ6 := Lib.hid (HZ5.out.below hb6 HZ5.out.lt); have hg6 := HR6.out.lt; obtain ⟨e1, e2, e3, e4⟩ := Blk.two HR6.out; clear hb6)
                    go_roundw
                    case rel => exact ⟨k2 + 1, by omega, iv (by omega), Lib.hid (by rw [Hst2.out]; exact (HR6.out.set_ 0 _).set_ 1 _), Lib.hid ((HZ6.out.far (by have := Hgg.out; show g ≠ g2; omega) _).far (by have := Hgg.out; show g ≠ g2; omega) _), Lib.hid ((HB6.out.setCell (p := ⟨g2, 0, none⟩) (Nat.le_of_lt Hgg.out) _).setCell (p := ⟨g2, 1, none⟩) (Nat.le_of_lt Hgg.out) _)⟩
                    case measure => simp only [intOf]; omega
                  · rw [if_neg hvu] at hst2
                    have Hst2 := Lib.hid hst2
                    clear hst2 hzx
                    go_wp2_with (go_at_call 31; refine (Hal2.out _).mono ?_; rintro e w6 ⟨rfl, hb6⟩; have HB6 := Lib.hid (HB5.out.trans (hb6.mono Hsz5.out)); have HR6 := Lib.hid (HR.out.below hb6 HR.out.lt); have HZ6 := Lib.hid (HZ5.out.below hb6 HZ5.out.lt); have hg6 := HR6.out.lt; obtain ⟨e1, e2, e3, e4⟩ := Blk.two HR6.out; clear hb6)
                    go_roundw
                    case rel => exact ⟨k2 + 1, by omega, iv (by omega), Lib.hid (by rw [Hst2.out]; exact HR6.out.set_ 1 _), Lib.hid (HZ6.out.far (by have := Hgg.out; show g ≠ g2; omega) _), Lib.hid (HB6.out.setCell (p := ⟨g2, 1, none⟩) (Nat.le_of_lt Hgg.out) _)⟩
                    case measure => simp only [intOf]; omega
                · have b1 : ((z : Int) == (x.length : Int)) = false := by rw [beq_eq_false_iff_ne]; omega
                  have hst2 := sfr_miss (fun h => hzx (Hsh.out.1 h))
                  rw [Huv.out] at hst2
                  have Hst2 := Lib.hid hst2
                  have hzi : ¬ (z : Int) = (x.length : Int) := by omega
                  clear hst2 hzx
                  go_wp2_with (go_at_call 31; refine (Hal2.out _).mono ?_; rintro e w6 ⟨rfl, hb6⟩; have HB6 := Lib.hid (HB5.out.trans (hb6.mono Hsz5.out)); have HR6 := Lib.hid (HR.out.below hb6 HR.out.lt); have HZ6 := Lib.hid (HZ5.out.below hb6 HZ5.out.lt); have hg6 := HR6.out.lt; obtain ⟨e1, e2, e3, e4⟩ := Blk.two HR6.out; clear hb6)
                  go_roundw
                  case rel => exact ⟨k2 + 1, by omega, iv (by omega), Lib.hid (by rw [Hst2.out]; exact HR6.out), HZ6, HB6⟩
                  case measure => simp only [intOf]; omega
              · obtain rfl : k2 = m := by omega
                have hii2 : ¬ (k2 : Int) < (k2 : Int) := by omega
                obtain ⟨d1, d2, d3, d4⟩ := Blk.two HZ5.out
                obtain ⟨e1, e2, e3, e4⟩ := Blk.two HR.out
                go_wp2
                rw [Hf.out, Huv.out]
                refine bodyPost_ret (v := .tuple #[.agg #[.int .i64 u, .int .i64 v], .int .i64 0]) (by simp [results, Try.results19, go_sem, d1, d2, e1, e2]) rfl ⟨rfl, ?_⟩
                subst hg
                exact (HB5.out.setCell (p := ⟨w.heap.size, 0, none⟩) (Nat.le_refl _) _).setCell (p := ⟨w.heap.size, 1, none⟩) (Nat.le_refl _) _
    · have hle : ((n : Int) == (s.length : Int) + 1) = false := by rw [beq_eq_false_iff_ne]; omega
      have hle3 : ((n : Int) != (s.length : Int) + 1) = true := by simp; omega
      rw [sf_no (fun h => hl (by omega))]
      have Hrk := Lib.hid hrk
      clear hrk ho hr en hs hl
      go_enter Try.func19, Try.ntmps19
      go_wp2_with (go_at_call 15; refine Hrk.out.mono ?_; unfold LPost; rintro e w2 ⟨A2, c2, rfl, _, _, hb2⟩; have Hb2 := Lib.hid (Hb0.out.trans (hb2.mono Hsz0.out)); have HZ2 := Lib.hid (HZ.out.below hb2 HZ.out.lt); obtain ⟨d1, d2, d3, d4⟩ := Blk.two HZ2.out; clear hb2 Hrk)
      refine bodyPost_ret (v := .tuple #[.agg #[.int .i64 0, .int .i64 0], .int .i64 2]) (by simp [results, Try.results19, go_sem, d1, d2]) rfl ⟨rfl, ?_⟩
      subst hg
      exact (Hb2.out.setCell (p := ⟨w.heap.size, 0, none⟩) (Nat.le_refl _) _).setCell (p := ⟨w.heap.size, 1, none⟩) (Nat.le_refl _) _
  · rw [sk_bad ho] at hrk
    rw [sf_no (fun h => ho h.1)]
    have Hrk := Lib.hid hrk
    clear hrk ho hr en hs
    go_enter Try.func19, Try.ntmps19
    go_wp2_with (go_at_call 15; refine Hrk.out.mono ?_; unfold LPost; rintro e w2 ⟨A2, c2, rfl, _, _, hb2⟩; have Hb2 := Lib.hid (Hb0.out.trans (hb2.mono Hsz0.out)); have HZ2 := Lib.hid (HZ.out.below hb2 HZ.out.lt); obtain ⟨d1, d2, d3, d4⟩ := Blk.two HZ2.out; clear hb2 Hrk)
    refine bodyPost_ret (v := .tuple #[.agg #[.int .i64 0, .int .i64 0], .int .i64 2]) (by simp [results, Try.results19, go_sem, d1, d2]) rfl ⟨rfl, ?_⟩
    subst hg
    exact (Hb2.out.setCell (p := ⟨w.heap.size, 0, none⟩) (Nat.le_refl _) _).setCell (p := ⟨w.heap.size, 1, none⟩) (Nat.le_refl _) _
end Go.Proofs.Ytngenehleelcmaa
