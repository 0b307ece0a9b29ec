/-
  Layer 12: places sorted by keys that are bytes, for every row.
-/
import Derived.Test.YtjdpogaaookoeaaSufJ
import Derived.Test.YtjdpogaaookoeaaInts
import Derived.Laws.EntriesVeiled
namespace Go.Proofs.Ytjdpogaaookoeaa
set_option linter.unusedSimpArgs false
set_option linter.unusedVariables false
open Go.ChangeShapes Go.WideShapes Go.ChangeAt Go.RowKit Go.Joins Go.Deep


set_option maxRecDepth 100000 in
set_option maxHeartbeats 4000000 in
theorem s_sorted_byte (row : List Nat) (key : Nat → Nat) (A B : Option Addr) (n c m d : Nat) (w : World) (hn : row.length = n) (hm : n ≤ 1000001) (hkey : ∀ p ∈ row, key p ≤ 255) (hr : Reads w w.heap.size 1 A n (ints (splc row))) (hk : KRow w .u8 key B m row) :
    Calls Try.prog 28 #[.slice A n c, .slice B m d] w fun e w' => ∃ g M, e = .returned (.slice (some ⟨g, 0, none⟩) n n) ∧ w.heap.size ≤ g ∧ (∀ p ∈ row, key p < M) ∧ Blk w' g 3 (ints (splc (bks key row M))).toArray ∧ Below w.heap.size w w' := by
  have hni : (n : Int) ≤ 1000001 := by omega
  have Hrow := Lib.hid (srow_cells hn hr)
  have Hkey := Lib.hid (hk.at fun p hp => Nat.le_trans (hkey p hp) (by omega))
  have Hmx := Lib.hid (bmax_le key row 255 hkey)
  have Hall := Lib.hid (bmax_all key row)
  have Hstep := Lib.hid (bmax_step key row)
  have Hn := Lib.hid hn
  have HB0 := Lib.hid (Below.refl w.heap.size w)
  have Hg0 : Hid (∀ W : World, Below w.heap.size w W → w.heap.size ≤ W.heap.size) := Lib.hid fun W h => h.size
  clear hr hk hkey hn
  go_enter Try.func28, Try.ntmps28
  go_wp2
  go_loop [5, 18] (fun mx i => ∃ k : Nat, k ≤ n ∧ i = .int .i64 k ∧ mx = .int .u8 (bmax key row k : Nat)) (fun _ i => n - (intOf i).toNat)
  case atStart => exact ⟨0, by omega, rfl, rfl⟩
  case round =>
    obtain ⟨k, hk, rfl, rfl⟩ := hrel
    by_cases hlt : k < n
    · have hki : (0 : Int) ≤ (k : Int) ∧ (k : Int) < (n : Int) := by omega
      have hkl : k < row.length := by rw [Hn.out]; exact hlt
      obtain ⟨b, off, rfl, hbl, x1⟩ := Hrow.out w HB0.out k hkl
      obtain ⟨hp, hx, _, b2, off2, rfl, hbl2, x2⟩ := Hkey.out w HB0.out k hkl
      have Hs := Lib.hid (Hstep.out k hkl)
      generalize row[k] = p at *
      generalize key p = x at *
      generalize bmax key row k = mx at *
      have hpi : (0 : Int) ≤ (p : Int) ∧ (p : Int) < (m : Int) := by omega
      by_cases hgt : mx < x
      · have hgi : (mx : Int) < (x : Int) := by omega
        go_wp2
        go_round
        case rel => exact ⟨k + 1, by omega, iv (by omega), iv (by rw [Hs.out]; omega)⟩
        case measure => simp only [intOf]; omega
      · have hgi : ¬ (mx : Int) < (x : Int) := by omega
        go_wp2
        go_round
        case rel => exact ⟨k + 1, by omega, iv (by omega), iv (by rw [Hs.out]; omega)⟩
        case measure => simp only [intOf]; omega
    · obtain rfl : k = n := by omega
      have hmx := Hmx.out k (by rw [Hn.out]; exact Nat.le_refl _)
      have Hmxn : Hid (bmax key row row.length = bmax key row k) := Lib.hid (by rw [Hn.out])
      generalize hMX : bmax key row k = mx at *
      have hmk := fun w => gmk_ints ((mx : Int) + 2) (mx + 2) (by omega) (by omega) w
      rw [← bn1_zero key row mx] at hmk
      have hmxi : (0 : Int) ≤ (mx : Int) ∧ (mx : Int) ≤ 255 := by omega
      have HB1 := Lib.hid (Blk.new w 3 (ints (bn1 key row mx 0)).toArray)
      have HO1 := Lib.hid ((Below.refl w.heap.size w).alloc (Nat.le_refl _) (.cells (ints (bn1 key row mx 0)).toArray 3))
      have hii : ¬ (k : Int) < (k : Int) := by omega
      generalize hg : w.heap.size = g at *
      go_wp2
      clear hmk
      go_loopw [35] (fun i wr => ∃ j : Nat, j ≤ k ∧ i = .int .i64 j ∧ Hid (Blk wr g 3 (ints (bn1 key row mx j)).toArray) ∧ Hid (Below g w wr)) (fun i _ => k - (intOf i).toNat)
      case atStart => exact ⟨0, by omega, rfl, HB1, HO1⟩
      case round =>
        obtain ⟨j, hj, rfl, HB, HO⟩ := hrel
        clear HB1 HO1
        by_cases hlt : j < k
        · have hki : (0 : Int) ≤ (j : Int) ∧ (j : Int) < (k : Int) := by omega
          have hkl : j < row.length := by rw [Hn.out]; exact hlt
          obtain ⟨b, off, rfl, hbl, x1⟩ := Hrow.out wr HO.out j hkl
          obtain ⟨hp, hx, hxm, b2, off2, rfl, hbl2, x2⟩ := Hkey.out wr HO.out j hkl
          rw [Hmxn.out] at hxm
          have hlen : key row[j] + 1 < (bn1 key row mx j).length := by rw [bn1_len]; omega
          have x3 := gblk_cell HB.out (key row[j] + 1) hlen
          rw [bn1_get] at x3
          have x4 := HB.out.frozen (key row[j] + 1)
          have hc := Nat.le_trans (bcnt_take_le key row j (key row[j])) (bcnt_le key row (key row[j]))
          rw [Hn.out] at hc
          have Hs := Lib.hid (bn1_step key row mx j hkl)
          have hgl := HB.out.lt
          clear hlen
          generalize bcnt key (row.take j) (key row[j]) = cc at *
          generalize hpp : row[j] = p at *
          generalize key p = x at *
          have hpi : (0 : Int) ≤ (p : Int) ∧ (p : Int) < (m : Int) := by omega
          have hci : (0 : Int) ≤ (cc : Int) ∧ (cc : Int) ≤ 1000001 := by omega
          have hxi : (0 : Int) ≤ (x : Int) ∧ (x : Int) ≤ (mx : Int) := by omega
          clear hpp
          go_wp2
          go_roundw
          case rel => exact ⟨j + 1, by omega, iv (by omega), Lib.hid (by rw [← Hs.out, ← gints_set]; exact HB.out.set_ (x + 1) _), Lib.hid (HO.out.setCell (p := ⟨g, x + 1, none⟩) (Nat.le_refl _) _)⟩
          case measure => simp only [intOf]; omega
        · obtain rfl : j = k := by omega
          have hii : ¬ (j : Int) < (j : Int) := by omega
          have HB2 : Hid (Blk wr g 3 (ints (bn2 key row mx 0)).toArray) := Lib.hid (by rw [← bn1_all, Hn.out]; exact HB.out)
          have HO2 := Lib.hid HO.out
          clear HB HO
          go_wp2
          go_loopw [53] (fun i W => ∃ q : Nat, q ≤ mx ∧ i = .int .i64 q ∧ Hid (Blk W g 3 (ints (bn2 key row mx q)).toArray) ∧ Hid (Below g w W)) (fun i _ => mx - (intOf i).toNat)
          case atStart => exact ⟨0, by omega, rfl, HB2, HO2⟩
          case round =>
            obtain ⟨q, hq, rfl, HB, HO⟩ := hrel
            clear HB2 HO2
            by_cases hlt : q < mx
            · have hki : (0 : Int) ≤ (q : Int) ∧ (q : Int) < (mx : Int) := by omega
              have x1 := gblk_cell HB.out (q + 1) (by rw [bn2_len]; omega)
              have x2 := gblk_cell HB.out q (by rw [bn2_len]; omega)
              rw [bn2_get1] at x1
              rw [bn2_get0] at x2
              have x4 := HB.out.frozen (q + 1)
              have hc := bcnt_le key row q
              have hc2 := bsum_le key row q
              rw [Hn.out] at hc hc2
              have Hs := Lib.hid (bn2_step key row mx q)
              have hgl := HB.out.lt
              generalize bcnt key row q = cc at *
              generalize bsum key row q = cs at *
              have hci : (0 : Int) ≤ (cc : Int) ∧ (cc : Int) ≤ 1000001 ∧ (0 : Int) ≤ (cs : Int) ∧ (cs : Int) ≤ 1000001 := by omega
              go_wp2
              have hw1 : IntKind.i64.wrap ((q : Int) + 1) = (q : Int) + 1 := by rw [IntKind.wrap_i64]; omega
              have hw2 : IntKind.i64.wrap ((cc : Int) + (cs : Int)) = (cc : Int) + (cs : Int) := by rw [IntKind.wrap_i64]; omega
              have hb1 : 0 ≤ (q : Int) + 1 ∧ (q : Int) + 1 < (mx : Int) + 2 := by omega
              have hb0 : 0 ≤ (q : Int) ∧ (q : Int) < (mx : Int) + 2 := by omega
              refine wp_region_still_tail 11 (by kernel_rfl) (by kernel_rfl) ?_
              simp only [List.take_succ_cons, List.take_zero, List.drop_succ_cons, List.drop_zero]
              change wpStill _ _ (World.drew _) (fun a' => wpList _ _ _ _ a' (World.drew _)) _ _
              repeat still_step
              refine wpStill_nil ?_
              go_wp2
              go_roundw
              case rel => exact ⟨q + 1, by omega, iv (by omega), Lib.hid (by rw [← Hs.out, ← gints_set]; exact HB.out.drew.set_ (q + 1) _), Lib.hid (HO.out.drew.setCell (p := ⟨g, q + 1, none⟩) (Nat.le_refl _) _)⟩
              case measure => simp only [intOf]; omega
            · obtain rfl : q = mx := by omega
              have hii2 : ¬ (q : Int) < (q : Int) := by omega
              have HB3 : Hid (Blk wr g 3 (ints (bn3 key row q 0)).toArray) := Lib.hid (by rw [← bn2_all]; exact HB.out)
              have HO3 := Lib.hid HO.out
              have hmk2 := fun w => gmk_ints (j : Int) j rfl (by omega) w
              have e2 : List.replicate j 0 = bmid key row 0 (q + 1) := by
                rw [bmid_zero, bsum_all key row (q + 1) (fun p hp => by have := Hall.out p hp; rw [Hmxn.out] at this; exact this), Hn.out]
              rw [e2] at hmk2
              clear HB HO
              have hgl := HB3.out.lt
              have HN := Lib.hid (Blk.new wr 3 (ints (bmid key row 0 (q + 1))).toArray)
              have HB4 := Lib.hid (HB3.out.alloc (.cells (ints (bmid key row 0 (q + 1))).toArray 3))
              have HO4 := Lib.hid (HO3.out.alloc (Nat.le_of_lt hgl) (.cells (ints (bmid key row 0 (q + 1))).toArray 3))
              generalize hg2 : wr.heap.size = g2 at *
              clear HB3 HO3
              go_wp2
              clear hmk2 e2
              go_loopw [73] (fun i V => ∃ u : Nat, u ≤ j ∧ i = .int .i64 u ∧ Hid (Blk V g 3 (ints (bn3 key row q u)).toArray) ∧ Hid (Blk V g2 3 (ints (bmid key row u (q + 1))).toArray) ∧ Hid (Below g w V)) (fun i _ => j - (intOf i).toNat)
              case atStart => exact ⟨0, by omega, rfl, HB4, HN, HO4⟩
              case round =>
                obtain ⟨u, hu, rfl, HB, HC, HO⟩ := hrel
                clear HB4 HN HO4
                by_cases hlt : u < j
                · have hki : (0 : Int) ≤ (u : Int) ∧ (u : Int) < (j : Int) := by omega
                  have hkl : u < row.length := by rw [Hn.out]; exact hlt
                  obtain ⟨b, off, rfl, hbl, x1⟩ := Hrow.out _ HO.out u hkl
                  obtain ⟨hp, hx, hxm, b2, off2, rfl, hbl2, x2⟩ := Hkey.out _ HO.out u hkl
                  rw [Hmxn.out] at hxm
                  have hpl := bplace_lt key row u hkl
                  rw [Hn.out] at hpl
                  have x3 := gblk_cell HB.out (key row[u]) (by rw [bn3_len]; omega)
                  rw [bn3_get key row q u _ hxm] at x3
                  have x4 := HB.out.frozen (key row[u])
                  have hml : (bmid key row u (q + 1)).length = j := by
                    rw [bmid_len, bsum_all key row (q + 1) (fun p hp => by have := Hall.out p hp; rw [Hmxn.out] at this; exact this), Hn.out]
                  have x5 := gblk_cell HC.out (bsum key row (key row[u]) + bcnt key (row.take u) (key row[u])) (by rw [hml]; exact hpl)
                  have x6 := HC.out.frozen (bsum key row (key row[u]) + bcnt key (row.take u) (key row[u]))
                  have Hs := Lib.hid (bn3_step key row q u hkl hxm)
                  have Hs2 := Lib.hid (bmid_step key row u hkl (q + 1) (by omega))
                  have hgl := HB.out.lt
                  have hgl2 := HC.out.lt
                  generalize (bmid key row u (q + 1))[bsum key row (key row[u]) + bcnt key (row.take u) (key row[u])]'(by rw [hml]; exact hpl) = vv at x5
                  generalize bsum key row (key row[u]) + bcnt key (row.take u) (key row[u]) = at_ at *
                  generalize hpp : row[u] = p at *
                  generalize key p = x at *
                  have hpi : (0 : Int) ≤ (p : Int) ∧ (p : Int) < (m : Int) := by omega
                  have hci : (0 : Int) ≤ (at_ : Int) ∧ (at_ : Int) < (j : Int) := by omega
                  have hxi : (0 : Int) ≤ (x : Int) ∧ (x : Int) ≤ (q : Int) := by omega
                  have hne : g ≠ g2 := by omega
                  have hne2 : g2 ≠ g := by omega
                  clear hpp hml
                  go_wp2
                  go_roundw
                  case rel => exact ⟨u + 1, by omega, iv (by omega), Lib.hid (by rw [← Hs.out, ← gints_set]; exact (HB.out.far (p := ⟨g2, at_, none⟩) hne _).set_ x _), Lib.hid (by rw [← Hs2.out, ← gints_set]; exact (HC.out.set_ at_ _).far (p := ⟨g, x, none⟩) hne2 _), Lib.hid ((HO.out.setCell (p := ⟨g2, at_, none⟩) (by show g ≤ g2; omega) _).setCell (p := ⟨g, x, none⟩) (Nat.le_refl _) _)⟩
                  case measure => simp only [intOf]; omega
                · obtain rfl : u = j := by omega
                  have hii3 : ¬ (u : Int) < (u : Int) := by omega
                  have HF : Hid (Blk wr g2 3 (ints (splc (bks key row (q + 1)))).toArray) := Lib.hid (by rw [← bmid_all, Hn.out]; exact HC.out)
                  have HM : Hid (∀ p ∈ row, key p < q + 1) := Lib.hid fun p hp => by have := Hall.out p hp; rw [Hmxn.out] at this; exact this
                  have Hgg : Hid (g ≤ g2) := Lib.hid (by omega)
                  clear HB HC
                  go_wp2
                  go_ret
                  first | exact ⟨g2, rfl, Hgg.out, q + 1, HM.out, HF.out, HO.out⟩ | exact ⟨g2, q + 1, rfl, Hgg.out, HM.out, HF.out, HO.out⟩
end Go.Proofs.Ytjdpogaaookoeaa
