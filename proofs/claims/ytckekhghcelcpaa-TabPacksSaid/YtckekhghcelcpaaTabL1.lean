/-
  Any lengths have the document's bits, or none; behind others they stand as they do alone; the layer's probe holds (TabPacks). No condition.
-/
import Derived.Test.YtckekhghcelcpaaTabAw
import Derived.Test.YtckekhghcelcpaaFrame
namespace Go.Proofs.Ytckekhghcelcpaa
set_option linter.unusedSimpArgs false
set_option linter.unusedVariables false
open Go.ChangeShapes Go.WideShapes Go.ChangeAt Go.RowKit Go.Joins Go.Deep
set_option maxHeartbeats 2000000 in
/-- Beyond the sizes that the statement looks at: the probe alone. -/
theorem tabPacks_far0 (A1 A2 : Option Addr) (n1 c1 n2 c2 : Nat) (w : World) (h : 300 < n1) :
    Calls Try.prog 3 #[.slice A1 n1 c1, .slice A2 n2 c2] w fun e w' => e = .returned (.bool true) ∧ Below w.heap.size w w' := by
  have h1 : (300 : Int) < n1 := by omega
  go_enter Try.func3, Try.ntmps3
  go_wp2_with (go_at_call 6; refine (awake10_any _).mono ?_; rintro e w9 ⟨rfl, hb9⟩)
  go_ret
  exact ⟨rfl, hb9⟩
set_option maxHeartbeats 2000000 in
/-- Beyond the sizes that the statement looks at: the probe alone. -/
theorem tabPacks_far1 (A1 A2 : Option Addr) (n1 c1 n2 c2 : Nat) (w : World) (h : n1 ≤ 300) (k : 100 < n2) :
    Calls Try.prog 3 #[.slice A1 n1 c1, .slice A2 n2 c2] w fun e w' => e = .returned (.bool true) ∧ Below w.heap.size w w' := by
  have h1 : ¬ (300 : Int) < n1 := by omega
  have h2 : (100 : Int) < n2 := by omega
  go_enter Try.func3, Try.ntmps3
  go_wp2_with (go_at_call 6; refine (awake10_any _).mono ?_; rintro e w9 ⟨rfl, hb9⟩)
  go_ret
  exact ⟨rfl, hb9⟩

theorem tfields_at {w : World} {B n : Nat} {A : Option Addr} {l : List (Int × Int)} (hr : Reads w B 2 A n (pairs .i64 l)) (hn : 0 < n) : ∃ b off, A = some ⟨b, off, none⟩ ∧ b < B ∧ ∀ k, (hk : k < l.length) → w.cell? ⟨b, off + k * 2, none⟩ = some (.int .i64 l[k].1) ∧ w.cell? ⟨b, off + k * 2 + 1, none⟩ = some (.int .i64 l[k].2) := by
  obtain ⟨b, off, e, hb, hc⟩ := hr.2 hn
  exact ⟨b, off, e, hb, fun k hk => ⟨hc _ _ (pairs_fst .i64 l k hk), hc _ _ (pairs_snd .i64 l k hk)⟩⟩
theorem ttouch_drew {w w' : World} {S : Nat → Prop} (h : Touch w.drew w' S) : Touch w w' S := ⟨h.os, h.tape, h.output, h.size, h.block⟩
theorem twhold_drew {w : World} {B g : Nat} {v : Value} {R : List Nat} (h : WHold w B g v R) : WHold w.drew B g v R := h
theorem twhold_drewN {w : World} {B g : Nat} {v : Value} {R : List Nat} (h : WHold w B g v R) (n : Nat) : WHold (w.drewN n) B g v R := h
theorem ttouch_of_drewN {w w' : World} {S : Nat → Prop} {n : Nat} (h : Touch (w.drewN n) w' S) : Touch w w' S := ⟨h.os, h.tape, h.output, h.size, h.block⟩
/-- What a writer's call leaves of what stood before the writer. -/
theorem tws_below {w w1 w' : World} {B g : Nat} {v : Value} {R : List Nat} (hW : WHold w1 B g v R) (hb : Below w.heap.size w w1) (hg : w.heap.size ≤ g) (hB : w.heap.size ≤ B) (ht : Touch w1 w' (WS g v)) : Below w.heap.size w w' :=
  hb.trans (ht.below (fun k _ e => by
    rcases e with e | e
    · omega
    · exact Nat.le_trans hB (hW.2.1.lt k e).1) hb.size)
set_option maxRecDepth 100000 in
set_option maxHeartbeats 8000000 in
theorem tabPacks_near (A1 A2 : Option Addr) (n1 c1 n2 c2 : Nat) (l : List Int) (fs : List (Int × Int)) (w : World) (hn2 : fs.length = n2) (hr1 : Reads w w.heap.size 1 A1 n1 (ints l)) (hr2 : Reads w w.heap.size 2 A2 n2 (pairs .i64 fs)) (h : n1 ≤ 300) (h' : n2 ≤ 100) (hnc : n1 ≤ c1) :
    Calls Try.prog 3 #[.slice A1 n1 c1, .slice A2 n2 c2] w fun e w' => e = .returned (.bool true) ∧ Below w.heap.size w w' := by
  have i1 : ¬ (300 : Int) < n1 := by omega
  have i2 : ¬ (100 : Int) < n2 := by omega
  have i3 : (n2 : Int) ≤ 100 := by omega
  have he : (tpackF l).2 = checkF l := by
    unfold tpackF
    by_cases hc : checkF l = 0
    · rw [if_pos hc, hc]
    · rw [if_neg hc]
  have hp := p_tpack_any l A1 n1 c1 w (by omega) hr1
  have hq := fun W hW => tref_pack_any l A1 n1 c1 W (by omega) (hr1.on hW)
  rw [he] at hp hq
  have hs := fun W (hW : Below w.heap.size w W) => p_tsize_any l A1 n1 c1 W (by omega) (hr1.on hW)
  have hz := fun W (hW : Below w.heap.size w W) => tref_size_any l A1 n1 c1 W (by omega) (hr1.on hW)
  have hyes := fun (h0 : checkF l = 0) W B g v R (hW : Below w.heap.size w W) (hg : w.heap.size ≤ g ∧ w.heap.size ≤ B) hH hB hR => p_tput_yes B w.heap.size g v R l A1 n1 c1 W (hr1.below hW) hg h0 hH hB hR hnc
  have hno := fun (h0 : checkF l ≠ 0) g W (hW : Below w.heap.size w W) => p_tput_no g l A1 n1 c1 W (by omega) (hr1.on hW) h0
  have hm1 : checkF l = 0 → tsizeF l = (tbits l).length := fun h0 => if_pos h0
  have hm0 : checkF l ≠ 0 → tsizeF l = 0 := fun h0 => if_neg h0
  have htl : checkF l = 0 → (tbits l).length ≤ 100000 := fun h0 => by
    have h1 := (tcheck_ok h0).1
    have := tbits_len l (by omega)
    omega
  have Hp := Lib.hid hp
  have Hq := Lib.hid hq
  have Hs := Lib.hid hs
  have Hz := Lib.hid hz
  have Hyes := Lib.hid hyes
  have Hno := Lib.hid hno
  have Hm1 := Lib.hid hm1
  have Hm0 := Lib.hid hm0
  have Htl := Lib.hid htl
  have Hcell : Hid (0 < n2 → ∃ b off, A2 = some ⟨b, off, none⟩ ∧ b < w.heap.size ∧ ∀ k, (hk : k < fs.length) → w.cell? ⟨b, off + k * 2, none⟩ = some (.int .i64 fs[k].1) ∧ w.cell? ⟨b, off + k * 2 + 1, none⟩ = some (.int .i64 fs[k].2)) := Lib.hid fun h => tfields_at hr2 h
  have Hn := Lib.hid hn2
  have H100 := Lib.hid h'
  clear hp hq hs hz hyes hno hm1 hm0 htl hr1 hr2 he hn2 h h' hnc
  generalize (tpackF l).1 = X at *
  generalize tsizeF l = z at *
  generalize tbits l = T at *
  generalize checkF l = E at *
  go_enter Try.func3, Try.ntmps3
  go_wp2_with (first
    | (go_at_call 7; refine Hp.out.mono ?_; rintro e w1 ⟨rfl, hb1⟩; have Hb := Lib.hid hb1; clear hb1)
    | (go_at_call 8; refine (Hq.out _ Hb.out).mono ?_; rintro e w2 ⟨rfl, hb2⟩; replace Hb := Lib.hid (Hb.out.trans (hb2.mono Hb.out.size)); clear hb2)
    | (go_at_call 9; refine (Hs.out _ Hb.out).mono ?_; rintro e w3 ⟨rfl, hb3⟩; replace Hb := Lib.hid (Hb.out.trans (hb3.mono Hb.out.size)); clear hb3)
    | (go_at_call 10; refine (Hz.out _ Hb.out).mono ?_; rintro e w4 ⟨rfl, hb4⟩; replace Hb := Lib.hid (Hb.out.trans (hb4.mono Hb.out.size)); clear hb4))
  have HH0 : Hid (WHold (w4.alloc (.cells #[.slice none 0 0, .int .i64 0] 34)) w4.heap.size w4.heap.size (.slice none 0 0) []) := Lib.hid (by
    refine ⟨by simpa [fr] using Blk.new w4 34 #[.slice none 0 0, .int .i64 0], ?_, bin_nil⟩
    simpa [text_nil, bc] using World.ownsRow_nil (w4.alloc (.cells #[.slice none 0 0, .int .i64 0] 34)) w4.heap.size 5 1)
  have Hsz := Lib.hid Hb.out.size
  have HB0 : Hid (Below w.heap.size w (w4.alloc (.cells #[.slice none 0 0, .int .i64 0] 34))) := Lib.hid (Hb.out.alloc Hb.out.size _)
  have HG0 : Hid (w4.heap.size ≤ (w4.alloc (.cells #[.slice none 0 0, .int .i64 0] 34)).heap.size) := Lib.hid (by rw [World.size_alloc]; omega)
  generalize w4.alloc (.cells #[.slice none 0 0, .int .i64 0] 34) = wz at *
  generalize w4.heap.size = g at *
  go_loopw [10] (fun i wr => ∃ (k : Nat) (R : List Nat) (v : Value), k ≤ n2 ∧ i = .int .i64 k ∧ Hid (WHold wr g g v R) ∧ Hid (Below w.heap.size w wr) ∧ Hid (g ≤ wr.heap.size) ∧ Hid (R.length ≤ 32 * k)) (fun i _ => n2 - (intOf i).toNat)
  case atStart => exact ⟨0, [], .slice none 0 0, by omega, rfl, HH0, HB0, HG0, Lib.hid (by simp)⟩
  case round =>
    obtain ⟨k, R, v, hk, rfl, HW, HB, HG, HL⟩ := hrel
    clear HH0 HB0 HG0
    by_cases hlt : k < n2
    · have hkl : k < fs.length := by rw [Hn.out]; exact hlt
      obtain ⟨b, off, rfl, hb, hc⟩ := Hcell.out (by omega)
      have hszr := HB.out.size
      have hbr : b < wr.heap.size := by omega
      have x1 : wr.cell? ⟨b, off + k * 2, none⟩ = some (.int .i64 fs[k].1) := (HB.out.cell (p := ⟨b, off + k * 2, none⟩) hb).trans (hc k hkl).1
      have x2 : wr.cell? ⟨b, off + k * 2 + 1, none⟩ = some (.int .i64 fs[k].2) := (HB.out.cell (p := ⟨b, off + k * 2 + 1, none⟩) hb).trans (hc k hkl).2
      have hki : 0 ≤ (k : Int) ∧ (k : Int) < n2 := by omega
      have HlL : Hid (R.length ≤ 1099511627776) := Lib.hid (by have := HL.out; have := H100.out; omega)
      clear hc
      generalize fs[k].1 = fn at *
      generalize fs[k].2 = fw at *
      clear hkl
      by_cases hF : fits fn fw
      · have hput := bput_is g g fn fw v R wr.drew hF (twhold_drew HW.out) HG.out HlL.out
        have hdl : (digI fn fw).length ≤ 32 := by
          obtain ⟨f1, f2, f3, f4⟩ := hF
          unfold digI
          rw [dig_length]
          omega
        have Hput := Lib.hid hput
        have Hdl := Lib.hid hdl
        clear hF hput hdl
        generalize digI fn fw = D at *
        go_wp2
        refine wp_region_still_tail 11 (by kernel_rfl) (by kernel_rfl) ?_
        simp only [List.take_succ_cons, List.take_zero, List.drop_succ_cons, List.drop_zero]
        change wpStill _ _ (World.drew _) (fun a' => wpList _ _ _ _ a' (World.drew _)) _ _
        repeat still_step
        refine wpStill_nil ?_
        go_wp2_with (go_at_call 11; refine Hput.out.mono ?_; rintro e w2 ⟨rfl, v2, hW2, ht2', hs2⟩; have Ht2 := Lib.hid (ttouch_drew ht2'); have HW2 := Lib.hid hW2; clear hW2 ht2' hs2)
        go_roundw
        case rel => exact ⟨k + 1, R ++ D, v2, by omega, iv (by omega), HW2, Lib.hid (tws_below HW.out HB.out Hsz.out Hsz.out Ht2.out), Lib.hid (Nat.le_trans HG.out Ht2.out.size), Lib.hid (by rw [List.length_append]; have := HL.out; have := Hdl.out; omega)⟩
        case measure => simp only [intOf]; omega
      · have hput := fun W => put_no g fn fw W hF
        clear hF
        go_wp2
        refine wp_region_still_tail 11 (by kernel_rfl) (by kernel_rfl) ?_
        simp only [List.take_succ_cons, List.take_zero, List.drop_succ_cons, List.drop_zero]
        change wpStill _ _ (World.drew _) (fun a' => wpList _ _ _ _ a' (World.drew _)) _ _
        repeat still_step
        refine wpStill_nil ?_
        go_wp2_with (go_at_call 11; refine (hput _).mono ?_; rintro e w2 ⟨rfl, rfl⟩)
        go_roundw
        case rel => exact ⟨k + 1, R, v, by omega, iv (by omega), Lib.hid (twhold_drew HW.out), Lib.hid HB.out.drew, Lib.hid HG.out, Lib.hid (by have := HL.out; omega)⟩
        case measure => simp only [intOf]; omega
    · obtain rfl : k = n2 := by omega
      have hRi : (0 : Int) ≤ (R.length : Int) ∧ (R.length : Int) ≤ 3200 := by have := HL.out; have := H100.out; omega
      have HlL : Hid (R.length ≤ 1099511627776) := Lib.hid (by omega)
      by_cases h0 : E = 0
      · subst h0
        have hy := fun kl => Hyes.out rfl (wr.drewN kl) g g v R (below_drewN HB.out kl) ⟨Hsz.out, Hsz.out⟩ (twhold_drewN HW.out kl) HG.out (by omega)
        have Hy := Lib.hid hy
        have hzm := Hm1.out rfl
        have htl := Htl.out rfl
        obtain ⟨Q, hQ⟩ : ∃ Q, R ++ T = Q := ⟨_, rfl⟩
        have hql : Q.length = R.length + z := by rw [← hQ, List.length_append, hzm]
        rw [hQ] at Hy
        have HlQ : Hid (Q.length ≤ 1099511627776) := Lib.hid (by omega)
        have hzi : (0 : Int) ≤ (z : Int) ∧ (z : Int) ≤ 100000 := by omega
        have hqi : (Q.length : Int) ≤ 200000 := by omega
        have hadd : (R.length : Int) + (z : Int) = (Q.length : Int) := by omega
        have hE1 : ((Q.length : Int) == (Q.length : Int)) = true := by simp
        clear hy hQ hql hzm htl
        go_wp2_with (first
          | (go_at_call 12; (with_reducible refine (wlen_any _ _ _ _ _ HW.out HlL.out).mono ?_); rintro e wl ⟨rfl, kl, rfl⟩)
          | (go_at_call 13; refine (Hy.out _).mono ?_; rintro e w6 ⟨rfl, v6, hW6, ht6, hs6⟩; have HW6 := Lib.hid hW6; have Hb := Lib.hid (tws_below HW.out HB.out Hsz.out Hsz.out (ttouch_of_drewN ht6)); clear hW6 ht6 hs6)
          | (go_at_call 12; (with_reducible refine (wlen_any _ _ _ _ _ HW6.out HlQ.out).mono ?_); rintro e wm ⟨rfl, km, rfl⟩; replace Hb := Lib.hid (below_drewN Hb.out km))
          | (go_at_call 10; refine (Hz.out _ Hb.out).mono ?_; rintro e w7 ⟨rfl, hb7⟩; replace Hb := Lib.hid (Hb.out.trans (hb7.mono Hb.out.size)); clear hb7)
          | (go_at_call 6; refine (awake10_any _).mono ?_; rintro e w9 ⟨rfl, hb9⟩; replace Hb := Lib.hid (Hb.out.trans (hb9.mono Hb.out.size)); clear hb9))
        go_ret
        exact ⟨rfl, Hb.out⟩
      · have hy := fun kl => Hno.out h0 g (wr.drewN kl) (below_drewN HB.out kl)
        have Hy := Lib.hid hy
        obtain rfl : z = 0 := Hm0.out h0
        have hE1 : ((R.length : Int) == (R.length : Int)) = true := by simp
        have hE2 : (E == E) = true := by simp
        clear hy
        go_wp2_with (first
          | (go_at_call 12; (with_reducible refine (wlen_any _ _ _ _ _ HW.out HlL.out).mono ?_); rintro e wl ⟨rfl, kl, rfl⟩)
          | (go_at_call 13; refine (Hy.out _).mono ?_; rintro e w6 ⟨rfl, hb6⟩; have HW6 := Lib.hid ((twhold_drewN HW.out _).below hb6 (Nat.le_refl _)); have Hb := Lib.hid ((below_drewN HB.out _).trans (hb6.mono (below_drewN HB.out _).size)); clear hb6)
          | (go_at_call 12; (with_reducible refine (wlen_any _ _ _ _ _ HW6.out HlL.out).mono ?_); rintro e wm ⟨rfl, km, rfl⟩; replace Hb := Lib.hid (below_drewN Hb.out km))
          | (go_at_call 10; refine (Hz.out _ Hb.out).mono ?_; rintro e w7 ⟨rfl, hb7⟩; replace Hb := Lib.hid (Hb.out.trans (hb7.mono Hb.out.size)); clear hb7)
          | (go_at_call 6; refine (awake10_any _).mono ?_; rintro e w9 ⟨rfl, hb9⟩; replace Hb := Lib.hid (Hb.out.trans (hb9.mono Hb.out.size)); clear hb9))
        go_ret
        exact ⟨rfl, Hb.out⟩
theorem tabPacks_walk (A1 A2 : Option Addr) (n1 c1 n2 c2 : Nat) (l : List Int) (fs : List (Int × Int)) (w : World) (hn2 : fs.length = n2) (hr1 : Reads w w.heap.size 1 A1 n1 (ints l)) (hr2 : Reads w w.heap.size 2 A2 n2 (pairs .i64 fs)) (hnc : n1 ≤ c1) :
    Calls Try.prog 3 #[.slice A1 n1 c1, .slice A2 n2 c2] w fun e w' => e = .returned (.bool true) ∧ Below w.heap.size w w' := by
  by_cases h : n1 ≤ 300
  · by_cases h2 : n2 ≤ 100
    · exact tabPacks_near A1 A2 n1 c1 n2 c2 l fs w hn2 hr1 hr2 h h2 hnc
    · exact tabPacks_far1 A1 A2 n1 c1 n2 c2 w h (by omega)
  · exact tabPacks_far0 A1 A2 n1 c1 n2 c2 w (by omega)

namespace TabPacks
set_option maxRecDepth 100000 in
theorem lifted (os : Os) (started : os.Started) (H : Type) (enc : TypeId × Value → H) :
    ReturnsInHanded {} Try.checked os 3 .any (Rows.tabPacksSpec.pre6 enc Try.prog Try.f3 Rows.tabPacksRow.domain false) (Rows.tabPacksSpec.post enc Try.prog Try.f3 false true false false) := by
  refine law_sized (C := Try.checked) (tb := 4) ownP started (by kernel_rfl) Try.func3
    (ChangeSpec.witness6 (enc := enc) (C := Try.checked) false ⟨#[], #[.slice none 0 0, .slice none 0 0], []⟩ 8 (by kernel_rfl) (by kernel_rfl) (by kernel_rfl) (by kernel_rfl))
    laidP (by kernel_rfl) rfl (by kernel_rfl) Try.underlying4 (by intro ds h; match ds, h with | [_, _], _ => rfl) ?_
  intro W base args ds p hval0 hA0 hlt _
  have hval : ∀ (j : Nat) t v, Try.f3.params[j]? = some t → args[j]? = some v → Value.okWide Try.prog W .any base t v := hval0
  have hA : DataW.TrodAll enc Try.prog W 0 (fun _ => true) true Try.f3.params.toList args.toList ds p := hA0
  rw [Try.params3] at hA hval
  obtain ⟨v0, v1, d0, d1, p0, p1, rfl, rfl, rfl, h0, h1⟩ := trodAll_two hA
  obtain ⟨Aks, nks, cks, ks, rfl, eks, hnks, hmks, hrks, hbks⟩ := open_nums rfl Try.underlying22 Try.underlying3 (by kernel_rfl) (hval 0 22 v0 rfl rfl) h0
  obtain ⟨Afs, nfs, cfs, fs, rfl, efs, hnfs, hmfs, hrfs, hbfs⟩ := open_pair_slice Try.underlying23 Try.underlying37 (by kernel_rfl) rfl rfl (by kernel_rfl) (by kernel_rfl) Try.underlying3 Try.underlying3 (hval 1 23 v1 rfl rfl) h1
  exact tabPacks_walk Aks Afs nks cks nfs cfs ks fs W efs hrks hrfs hnks

theorem holds : Rows.TabPacksSaid :=
  OpenClaim.holds_of_wide 3 Try.f3 rfl rfl rfl rfl rfl rfl rfl ⟨rfl, rfl, rfl, rfl, rfl⟩ rfl rfl rfl rfl rfl (by kernel_rfl) Try.func3 (by kernel_rfl)
    (of_decide_eq_true (by kernel_rfl)) (by unfold Func.isWrapper; first | (rw [if_pos (by decide +kernel)]; kernel_rfl) | (rw [if_neg (by decide +kernel)]; exact ⟨rfl, rfl⟩))
    (fun os started H enc _ => lifted os started H enc)
end TabPacks
end Go.Proofs.Ytckekhghcelcpaa
