/-
  For any numbers: what a writer's Gamma wrote of them, a reader's Gamma reads, one behind the other, each of an odd number of bits, no fewer for a greater one, and the layer's probe holds (BitsGamma). No condition.
-/
import Derived.Test.YtakkljajoollgaaBitL2
namespace Go.Proofs.Ytakkljajoollgaa
set_option linter.unusedSimpArgs false
set_option linter.unusedVariables false
open Go.ChangeShapes Go.WideShapes Go.ChangeAt Go.RowKit Go.Joins Go.Deep
set_option maxHeartbeats 2000000 in
/-- Beyond the sizes that the statement looks at: the probe alone. -/
theorem bitsGamma_far0 (A1 : Option Addr) (n1 c1 : Nat) (w : World) (h : 200 < n1) :
    Calls Try.prog 6 #[.slice A1 n1 c1] w fun e w' => e = .returned (.bool true) ∧ Below w.heap.size w w' := by
  have h1 : (200 : Int) < n1 := by omega
  go_enter Try.func6, Try.ntmps6
  go_wp2_with (go_at_call 7; refine (awake_any _).mono ?_; rintro e w9 ⟨rfl, hb9⟩)
  go_ret
  exact ⟨rfl, hb9⟩

def gamAll (gs : List Nat) : List Nat := gs.flatMap gam
def hv (gs : List Nat) : List Int := gs.map fun n : Nat => (n : Int)
def sv (gs : List Nat) : List Int := gs.map fun n : Nat => ((gam n).length : Int)
def Good (gs : List Nat) : Prop := ∀ n ∈ gs, n ≠ 0 ∧ n < 4294967296
theorem gamAll_app (a b : List Nat) : gamAll (a ++ b) = gamAll a ++ gamAll b := by simp [gamAll]
theorem gamAll_snoc (gs : List Nat) (n : Nat) : gamAll (gs ++ [n]) = gamAll gs ++ gam n := by simp [gamAll]
theorem hv_snoc (gs : List Nat) (n : Nat) : ints (hv (gs ++ [n])) = ints (hv gs) ++ [.int .i64 (n : Int)] := by simp [hv, ints]
theorem sv_snoc (gs : List Nat) (n : Nat) : ints (sv (gs ++ [n])) = ints (sv gs) ++ [.int .i64 ((gam n).length : Int)] := by simp [sv, ints]
theorem gamAll_len : ∀ (gs : List Nat), Good gs → (gamAll gs).length ≤ 63 * gs.length
  | [], _ => by simp [gamAll]
  | n :: t, h => by
    have h1 := gamAll_len t (fun m hm => h m (by simp [hm]))
    have h2 := gam_len n (h n (by simp)).1 (h n (by simp)).2
    have e : gamAll (n :: t) = gam n ++ gamAll t := rfl
    rw [e, List.length_append, List.length_cons]
    omega
theorem good_snoc {gs : List Nat} {n : Nat} (h : Good gs) (h0 : n ≠ 0) (h1 : n < 4294967296) : Good (gs ++ [n]) := fun m hm => by
  rcases List.mem_append.1 hm with hm | hm
  · exact h m hm
  · rw [List.mem_singleton] at hm
    subst hm
    exact ⟨h0, h1⟩
theorem bl_mono {m n : Nat} (h : m ≤ n) (h0 : m ≠ 0) (hn : n < 4294967296) : bl m ≤ bl n := by
  have e32 : (2 : Nat) ^ 32 = 4294967296 := by decide
  obtain ⟨a, b, c⟩ := bl_spec 32 m h0 (by rw [e32]; omega) (by omega)
  obtain ⟨a', b', c'⟩ := bl_spec 32 n (by omega) (by rw [e32]; exact hn) (by omega)
  refine Nat.le_of_not_lt fun hgt => ?_
  have := Nat.pow_le_pow_right (n := 2) (by omega) (show bl n ≤ bl m - 1 by omega)
  omega
theorem gam_mono {m n : Nat} (h : m ≤ n) (h0 : m ≠ 0) (hn : n < 4294967296) : (gam m).length ≤ (gam n).length ∧ (gam n).length % 2 = 1 := by
  have h1 := (ungam_gam m [] h0 (by omega)).2
  have h2 := (ungam_gam n [] (by omega) hn).2
  have h3 := bl_mono h h0 hn
  omega
/-- Where a reader stands behind j numbers, the next one's gamma bits come. -/
theorem read_at (gs : List Nat) (hg : Good gs) (j : Nat) (hj : j < gs.length) :
    ungam ((rowOf (text (gamAll gs))).drop (gamAll (gs.take j)).length) = ((gs[j] : Int), (gam gs[j]).length, 0) ∧ (gamAll (gs.take (j + 1))).length = (gamAll (gs.take j)).length + (gam gs[j]).length := by
  have hbin : Bin (gamAll gs) := fun d hd => by
    obtain ⟨n, _, h⟩ := List.mem_flatMap.1 hd
    exact gam_bin n d h
  have h1 : gamAll gs = gamAll (gs.take j) ++ (gam gs[j] ++ gamAll (gs.drop (j + 1))) := by
    have e : gamAll gs = gamAll (gs.take j ++ (gs[j] :: gs.drop (j + 1))) := by rw [← List.drop_eq_getElem_cons hj, List.take_append_drop]
    rw [e, gamAll_app]
    rfl
  have h2 := hg _ (List.getElem_mem hj)
  have h3 := ungam_gam gs[j] (gamAll (gs.drop (j + 1)) ++ List.replicate (fr (gamAll gs)) 0) h2.1 h2.2
  refine ⟨?_, ?_⟩
  · rw [row_text hbin]
    generalize List.replicate (fr (gamAll gs)) 0 = z at *
    rw [h1, List.append_assoc, List.drop_left' rfl, List.append_assoc, h3.1, h3.2]
  · rw [List.take_succ_eq_append_getElem hj, gamAll_snoc, List.length_append]
theorem take_le (gs : List Nat) (j : Nat) : (gamAll (gs.take j)).length ≤ (gamAll gs).length := by
  have h := gamAll_app (gs.take j) (gs.drop j)
  rw [List.take_append_drop] at h
  rw [h, List.length_append]
  omega
theorem read_end (gs : List Nat) : 8 * (text (gamAll gs)).length - (gamAll gs).length < 8 ∧ (gamAll gs).length ≤ 8 * (text (gamAll gs)).length ∧ lz ((rowOf (text (gamAll gs))).drop (gamAll gs).length) = 8 * (text (gamAll gs)).length - (gamAll gs).length := by
  have hbin : Bin (gamAll gs) := fun d hd => by
    obtain ⟨n, _, h⟩ := List.mem_flatMap.1 hd
    exact gam_bin n d h
  have h1 := text_length (gamAll gs)
  rw [row_text hbin, List.drop_left' rfl]
  have h2 := lz_zeros (fr (gamAll gs)) []
  rw [List.append_nil] at h2
  rw [h2, h1]
  have e : lz [] = 0 := rfl
  rw [e]
  unfold fr
  omega
def Apart (v v' : Value) : Prop := ∀ k, v.ownBlock = some k → v'.ownBlock ≠ some k

set_option maxRecDepth 100000 in
set_option maxHeartbeats 8000000 in
theorem bitsGamma_near (A1 : Option Addr) (n1 c1 : Nat) (xs : List Int) (w : World) (hn1 : xs.length = n1) (h1 : n1 ≤ 200) (hr1 : Reads w w.heap.size 1 A1 n1 (ints xs)) (hwf : ∀ x ∈ xs, x < 9223372036854775808) :
    Calls Try.prog 6 #[.slice A1 n1 c1] w fun e w' => e = .returned (.bool true) ∧ Below w.heap.size w w' := by
  obtain ⟨i0, hi, hz0, hz1, hz2⟩ := info_parts int_info
  have hH0 : WHold (w.alloc (.cells #[.slice none 0 0, .int .i64 0] 39)) w.heap.size w.heap.size (.slice none 0 0) (gamAll []) := by
    refine ⟨by simpa [fr, gamAll] using Blk.new w 39 #[.slice none 0 0, .int .i64 0], ?_, bin_nil⟩
    simpa [text_nil, bc, gamAll] using World.ownsRow_nil (w.alloc (.cells #[.slice none 0 0, .int .i64 0] 39)) w.heap.size 5 1
  have HH0 := Lib.hid hH0
  have Hcell : Hid (0 < n1 → ∃ b off, A1 = some ⟨b, off, none⟩ ∧ b < w.heap.size ∧ ∀ k, (hk : k < xs.length) → w.cell? ⟨b, off + k, none⟩ = some (.int .i64 xs[k])) := Lib.hid fun h => by
    obtain ⟨b, off, e, hb, hc⟩ := hr1.2 h
    exact ⟨b, off, e, hb, fun k hk => hc k _ (ints_get xs k hk)⟩
  have Hn := Lib.hid hn1
  have Hwf := Lib.hid hwf
  have i1 : ¬ (200 : Int) < n1 := by omega
  have h1i : (n1 : Int) ≤ 200 := by omega
  have H200 := Lib.hid h1
  clear hH0 hr1 hn1 hwf h1
  go_enter Try.func6, Try.ntmps6
  go_wp2
  go_loopw [4, 5, 6] (fun vh vs i wr => ∃ (k : Nat) (gs : List Nat) (v : Value), k ≤ n1 ∧ i = .int .i64 k ∧ Hid (Good gs) ∧ Hid (gs.length ≤ k) ∧ Hid (WHold wr w.heap.size w.heap.size v (gamAll gs)) ∧ Hid (wr.ownsRow w.heap.size 3 1 vh gs.length (ints (hv gs))) ∧ Hid (wr.ownsRow w.heap.size 3 1 vs gs.length (ints (sv gs))) ∧ Hid (Apart vh vs) ∧ Hid (Below w.heap.size w wr)) (fun _ _ i _ => n1 - (intOf i).toNat)
  case atStart => exact ⟨0, [], .slice none 0 0, by omega, rfl, Lib.hid (fun n hn => by cases hn), Lib.hid (by simp), HH0.out, Lib.hid (World.ownsRow_nil _ _ _ _), Lib.hid (World.ownsRow_nil _ _ _ _), Lib.hid (fun k hk => by cases hk), Lib.hid ((Below.refl _ _).alloc (Nat.le_refl _) _)⟩
  case round =>
    obtain ⟨k, gs, v, hk, rfl, HG, Hgl, HW, HO, HS, HA, HB⟩ := hrel
    by_cases hlt : k < n1
    · have hkl : k < xs.length := by rw [Hn.out]; exact hlt
      obtain ⟨b, off, rfl, hb, hc⟩ := Hcell.out (by omega)
      have hszr := HB.out.size
      have x0 := hc k hkl
      have x1 : wr.cell? ⟨b, off + k, none⟩ = some (.int .i64 xs[k]) := (HB.out.cell (p := ⟨b, off + k, none⟩) hb).trans x0
      have hki : 0 ≤ (k : Int) ∧ (k : Int) < n1 := by omega
      have hwk := Hwf.out _ (List.getElem_mem hkl)
      have X0 := Lib.hid x0
      have hRl := gamAll_len gs HG.out
      have HRl : Hid ((gamAll gs).length ≤ 12600) := Lib.hid (by have := Hgl.out; have := H200.out; omega)
      have hlen := fun W hH => wlen_any w.heap.size w.heap.size v (gamAll gs) W hH (by have := HRl.out; omega)
      clear hc x0 hRl
      generalize xs[k] = fv at *
      have Hwk := Lib.hid hwk
      clear hkl hwk
      by_cases hG : hasG fv
      · have hg1 : fv.toNat ≠ 0 := by have := hG.1; omega
        have hg2 : fv.toNat < 4294967296 := by have := hG.2; omega
        have hge : ((fv.toNat : Nat) : Int) = fv := by have := hG.1; omega
        have hwg := fun W hH hB => wgamma_yes w.heap.size w.heap.size fv v (gamAll gs) W hG hH hB (by have := HRl.out; omega)
        have HDl := Lib.hid (gam_len fv.toNat hg1 hg2)
        have HGn := Lib.hid (good_snoc HG.out hg1 hg2)
        have HQe := Lib.hid (gamAll_snoc gs fv.toNat)
        have Hhv := Lib.hid (hv_snoc gs fv.toNat)
        have Hsv := Lib.hid (sv_snoc gs fv.toNat)
        have Hge := Lib.hid hge
        have Hwg := Lib.hid hwg
        rw [hge] at Hhv
        clear hg1 hg2 hge hwg hG
        rw [← HQe.out] at Hwg
        have hQl : ((gamAll (gs ++ [fv.toNat])).length : Int) = (gamAll gs).length + (gam fv.toNat).length := by rw [HQe.out, List.length_append]; omega
        have hlenQ := fun W v hH => wlen_any w.heap.size w.heap.size v (gamAll (gs ++ [fv.toNat])) W hH (by have := HRl.out; have := HDl.out; omega)
        have hD0 : ((gam fv.toNat).length : Int) ≤ 63 := by have := HDl.out; omega
        have hR0 : ((gamAll gs).length : Int) ≤ 12600 := by have := HRl.out; omega
        generalize hQg : gamAll (gs ++ [fv.toNat]) = Q at *
        have HQg := Lib.hid hQg
        clear hQg
        generalize (gamAll gs).length = rl at *
        generalize (gam fv.toNat).length = dl at *
        have hsub : (Q.length : Int) - rl = dl := by omega
        have hQ0 : (Q.length : Int) ≤ 12663 := by omega
        have hw0 : wrap64 ((Q.length : Int) - rl) = dl := by unfold wrap64; omega
        clear hQl
        generalize (Q.length : Int) = ql at *
        have Hsub := Lib.hid hsub
        have HlenQ := Lib.hid hlenQ
        clear hsub hlenQ
        go_wp2_with (first
          | (go_at_call 17; refine (hlen _ HW.out).mono ?_; rintro e wl ⟨rfl, kl, rfl⟩)
          | (go_at_call 14; refine (Hwg.out _ (HW.out.drewN _) (by have := hszr; exact this)).mono ?_; rintro e w2 ⟨rfl, v2, hW2, ht2', hs2⟩; have ht2 : Touch wr w2 (WS w.heap.size v) := ⟨ht2'.os, ht2'.tape, ht2'.output, ht2'.size, ht2'.block⟩; have hsz2 := ht2.size; have HW2 := Lib.hid hW2; have HO2 := Lib.hid (owns_ws HW.out HO.out ht2); have HS2 := Lib.hid (owns_ws HW.out HS.out ht2); have HB2 := Lib.hid (ws_below (g := 0) (B := 0) HW.out HB.out ht2); have x2 : w2.cell? ⟨b, off + k, none⟩ = some (.int .i64 fv) := (HB2.out.cell (p := ⟨b, off + k, none⟩) hb).trans X0.out; clear hW2 ht2 ht2' hs2)
          | (at_builtin; refine wpList_append_sep _ rfl _ _ 23 rfl w.heap.size 3 i0 (.int .i64 0) 1 8 Try.underlying23 hi hz0 hz1 hz2 rfl (by decide) _ _ _ rfl (HO2.out.alloc _) _ 1 1 _ _ rfl (reads_new w2 3 #[.int .i64 fv] 1 1 rfl) ?c1 ?c2 ?c3 ?c4 ?_))
        case c1 => exact rfl
        case c2 => have := Hgl.out; unfold maxLen; omega
        case c3 => have := Hgl.out; omega
        case c4 => have := HB2.out.size; first | omega | (simp; omega)
        intro v3 w3 hown3 hgrow hsep
        have HW3 := Lib.hid (whold_grow (HW2.out.below ((Below.refl _ _).alloc (Nat.le_refl _) (.cells #[.int .i64 fv] 3)) (Nat.le_refl _)) (HO2.out.alloc _) hgrow)
        have HO3 : Hid (w3.ownsRow w.heap.size 3 1 v3 (gs ++ [fv.toNat]).length (ints (hv (gs ++ [fv.toNat])))) := Lib.hid (by rw [List.length_append, Hhv.out]; exact hown3)
        have HS3 : Hid (w3.ownsRow w.heap.size 3 1 u5 gs.length (ints (sv gs))) := Lib.hid (World.ownsRow.kept (HS2.out.alloc _) hgrow (by
          by_cases hv0 : u5.ownBlock = none
          · exact Or.inl hv0
          · refine Or.inr fun e => ?_
            cases hh : u5.ownBlock with
            | none => exact hv0 hh
            | some i => exact HA.out i (by rw [← e, hh]) hh))
        have HA3 : Hid (Apart v3 u5) := Lib.hid fun i hi5 hs5 => by
          rcases hsep i hi5 with e | e
          · exact HA.out i e hs5
          · have := (HS2.out.lt i hs5).2
            simp at e
            omega
        have HB3 : Hid (Below w.heap.size w w3) := Lib.hid ((HB2.out.trans ((Below.refl _ _).alloc HB2.out.size _)).grown hgrow (by have := HB2.out.size; simp; omega) (fun g hg => (HO2.out.lt g hg).1))
        clear hown3 hgrow hsep x2
        go_wp2_with (first
          | (go_at_call 17; refine (HlenQ.out _ _ HW3.out).mono ?_; rintro e wl ⟨rfl, kl, rfl⟩)
          | (at_builtin; refine wpList_append_sep _ rfl _ _ 23 rfl w.heap.size 3 i0 (.int .i64 0) 1 8 Try.underlying23 hi hz0 hz1 hz2 rfl (by decide) _ _ _ rfl ((show (w3.drewN kl).ownsRow w.heap.size 3 1 u5 gs.length (ints (sv gs)) from HS3.out).alloc _) _ 1 1 _ _ rfl (reads_new (w3.drewN kl) 3 #[.int .i64 dl] 1 1 rfl) ?d1 ?d2 ?d3 ?d4 ?_))
        case d1 => exact rfl
        case d2 => have := Hgl.out; unfold maxLen; omega
        case d3 => have := Hgl.out; omega
        case d4 => have := HB3.out.size; first | omega | (simp; omega)
        intro v5 w5 hown5 hgrow hsep
        have hal : Below w3.heap.size w3 ((w3.drewN kl).alloc (.cells #[.int .i64 dl] 3)) := (below_drewN (Below.refl _ _) _).alloc (Nat.le_refl _) _
        have HW5 := Lib.hid (whold_grow (HW3.out.below hal (Nat.le_refl _)) (owns_below HS3.out hal (Nat.le_refl _)) hgrow)
        have HS5 : Hid (w5.ownsRow w.heap.size 3 1 v5 (gs ++ [fv.toNat]).length (ints (sv (gs ++ [fv.toNat])))) := Lib.hid (by rw [List.length_append, Hsv.out]; exact hown5)
        have HO5 : Hid (w5.ownsRow w.heap.size 3 1 v3 (gs ++ [fv.toNat]).length (ints (hv (gs ++ [fv.toNat])))) := Lib.hid (World.ownsRow.kept (owns_below HO3.out hal (Nat.le_refl _)) hgrow (by
          by_cases hv0 : v3.ownBlock = none
          · exact Or.inl hv0
          · refine Or.inr fun e => ?_
            cases hh : v3.ownBlock with
            | none => exact hv0 hh
            | some i => exact HA3.out i hh (by rw [← e, hh])))
        have HA5 : Hid (Apart v3 v5) := Lib.hid fun i hi5 hs5 => by
          rcases hsep i hs5 with e | e
          · exact HA3.out i hi5 e
          · have := (HO3.out.lt i hi5).2
            have := hal.size
            omega
        have HB5 : Hid (Below w.heap.size w w5) := Lib.hid ((bt HB3.out hal).grown hgrow (by have := HB3.out.size; have := hal.size; omega) (fun g hg => (HS3.out.lt g hg).1))
        clear hown5 hgrow hsep hal
        go_wp2
        go_roundw
        case rel => exact ⟨k + 1, gs ++ [fv.toNat], v2, by omega, iv (by omega), HGn.out, Lib.hid (by rw [List.length_append]; have := Hgl.out; simp; omega), Lib.hid (by rw [HQg.out]; exact HW5.out), HO5.out, HS5.out, HA5.out, HB5.out⟩
        case measure => simp only [intOf]; omega
      · have hwg := fun W => wgamma_no w.heap.size fv W hG Hwk.out
        have hno : fv < 1 ∨ 4294967295 < fv := by
          rcases Int.lt_or_le fv 1 with e | e
          · exact Or.inl e
          · refine Or.inr (Int.lt_of_not_ge fun e2 => hG ⟨e, e2⟩)
        have Hno := Lib.hid hno
        clear hno hG
        generalize (gamAll gs).length = rl at *
        rcases Hno.out with hf | hf
        · clear Hno
          go_wp2_with (first
            | (go_at_call 17; (first | (refine (hlen _ HW.out).mono ?_) | (refine (hlen _ (HW.out.drewN _)).mono ?_)); rintro e wl ⟨rfl, kl, rfl⟩)
            | (go_at_call 14; refine (hwg _).mono ?_; rintro e w2 ⟨rfl, rfl⟩))
          go_roundw
          case rel => exact ⟨k + 1, gs, v, by omega, iv (by omega), HG.out, Lib.hid (by have := Hgl.out; omega), HW.out.drewN _, HO.out, HS.out, HA.out, below_drewN HB.out _⟩
          case measure => simp only [intOf]; omega
        · clear Hno
          have hf1 : 1 ≤ fv := by omega
          have hf2 : ¬ fv < 4294967296 := by omega
          go_wp2_with (first
            | (go_at_call 17; (first | (refine (hlen _ HW.out).mono ?_) | (refine (hlen _ (HW.out.drewN _)).mono ?_)); rintro e wl ⟨rfl, kl, rfl⟩)
            | (go_at_call 14; refine (hwg _).mono ?_; rintro e w2 ⟨rfl, rfl⟩))
          go_roundw
          case rel => exact ⟨k + 1, gs, v, by omega, iv (by omega), HG.out, Lib.hid (by have := Hgl.out; omega), HW.out.drewN _, HO.out, HS.out, HA.out, below_drewN HB.out _⟩
          case measure => simp only [intOf]; omega
    · obtain rfl : k = n1 := by omega
      generalize wr = w6 at *
      have hRl := gamAll_len gs HG.out
      have hend := read_end gs
      have hrd := read_at gs HG.out
      have hle := take_le gs
      have htxl := text_length (gamAll gs)
      obtain ⟨Ah, ch, rfl, hrh⟩ := owns_is HO.out
      obtain ⟨As, cs, rfl, hrs⟩ := owns_is HS.out
      have Htl : Hid ((text (gamAll gs)).length ≤ 1099511627776) := Lib.hid (by rw [htxl]; have := Hgl.out; have := H200.out; omega)
      have htx := wtext_any w.heap.size w.heap.size v (gamAll gs) w6 HW.out
      have Htx := Lib.hid htx
      have Hend := Lib.hid hend
      have Hrd := Lib.hid hrd
      have Hle := Lib.hid hle
      have Hrh := Lib.hid hrh
      have Hrs := Lib.hid hrs
      clear hRl hend hrd hle htxl htx hrh hrs
      generalize hT : text (gamAll gs) = T at *
      have HT := Lib.hid hT
      clear hT
      go_wp2_with (first
        | (go_at_call 18; refine Htx.out.mono ?_; rintro e wt ⟨rfl, rfl⟩)
        | (go_at_call 20; refine (newreader_any _ _).mono ?_; rintro e w1 ⟨rfl, rfl⟩))
      go_loopw [9] (fun i wr => ∃ j : Nat, j ≤ gs.length ∧ i = .int .i64 j ∧ Hid (RHold wr w6.heap.size T (gamAll (gs.take j)).length) ∧ Hid (Touch w6 wr (fun k => k = w6.heap.size))) (fun i _ => gs.length - (intOf i).toNat)
      case atStart => exact ⟨0, by omega, rfl, Lib.hid (Blk.new w6 _ _), Lib.hid ((Touch.refl _ _).alloc _)⟩
      case round =>
        obtain ⟨j, hj, rfl, HRd, Ht⟩ := hrel
        have hm200 : gs.length ≤ 200 := by have := Hgl.out; have := H200.out; omega
        by_cases hlt2 : j < gs.length
        · have hr2 := Hrd.out j hlt2
          have hrg := rgamma_yes T (gamAll (gs.take j)).length w6.heap.size gs[j] wr Htl.out (by have := Hle.out j; have := Hend.out.2.1; omega) HRd.out (gam gs[j]).length hr2.1
          rw [← hr2.2] at hrg
          obtain ⟨bh, oh, rfl, hbh, hch⟩ := Hrh.out.2 (by omega)
          obtain ⟨bs, os, rfl, hbs, hcs⟩ := Hrs.out.2 (by omega)
          have hcell : ∀ (w1 : World), Touch wr w1 (fun k => k = w6.heap.size) → (∀ i, (hi : i < gs.length) → w1.cell? ⟨bh, oh + i, none⟩ = some (.int .i64 (gs[i] : Int)) ∧ w1.cell? ⟨bs, os + i, none⟩ = some (.int .i64 ((gam gs[i]).length : Int))) := fun w1 ht1 i hi => by
            have ht2 := Ht.out.trans ht1
            refine ⟨(World.cell?_of_block (a := ⟨bh, oh + i, none⟩) (ht2.block bh hbh (by omega))).trans (hch i _ ?_), (World.cell?_of_block (a := ⟨bs, os + i, none⟩) (ht2.block bs hbs (by omega))).trans (hcs i _ ?_)⟩
            · rw [ints_get _ _ (by simpa [hv] using hi)]
              simp [hv]
            · rw [ints_get _ _ (by simpa [sv] using hi)]
              simp [sv]
          have hmono : ∀ i, (hi : i + 1 < gs.length) → gs[i] ≤ gs[i + 1] → (gam gs[i]).length ≤ (gam gs[i + 1]).length := fun i hi h => (gam_mono h (HG.out _ (List.getElem_mem _)).1 (HG.out _ (List.getElem_mem _)).2).1
          have hodd : ∀ i, (hi : i < gs.length) → (gam gs[i]).length % 2 = 1 := fun i hi => (gam_mono (Nat.le_refl gs[i]) (HG.out _ (List.getElem_mem _)).1 (HG.out _ (List.getElem_mem _)).2).2
          have Hcell2 := Lib.hid hcell
          have Hmono := Lib.hid hmono
          have Hodd := Lib.hid hodd
          have Hrg := Lib.hid hrg
          have hji : (j : Int) < gs.length := by omega
          have hgi : (gs.length : Int) ≤ 200 := by omega
          clear hcell hmono hodd hrg hr2 hch hcs
          cases j with
          | zero =>
            have e0 : ((0 : Nat) : Int) = 0 := rfl
            have hm1 : ((gam gs[0]).length : Int).tmod 2 = 1 := by rw [Int.tmod_eq_emod_of_nonneg (by omega)]; have := Hodd.out 0 hlt2; omega
            have hm2 : ((gam gs[0]).length : Int) % 2 = 1 := by have := Hodd.out 0 hlt2; omega
            go_wp2_with (go_at_call 21; refine Hrg.out.mono ?_; rintro e w7 ⟨rfl, hR7, ht7⟩; obtain ⟨y1, y2⟩ := Hcell2.out _ ht7 0 hlt2; rw [Nat.add_zero] at y1 y2; have HR7 := Lib.hid hR7; have Ht7 := Lib.hid ht7; clear hR7 ht7)
            go_quiet (fail)
            go_wp2
            go_roundw
            case rel => exact ⟨0 + 1, by omega, iv (by omega), Lib.hid (HR7.out.drewN _), Lib.hid ((Ht.out.trans Ht7.out).drewN _)⟩
            case measure => simp only [intOf]; omega
          | succ i =>
            have hlt1 : i < gs.length := by omega
            have hodd := Hodd.out (i + 1) hlt2
            have hm1 : ((gam gs[i + 1]).length : Int).tmod 2 = 1 := by rw [Int.tmod_eq_emod_of_nonneg (by omega)]; omega
            have hm2 : ((gam gs[i + 1]).length : Int) % 2 = 1 := by omega
            have hmon := Hmono.out i hlt2
            have hii : 0 ≤ (i : Int) ∧ (i : Int) < gs.length := by omega
            have hw1 : IntKind.i64.wrap (i : Int) = i := by rw [IntKind.wrap_i64]; omega
            have hw2 : IntKind.i64.wrap ((i : Int) + 1 - 1) = i := by rw [IntKind.wrap_i64]; omega
            by_cases hgt : gs[i] < gs[i + 1]
            · have hgt1 : ((gs[i] : Nat) : Int) < ((gs[i + 1] : Nat) : Int) := by omega
              have hsz1 : ¬ ((gam gs[i + 1]).length : Int) < ((gam gs[i]).length : Int) := by have := hmon (by omega); omega
              have hdec : decide (((gam gs[i + 1]).length : Int) < ((gam gs[i]).length : Int)) = false := decide_eq_false hsz1
              clear hodd hmon hgt
              go_wp2_with (go_at_call 21; refine Hrg.out.mono ?_; rintro e w7 ⟨rfl, hR7, ht7⟩; obtain ⟨y1, y2⟩ := Hcell2.out _ ht7 (i + 1) hlt2; obtain ⟨y3, y4⟩ := Hcell2.out _ ht7 i hlt1; have HR7 := Lib.hid hR7; have Ht7 := Lib.hid ht7; clear hR7 ht7)
              go_quiet (fail)
              go_wp2
              go_roundw
              case rel => exact ⟨i + 1 + 1, by omega, iv (by omega), Lib.hid (HR7.out.drewN _), Lib.hid ((Ht.out.trans Ht7.out).drewN _)⟩
              case measure => simp only [intOf]; omega
            · have hgt1 : ¬ ((gs[i] : Nat) : Int) < ((gs[i + 1] : Nat) : Int) := by omega
              have hdec : decide (((gs[i] : Nat) : Int) < ((gs[i + 1] : Nat) : Int)) = false := decide_eq_false hgt1
              have hdec2 : decide (gs[i] < gs[i + 1]) = false := decide_eq_false hgt
              clear hodd hmon
              go_wp2_with (go_at_call 21; refine Hrg.out.mono ?_; rintro e w7 ⟨rfl, hR7, ht7⟩; obtain ⟨y1, y2⟩ := Hcell2.out _ ht7 (i + 1) hlt2; obtain ⟨y3, y4⟩ := Hcell2.out _ ht7 i hlt1; have HR7 := Lib.hid hR7; have Ht7 := Lib.hid ht7; clear hR7 ht7)
              go_quiet (fail)
              go_wp2
              go_roundw
              case rel => exact ⟨i + 1 + 1, by omega, iv (by omega), Lib.hid (HR7.out.drewN _), Lib.hid ((Ht.out.trans Ht7.out).drewN _)⟩
              case measure => simp only [intOf]; omega
        · obtain rfl : j = gs.length := by omega
          have hR := HRd.out
          rw [List.take_length] at hR
          have hd := done_yes T (gamAll gs).length w6.heap.size wr Htl.out Hend.out.2.1 hR Hend.out.1 Hend.out.2.2
          have Hd := Lib.hid hd
          have hbl : Below w.heap.size w wr := HB.out.trans (Ht.out.below (fun k _ e => by have := HB.out.size; omega) HB.out.size)
          have Hbl := Lib.hid hbl
          clear hd hR hbl
          go_wp2_with (first
            | (go_at_call 22; refine Hd.out.mono ?_; rintro e w7 ⟨rfl, kd, rfl⟩)
            | (go_at_call 7; refine (awake_any _).mono ?_; rintro e w9 ⟨rfl, hb9⟩))
          go_ret
          exact ⟨rfl, bt (below_drewN Hbl.out _) hb9⟩

theorem bitsGamma_walk (A1 : Option Addr) (n1 c1 : Nat) (xs : List Int) (w : World) (hn1 : xs.length = n1) (hr1 : Reads w w.heap.size 1 A1 n1 (ints xs)) (hwf : ∀ x ∈ xs, x < 9223372036854775808) :
    Calls Try.prog 6 #[.slice A1 n1 c1] w fun e w' => e = .returned (.bool true) ∧ Below w.heap.size w w' := by
  by_cases h1 : n1 ≤ 200
  · exact bitsGamma_near A1 n1 c1 xs w hn1 h1 hr1 hwf
  · exact bitsGamma_far0 A1 n1 c1 w (by omega)

namespace BitsGamma
set_option maxRecDepth 100000 in
theorem lifted (os : Os) (started : os.Started) (H : Type) (enc : TypeId × Value → H) :
    ReturnsInHanded {} Try.checked os 6 .any (Rows.bitsGammaSpec.pre6 enc Try.prog Try.f6 Rows.bitsGammaRow.domain false) (Rows.bitsGammaSpec.post enc Try.prog Try.f6 false true false false) := by
  refine law_sized (C := Try.checked) (tb := 4) ownP started (by kernel_rfl) Try.func6
    (ChangeSpec.witness6 (enc := enc) (C := Try.checked) false ⟨#[], #[.slice none 0 0], []⟩ 8 (by kernel_rfl) (by kernel_rfl) (by kernel_rfl) (by kernel_rfl))
    laidP (by kernel_rfl) rfl (by kernel_rfl) Try.underlying4 (by intro ds h; match ds, h with | [_], _ => rfl) ?_
  intro W base args ds p hval0 hA0 hlt _
  have hval : ∀ (j : Nat) t v, Try.f6.params[j]? = some t → args[j]? = some v → Value.okWide Try.prog W .any base t v := hval0
  have hA : DataW.TrodAll enc Try.prog W 0 (fun _ => true) true Try.f6.params.toList args.toList ds p := hA0
  rw [Try.params6] at hA hval
  obtain ⟨v0, d0, rfl, rfl, h0⟩ := trodAll_one hA
  obtain ⟨Axs, nxs, cxs, xs, rfl, exs, hnxs, hmxs, hrxs, hbxs⟩ := open_nums rfl Try.underlying23 Try.underlying3 (by kernel_rfl) (hval 0 23 v0 rfl rfl) h0
  exact bitsGamma_walk Axs nxs cxs xs W exs hrxs hbxs

theorem holds : Rows.BitsGammaSaid :=
  OpenClaim.holds_of_wide 6 Try.f6 rfl rfl rfl rfl rfl rfl rfl ⟨rfl, rfl, rfl, rfl, rfl⟩ rfl rfl rfl rfl rfl (by kernel_rfl) Try.func6 (by kernel_rfl)
    (of_decide_eq_true (by kernel_rfl)) (by unfold Func.isWrapper; first | (rw [if_pos (by decide +kernel)]; kernel_rfl) | (rw [if_neg (by decide +kernel)]; exact ⟨rfl, rfl⟩))
    (fun os started H enc _ => lifted os started H enc)
end BitsGamma
end Go.Proofs.Ytakkljajoollgaa
