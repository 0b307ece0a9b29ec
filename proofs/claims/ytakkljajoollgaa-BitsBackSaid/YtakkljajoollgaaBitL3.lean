/-
  For any fields: what Pack packed, Unpack gets again by their widths, in as few bytes as their bits need, and the layer's probe holds (BitsBack). No condition.
-/
import Derived.Test.YtakkljajoollgaaBitL1
namespace Go.Proofs.Ytakkljajoollgaa
set_option linter.unusedSimpArgs false
set_option linter.unusedVariables false
open Go.ChangeShapes Go.WideShapes Go.ChangeAt Go.RowKit Go.Joins Go.Deep
set_option maxHeartbeats 2000000 in
/-- Beyond the sizes that the statement looks at: the probe alone. -/
theorem bitsBack_far0 (A1 : Option Addr) (n1 c1 : Nat) (w : World) (h : 1000 < n1) :
    Calls Try.prog 5 #[.slice A1 n1 c1] w fun e w' => e = .returned (.bool true) ∧ Below w.heap.size w w' := by
  have h1 : (1000 : Int) < n1 := by omega
  go_enter Try.func5, Try.ntmps5
  go_wp2_with (go_at_call 7; refine (awake_any _).mono ?_; rintro e w9 ⟨rfl, hb9⟩)
  go_ret
  exact ⟨rfl, hb9⟩

/-- What was packed comes back, wherever it stands. -/
theorem unpack_pack : ∀ (fs : List (Int × Int)) (r pre post : List Nat), packF fs = some r → unpackF (pre ++ (r ++ post)) pre.length (fs.map (·.2)) = (fs.map (·.1), ((pre.length + r.length : Nat) : Int), 0)
  | [], r, pre, post, h => by
    injection h with h
    subst h
    simp [unpackF]
  | f :: t, r, pre, post, h => by
    unfold packF at h
    split at h
    · rename_i hf
      cases hp : packF t with
      | none => rw [hp] at h; cases h
      | some r' =>
        rw [hp] at h
        injection h with h
        simp only at h
        subst h
        obtain ⟨h1, h2, h3, h4⟩ := hf
        obtain ⟨W, hW⟩ := Int.eq_ofNat_of_zero_le h1
        obtain ⟨N, hN⟩ := Int.eq_ofNat_of_zero_le h3
        have hd : (digI f.1 f.2).length = W := by unfold digI; rw [dig_length, hW, Int.toNat_natCast]
        have hnum : num (digI f.1 f.2) = N := by
          unfold digI
          rw [num_dig, hW, hN, Int.toNat_natCast, Int.toNat_natCast]
          refine Nat.mod_eq_of_lt ?_
          rw [hW, hN, Int.toNat_natCast] at h4
          exact_mod_cast h4
        have hg : getF (pre ++ (digI f.1 f.2 ++ r' ++ post)) pre.length f.2 = (f.1, 0) := by
          unfold getF
          rw [if_neg (by omega), if_neg (by simp only [List.length_append, hd]; omega), Int.toNat_natCast, List.drop_left' rfl, List.append_assoc, List.take_left' (by rw [hd, hW, Int.toNat_natCast]), hnum, hN]
        have ih := unpack_pack t r' (pre ++ digI f.1 f.2) post hp
        have e1 : pre ++ (digI f.1 f.2 ++ r' ++ post) = (pre ++ digI f.1 f.2) ++ (r' ++ post) := by simp
        have e2 : ((pre.length : Nat) : Int) + f.2 = (((pre ++ digI f.1 f.2).length : Nat) : Int) := by rw [List.length_append, hd, hW]; omega
        rw [List.map_cons, unpackF, hg]
        simp only [if_true]
        rw [e2, e1, ih]
        simp only [List.map_cons, List.length_append, Nat.add_assoc]
    · cases h
theorem pack_sum : ∀ (fs : List (Int × Int)) (r : List Nat), packF fs = some r → (fs.map (·.2)).sum = r.length
  | [], r, h => by
    injection h with h
    subst h
    rfl
  | f :: t, r, h => by
    unfold packF at h
    split at h
    · rename_i hf
      cases hp : packF t with
      | none => rw [hp] at h; cases h
      | some r' =>
        rw [hp] at h
        injection h with h
        simp only at h
        subst h
        rw [List.map_cons, List.sum_cons, pack_sum t r' hp, List.length_append]
        unfold digI
        rw [dig_length]
        have := hf.1
        omega
    · cases h
theorem pack_fits : ∀ (fs : List (Int × Int)) (r : List Nat), packF fs = some r → ∀ f ∈ fs, fits f.1 f.2
  | f :: t, r, h, g, hg => by
    unfold packF at h
    split at h
    · rename_i hf
      cases hp : packF t with
      | none => rw [hp] at h; cases h
      | some r' =>
        rcases List.mem_cons.1 hg with rfl | hg
        · exact hf
        · exact pack_fits t r' hp g hg
    · cases h
theorem sum_take (l : List Int) (k : Nat) (h : k < l.length) : (l.take (k + 1)).sum = (l.take k).sum + l[k] := by
  rw [List.take_succ_eq_append_getElem h, List.sum_append]
  simp
theorem sum_small : ∀ (l : List Int), (∀ x ∈ l, 0 ≤ x ∧ x ≤ 32) → 0 ≤ l.sum ∧ l.sum ≤ 32 * l.length
  | [], _ => by simp
  | x :: t, h => by
    have h1 := h x (by simp)
    have h2 := sum_small t (fun y hy => h y (by simp [hy]))
    rw [List.sum_cons, List.length_cons]
    omega

set_option maxHeartbeats 4000000 in
theorem bitsBack_none (A1 : Option Addr) (n1 c1 : Nat) (fs : List (Int × Int)) (w : World) (hn1 : fs.length = n1) (h1 : n1 ≤ 1000) (hr1 : Reads w w.heap.size 2 A1 n1 (pairs .i64 fs)) (hp : packF fs = none) :
    Calls Try.prog 5 #[.slice A1 n1 c1] w fun e w' => e = .returned (.bool true) ∧ Below w.heap.size w w' := by
  have hpack := pack_any fs A1 n1 c1 w hn1 h1 hr1
  unfold packV at hpack
  rw [hp] at hpack
  unfold strInt at hpack
  have i1 : ¬ (1000 : Int) < n1 := by omega
  have Hpack := Lib.hid hpack
  clear hpack hr1 hp hn1 h1
  go_enter Try.func5, Try.ntmps5
  go_wp2_with (first
    | (go_at_call 8; refine Hpack.out.mono ?_; rintro e w1 ⟨rfl, hb1⟩; have Hb1 := Lib.hid hb1; clear hb1)
    | (go_at_call 7; refine (awake_any _).mono ?_; rintro e w9 ⟨rfl, hb9⟩))
  go_ret
  exact ⟨rfl, bt Hb1.out hb9⟩

set_option maxRecDepth 100000 in
set_option maxHeartbeats 4000000 in
theorem bitsBack_some (A1 : Option Addr) (n1 c1 : Nat) (fs : List (Int × Int)) (w : World) (hn1 : fs.length = n1) (h1 : n1 ≤ 1000) (hr1 : Reads w w.heap.size 2 A1 n1 (pairs .i64 fs)) (r : List Nat) (hp : packF fs = some r) :
    Calls Try.prog 5 #[.slice A1 n1 c1] w fun e w' => e = .returned (.bool true) ∧ Below w.heap.size w w' := by
  obtain ⟨i0, hi, hz0, hz1, hz2⟩ := info_parts int_info
  have hpack : Calls Try.prog 8 #[.slice A1 n1 c1] w fun e w' => e = .returned (.tuple #[.string ⟨(text r).toArray⟩, .int .i64 0]) ∧ Below w.heap.size w w' := by
    have h := pack_any fs A1 n1 c1 w hn1 h1 hr1
    unfold packV at h
    rw [hp] at h
    exact h
  have hfit := pack_fits fs r hp
  have hlen := pack_len fs r hp
  have hsum := pack_sum fs r hp
  have hback := unpack_pack fs r [] (List.replicate (fr r) 0) hp
  rw [List.nil_append, ← row_text hlen.2] at hback
  simp only [List.length_nil, Nat.zero_add] at hback
  have htl := text_length r
  have hun := fun w0 A c hr0 => unpack_any (text r) (fs.map (·.2)) A n1 c w0 (by rw [htl]; omega) (by simpa using hn1) h1 hr0 _ hback
  have hrl : r.length ≤ 32000 := by have := hlen.1; omega
  have hml : (fs.map (·.1)).length = n1 := by simpa using hn1
  rw [hml] at hun
  have Hcell : Hid (0 < n1 → ∃ b off, A1 = some ⟨b, off, none⟩ ∧ b < w.heap.size ∧ ∀ k, (hk : k < fs.length) → w.cell? ⟨b, off + k * 2, none⟩ = some (.int .i64 fs[k].1) ∧ w.cell? ⟨b, off + k * 2 + 1, none⟩ = some (.int .i64 fs[k].2)) := Lib.hid fun h => fields_at hr1 h
  have Hn := Lib.hid hn1
  have Hfit := Lib.hid hfit
  have Hsum := Lib.hid hsum
  have Hun := Lib.hid hun
  have Hpack := Lib.hid hpack
  have Hrl := Lib.hid hrl
  have Htl := Lib.hid htl
  have i1 : ¬ (1000 : Int) < n1 := by omega
  have h1i : (n1 : Int) ≤ 1000 := by omega
  have Hmf : Hid ((fs.map (·.1)).length = n1) := Lib.hid (by simpa using hn1)
  clear hpack hr1 hp hn1 h1 hfit hlen hsum hback htl hun hrl
  generalize hT : text r = T at *
  clear hT
  go_enter Try.func5, Try.ntmps5
  go_wp2_with (first
    | (go_at_call 8; refine Hpack.out.mono ?_; rintro e w1 ⟨rfl, hb1⟩; have Hb1 := Lib.hid hb1; clear hb1))
  go_loopw [5, 6, 7] (fun v s i wr => ∃ (k : Nat) (S : Int), k ≤ n1 ∧ i = .int .i64 k ∧ s = .int .i64 S ∧ Hid (S = ((fs.map (·.2)).take k).sum ∧ 0 ≤ S ∧ S ≤ 32 * k) ∧ Hid (wr.ownsRow w.heap.size 3 1 v k (ints ((fs.map (·.2)).take k))) ∧ Hid (Below w.heap.size w wr)) (fun _ _ i _ => n1 - (intOf i).toNat)
  case atStart => exact ⟨0, 0, by omega, rfl, rfl, Lib.hid (by simp), Lib.hid (by simpa [ints] using World.ownsRow_nil w1 w.heap.size 3 1), Hb1.out⟩
  case round =>
    obtain ⟨k, S, hk, rfl, rfl, HS, Hown, Hb⟩ := hrel
    by_cases hlt : k < n1
    · have hkl : k < fs.length := by rw [Hn.out]; exact hlt
      obtain ⟨b, off, rfl, hb, hc⟩ := Hcell.out (by omega)
      have y2 := (hc k hkl).2
      have x2 : wr.cell? ⟨b, off + k * 2 + 1, none⟩ = some (.int .i64 fs[k].2) := (Hb.out.cell (p := ⟨b, off + k * 2 + 1, none⟩) hb).trans y2
      have hki : 0 ≤ (k : Int) ∧ (k : Int) < n1 := by omega
      have hszr := Hb.out.size
      have hfk := Hfit.out _ (List.getElem_mem hkl)
      have hw0 : 0 ≤ fs[k].2 := hfk.1
      have hw1 : fs[k].2 ≤ 32 := hfk.2.1
      have hS0 : 0 ≤ S := HS.out.2.1
      have hS1 : S ≤ 32000 := by have := HS.out.2.2; omega
      have hkm : k < (fs.map (·.2)).length := by simpa using hkl
      have Hnext : Hid (((fs.map (·.2)).take (k + 1)).sum = S + fs[k].2) := Lib.hid (by rw [sum_take _ _ hkm, ← HS.out.1]; simp)
      have Hints : Hid (ints ((fs.map (·.2)).take (k + 1)) = ints ((fs.map (·.2)).take k) ++ [.int .i64 fs[k].2]) := Lib.hid (by rw [List.take_succ_eq_append_getElem hkm]; simp [ints])
      clear hc y2 hfk hkm
      generalize fs[k].2 = fw at *
      clear hkl
      go_wp2_with (at_builtin; refine wpList_append_sep _ rfl _ _ 23 rfl w.heap.size 3 i0 (.int .i64 0) 1 8 Try.underlying23 hi hz0 hz1 hz2 rfl (by decide) _ _ _ rfl (Hown.out.alloc _) _ 1 1 _ _ rfl (reads_new wr 3 #[.int .i64 fw] 1 1 rfl) ?c1 ?c2 ?c3 ?c4 ?_)
      case c1 => exact rfl
      case c2 => unfold maxLen; omega
      case c3 => omega
      case c4 => first | omega | (simp; omega)
      intro v2 w2 hown2 hgrow hsep
      have hb2 : Below w.heap.size w w2 := (Hb.out.trans ((Below.refl _ _).alloc hszr _)).grown hgrow (by simp; omega) (fun g hg => (Hown.out.lt g hg).1)
      have hown3 : w2.ownsRow w.heap.size 3 1 v2 (k + 1) (ints ((fs.map (·.2)).take (k + 1))) := by
        rw [Hints.out]
        exact hown2
      have z2 : w2.cell? ⟨b, off + k * 2 + 1, none⟩ = some (.int .i64 fw) := by
        rw [← x2]
        exact (hb2.cell (p := ⟨b, off + k * 2 + 1, none⟩) hb).trans (Hb.out.cell (p := ⟨b, off + k * 2 + 1, none⟩) hb).symm
      have Hb2 := Lib.hid hb2
      have Hown3 := Lib.hid hown3
      clear hb2 hown3 hown2 hgrow hsep x2
      go_wp2
      go_roundw
      case rel => exact ⟨k + 1, S + fw, by omega, iv (by omega), iv (by omega), Lib.hid ⟨Hnext.out.symm, by omega, by have := HS.out.2.2; omega⟩, Hown3.out, Hb2.out⟩
      case measure => simp only [intOf]; omega
    · obtain rfl : k = n1 := by omega
      have hfull : (fs.map (·.2)).take k = fs.map (·.2) := List.take_of_length_le (by rw [List.length_map, Hn.out]; omega)
      have hS := HS.out.1
      have hown := Hown.out
      rw [hfull] at hS hown
      obtain ⟨A', c', rfl, hc', hr'⟩ := owns_cells hown
      have hcall := Hun.out wr A' c' hr'
      have hSr : S = (r.length : Int) := by rw [hS]; exact Hsum.out
      have HSr := Lib.hid hSr
      have Hcall := Lib.hid hcall
      have hr0 : (r.length : Int) ≤ 32000 := by have := Hrl.out; omega
      have hT8 : ((T.length : Int) != ((r.length : Int) + 7) / 8) = false := by rw [bne_eq_false_iff_eq, Htl.out]; omega
      clear hcall hr' hc' hown hS Hown HS
      rw [hSr]
      clear hSr
      generalize hrn : r.length = rn at *
      clear hrn
      go_wp2_with (go_at_call 10; refine Hcall.out.mono ?_; rintro e w2 ⟨A3, c3, rfl, hr3, hb3⟩; have Hb3 := Lib.hid (bt Hb.out hb3); have Hr3 := Lib.hid hr3; clear hb3 hr3)
      clear hT8
      go_loopw [11] (fun i wr => ∃ j : Nat, j ≤ k ∧ i = .int .i64 j ∧ Hid (Below w2.heap.size w2 wr)) (fun i _ => k - (intOf i).toNat)
      case atStart => exact ⟨0, by omega, rfl, Lib.hid (Below.refl _ _)⟩
      case round =>
        obtain ⟨j, hj, rfl, Hbq⟩ := hrel
        by_cases hlt2 : j < k
        · have hkl : j < fs.length := by rw [Hn.out]; exact hlt2
          obtain ⟨b, off, rfl, hb, hc⟩ := Hcell.out (by omega)
          obtain ⟨b3, off3, rfl, hb3, hc3⟩ := Hr3.out.2 (by omega)
          have hs2 := Hb3.out.size
          have x1 : wr.cell? ⟨b, off + j * 2, none⟩ = some (.int .i64 fs[j].1) := (Hbq.out.cell (p := ⟨b, off + j * 2, none⟩) (by simp only; omega)).trans ((Hb3.out.cell (p := ⟨b, off + j * 2, none⟩) hb).trans (hc j hkl).1)
          have x3 : wr.cell? ⟨b3, off3 + j, none⟩ = some (.int .i64 fs[j].1) := (Hbq.out.cell (p := ⟨b3, off3 + j, none⟩) hb3).trans (hc3 j _ (by
            have hjm : j < (fs.map (·.1)).length := by simpa using hkl
            rw [ints_get _ _ hjm]
            simp))
          have hji : 0 ≤ (j : Int) ∧ (j : Int) < k := by omega
          clear hc hc3
          generalize fs[j].1 = fv at *
          clear hkl
          go_wp2
          go_quiet (fail)
          go_wp2
          go_roundw
          case rel => exact ⟨j + 1, by omega, iv (by omega), Lib.hid (below_drewN Hbq.out _)⟩
          case measure => simp only [intOf]; omega
        · obtain rfl : j = k := by omega
          go_wp2_with (go_at_call 7; refine (awake_any _).mono ?_; rintro e w9 ⟨rfl, hb9⟩)
          go_ret
          exact ⟨rfl, bt (bt Hb3.out Hbq.out) hb9⟩

theorem bitsBack_walk (A1 : Option Addr) (n1 c1 : Nat) (fs : List (Int × Int)) (w : World) (hn1 : fs.length = n1) (hr1 : Reads w w.heap.size 2 A1 n1 (pairs .i64 fs)) :
    Calls Try.prog 5 #[.slice A1 n1 c1] w fun e w' => e = .returned (.bool true) ∧ Below w.heap.size w w' := by
  by_cases h1 : n1 ≤ 1000
  · cases hp : packF fs with
    | some r => exact bitsBack_some A1 n1 c1 fs w hn1 h1 hr1 r hp
    | none => exact bitsBack_none A1 n1 c1 fs w hn1 h1 hr1 hp
  · exact bitsBack_far0 A1 n1 c1 w (by omega)

namespace BitsBack
set_option maxRecDepth 100000 in
theorem lifted (os : Os) (started : os.Started) (H : Type) (enc : TypeId × Value → H) :
    ReturnsInHanded {} Try.checked os 5 .any (Rows.bitsBackSpec.pre6 enc Try.prog Try.f5 Rows.bitsBackRow.domain false) (Rows.bitsBackSpec.post enc Try.prog Try.f5 false true false false) := by
  refine law_sized (C := Try.checked) (tb := 4) ownP started (by kernel_rfl) Try.func5
    (ChangeSpec.witness6 (enc := enc) (C := Try.checked) false ⟨#[], #[.slice none 0 0], []⟩ 8 (by kernel_rfl) (by kernel_rfl) (by kernel_rfl) (by kernel_rfl))
    laidP (by kernel_rfl) rfl (by kernel_rfl) Try.underlying4 (by intro ds h; match ds, h with | [_], _ => rfl) ?_
  intro W base args ds p hval0 hA0 hlt _
  have hval : ∀ (j : Nat) t v, Try.f5.params[j]? = some t → args[j]? = some v → Value.okWide Try.prog W .any base t v := hval0
  have hA : DataW.TrodAll enc Try.prog W 0 (fun _ => true) true Try.f5.params.toList args.toList ds p := hA0
  rw [Try.params5] at hA hval
  obtain ⟨v0, d0, rfl, rfl, h0⟩ := trodAll_one hA
  obtain ⟨Afs, nfs, cfs, fs, rfl, efs, hnfs, hmfs, hrfs, hbfs⟩ := open_pair_slice Try.underlying22 Try.underlying41 (by kernel_rfl) rfl rfl (by kernel_rfl) (by kernel_rfl) Try.underlying3 Try.underlying3 (hval 0 22 v0 rfl rfl) h0
  exact bitsBack_walk Afs nfs cfs fs W efs hrfs

theorem holds : Rows.BitsBackSaid :=
  OpenClaim.holds_of_wide 5 Try.f5 rfl rfl rfl rfl rfl rfl rfl ⟨rfl, rfl, rfl, rfl, rfl⟩ rfl rfl rfl rfl rfl (by kernel_rfl) Try.func5 (by kernel_rfl)
    (of_decide_eq_true (by kernel_rfl)) (by unfold Func.isWrapper; first | (rw [if_pos (by decide +kernel)]; kernel_rfl) | (rw [if_neg (by decide +kernel)]; exact ⟨rfl, rfl⟩))
    (fun os started H enc _ => lifted os started H enc)
end BitsBack
end Go.Proofs.Ytakkljajoollgaa
