/-
  Layer 21, the program's: PutFoot.
-/
import Derived.Test.YtjodckinfoldgaaHdB
import Derived.Test.YtjodckinfoldgaaPcP
namespace Go.Proofs.Ytjodckinfoldgaa
set_option linter.unusedSimpArgs false
set_option linter.unusedVariables false
open Go.ChangeShapes Go.WideShapes Go.ChangeAt Go.RowKit Go.Joins Go.Deep
theorem int_info21 : (Try.prog.info? 3).map (fun i => (i.zero, i.size, i.bytes)) = some (some (.int .i64 0), 1, 8) := by kernel_rfl
def hnum (l : List Mt) (k : Nat) : List Int := (l.length : Int) :: (l.take k).flatMap hm7
theorem hnum_len (l : List Mt) : ∀ k, k ≤ l.length → (hnum l k).length = 1 + k * 7
  | 0, _ => by simp [hnum]
  | k + 1, h => by
    have ih := hnum_len l k (by omega)
    unfold hnum at ih ⊢
    rw [List.take_succ_eq_append_getElem (by omega), List.flatMap_append, List.length_cons, List.length_append]
    rw [List.length_cons] at ih
    simp only [List.flatMap_cons, List.flatMap_nil, List.append_nil]
    have : (hm7 l[k]).length = 7 := rfl
    omega
theorem hnum_snoc (l : List Mt) (k : Nat) (h : k < l.length) : hnum l (k + 1) = hnum l k ++ hm7 l[k] := by
  unfold hnum
  rw [List.take_succ_eq_append_getElem h, List.flatMap_append]
  simp
theorem hnum_all (l : List Mt) : ppB (hnum l l.length) = hfB l := by
  unfold hnum ppB hfB
  rw [List.take_length, List.flatMap_cons]
  congr 1
  induction l with
  | nil => rfl
  | cons m l ih => rw [List.flatMap_cons, List.flatMap_append, ih, List.flatMap_cons]; rfl
theorem hnum_small {l : List Mt} (h : ∀ i (hi : i < l.length), hm1 l[i] = true) (hn : l.length ≤ 1000000) (k : Nat) : ∀ x ∈ hnum l k, x < 9223372036854775808 := by
  intro x hx
  rcases List.mem_cons.1 hx with rfl | hx
  · omega
  · obtain ⟨m, hm, hx⟩ := List.mem_flatMap.1 hx
    obtain ⟨i, hi, rfl⟩ := List.getElem_of_mem (List.mem_of_mem_take hm)
    exact (hm7_small (h i hi) x hx).2
structure HNum (w wr : World) (v : Value) (L : List Int) : Prop where
  own : wr.ownsRow w.heap.size 3 1 v L.length (ints L)
  below : Below w.heap.size w wr
theorem HNum.on {w w1 w2 : World} {v : Value} {L : List Int} (h : HNum w w1 v L) (hb : Below w1.heap.size w1 w2) : HNum w w2 v L :=
  ⟨owns_below h.own hb (Nat.le_refl _), h.below.trans (hb.mono h.below.size)⟩
theorem HNum.add {w w1 w2 : World} {v v' : Value} {L X : List Int} (h : HNum w w1 v L) {n : Nat} (hn : n = L.length + X.length) (ho : w2.ownsRow w.heap.size 3 1 v' n (ints L ++ ints X)) (hg : w1.grownBy w2 v.ownBlock) : HNum w w2 v' (L ++ X) := by
  refine ⟨?_, h.below.grown hg h.below.size fun b hb => (h.own.lt b hb).1⟩
  rw [List.length_append, ← hn, show ints (L ++ X) = ints L ++ ints X by simp [ints]]
  exact ho
theorem hnew_one {w w1 : World} (x : Int) (hb : Below w.heap.size w w1) : HNum w (w1.alloc (.cells #[.int .i64 x] 3)) (.slice (some ⟨w1.heap.size, 0, none⟩) 1 1) [x] :=
  ⟨⟨rfl, Or.inr ⟨w1.heap.size, 1, #[.int .i64 x], rfl, hb.size, Blk.new w1 _ _, Nat.le_refl _, by unfold maxLen; omega, rfl, rfl⟩⟩, hb.alloc hb.size _⟩
theorem hints_one (l : List Int) : ∀ u ∈ ints l, u.oneCell' = true := by
  intro u hu
  obtain ⟨b, _, rfl⟩ := List.mem_map.1 hu
  rfl
set_option maxRecDepth 100000 in
set_option maxHeartbeats 4000000 in
theorem p_hpf_any (l : List Mt) (A : Option Addr) (n c : Nat) (w : World) (hl : l.length = n) (hn : n ≤ 1000000) (hr : Reads w w.heap.size 7 A n (dcs mtc l)) : Calls Try.prog 14 #[.slice A n c] w fun e w' => e = .returned (.tuple #[.string ⟨(hpfF l).1.toArray⟩, .int .i64 (hpfF l).2]) ∧ Below w.heap.size w w' := by
  have C := Lib.hid (p_hblk_any l A n c w hl hn hr)
  unfold hblkF at C
  unfold hpfF
  by_cases hk : hrow l = true
  case neg =>
    rw [if_neg hk] at C ⊢
    clear hr hl hk
    go_enter Try.func14, Try.ntmps14
    go_wp2_with (first | (go_at_call 20; (with_reducible refine C.out.mono ?_); rintro e w1 ⟨rfl, hb1⟩; have HB := Lib.hid hb1; clear hb1 C) | fail)
    go_ret2
    exact ⟨rfl, HB.out⟩
  case pos =>
    rw [if_pos hk] at C ⊢
    have hk2 := (hrow_iff l).1 hk
    obtain ⟨i0, hi, hz0, hz1, hz2⟩ := info_parts int_info21
    have HC : Hid (0 < n → ∃ b off, A = some ⟨b, off, none⟩ ∧ b < w.heap.size ∧ ∀ i (hi : i < l.length), ∀ j u, (mtc l[i])[j]? = some u → w.cell? ⟨b, off + i * 7 + j, none⟩ = some u) := Lib.hid fun h => mt_cells hr hl h
    have HL := Lib.hid hl
    have HK : Hid (∀ i (hi : i < l.length), hm1 l[i] = true) := Lib.hid fun i hi => (hk2.2 i hi).1
    have HS : Hid (n ≤ 1000) := Lib.hid (by rw [← hl]; exact hk2.1)
    have P : Hid (∀ A c W, Reads W W.heap.size 1 A (hnum l n).length (ints (hnum l n)) → Calls Try.prog 26 #[.slice A (hnum l n).length c] W fun e w' => e = .returned (.string ⟨(hfB l).toArray⟩) ∧ Below W.heap.size W w') := Lib.hid fun A c W hr => by
      have hlen := hnum_len l n (by omega)
      have := p_pput_any (hnum l n) A (hnum l n).length c W rfl (by have := HS.out; omega) hr (hnum_small HK.out (by omega) n)
      rw [show hnum l n = hnum l l.length by rw [hl]] at this ⊢
      rw [hnum_all] at this
      exact this
    have H0 : Hid (hnum l 0 = [(n : Int)]) := Lib.hid (by simp [hnum, hl])
    clear hr hl hk hk2
    generalize hfB l = T at *
    go_enter Try.func14, Try.ntmps14
    go_wp2_with (first
      | (go_at_call 20; (with_reducible refine C.out.mono ?_); rintro e w1 ⟨rfl, hb1⟩; have HB := Lib.hid hb1; clear hb1 C)
      | fail)
    go_loopw [5, 7, 18] (fun v _ iv wr => ∃ k : Nat, k ≤ n ∧ iv = .int .i64 (k : Int) ∧ Hid (HNum w wr v (hnum l k))) (fun _ _ iv _ => n - (intOf iv).toNat)
    case atStart => exact ⟨0, by omega, rfl, Lib.hid (by rw [H0.out]; exact hnew_one _ HB.out)⟩
    case round =>
      clear HB
      obtain ⟨k, hk, rfl, HN⟩ := hrel
      by_cases hlt : k < n
      case pos =>
        have hkl : k < l.length := by have := HL.out; omega
        obtain ⟨b, off, rfl, hb, hcell⟩ := HC.out (by omega)
        have hct : ∀ j u, (mtc l[k])[j]? = some u → wr.cell? ⟨b, off + k * 7 + j, none⟩ = some u := fun j u hu => (HN.out.below.cell (p := ⟨b, off + k * 7 + j, none⟩) hb).trans (hcell k hkl j u hu)
        have hki : (0 : Int) ≤ (k : Int) ∧ (k : Int) < (n : Int) := by omega
        have hg := HK.out k hkl
        have hx := hnum_snoc l k hkl
        have hlen := hnum_len l k (by omega)
        have hs := HS.out
        obtain ⟨m, hm⟩ : ∃ m, l[k] = m := ⟨_, rfl⟩
        rw [hm] at hct hg hx
        have HX := Lib.hid hx
        generalize hnum l k = L at *
        clear hm hcell HC HK P hx
        have hg2 := (hm1_iff m).1 hg
        obtain ⟨at_, sz, raw, ct, fi, ea, la⟩ := m
        have c0 := hct 0 _ rfl; have c1 := hct 1 _ rfl; have c2 := hct 2 _ rfl; have c3 := hct 3 _ rfl; have c4 := hct 4 _ rfl; have c5 := hct 5 _ rfl; have c6 := hct 6 _ rfl
        dsimp only at c0 c1 c2 c3 c4 c5 c6 hg2
        rw [Nat.add_zero] at c0
        have hw : IntKind.i64.wrap (la - ea) = la - ea := by rw [IntKind.wrap_i64]; omega
        have hl7 : Hid (ints (hm7 (at_, sz, raw, ct, fi, ea, la)) = #[.int .i64 at_, .int .i64 sz, .int .i64 raw, .int .i64 ct, .int .i64 fi, .int .i64 ea, .int .i64 (la - ea)].toList) := Lib.hid rfl
        clear hct hg hg2
        go_wp2_with (refine wpList_append_own _ rfl _ _ 60 rfl w.heap.size 3 i0 (.int .i64 0) 1 8 Try.underlying60 hi hz0 hz1 hz2 rfl (by decide) _ _ _ rfl ((HN.out.own.alloc _).alloc _) ⟨wr.heap.size + 1, 0, none⟩ 7 7 (ints (hm7 (at_, sz, raw, ct, fi, ea, la))) rfl rfl ?c1 ?c2 ?c3 ?c4 ?c5 ?_)
        case c1 => exact fun j u h => h
        case c2 => exact hints_one _
        case c3 => unfold maxLen; omega
        case c4 => omega
        case c5 => have := HN.out.below.size; (try simp only [World.size_alloc]); omega
        · intro v' w5 hown' hgrow _
          have HN5 : Hid (HNum w w5 v' (L ++ hm7 (at_, sz, raw, ct, fi, ea, la))) := Lib.hid ((HN.out.on (((Below.refl _ _).alloc (Nat.le_refl _) _).alloc (by rw [World.size_alloc]; omega) _)).add (by rw [hlen]; rfl) hown' hgrow)
          rw [← HX.out] at HN5
          clear hown' hgrow
          go_wp2
          go_roundw
          case rel => exact ⟨k + 1, by omega, iv (by omega), HN5⟩
          case measure => simp only [intOf]; omega
      case neg =>
        obtain rfl : k = n := by omega
        have hz : ¬ (k : Int) < (k : Int) := by omega
        obtain ⟨A2, cc2, hv2, hc2, hr2⟩ := owns_cells HN.out.own
        have PP := Lib.hid (P.out A2 cc2 wr hr2)
        have HBr := Lib.hid HN.out.below
        subst hv2
        clear HC HK H0 hlt P hr2 hc2 HN
        go_wp2_with (first | (go_at_call 26; (with_reducible refine PP.out.mono ?_); rintro e w6 ⟨rfl, hb6⟩; have HB6 := Lib.hid (HBr.out.trans (hb6.mono HBr.out.size)); clear hb6 PP) | fail)
        go_ret2
        exact ⟨rfl, HB6.out⟩
end Go.Proofs.Ytjodckinfoldgaa
