/-
  For any bytes and any two rows of wants: pieces that are taken in two parts, the second one of what the first one left, are those that are taken at once, and the layer's probe holds (TakeParts). No condition.
-/
import Derived.Test.YtbibjcgnaibhlaaTakeL1
import Derived.Test.YtbibjcgnaibhlaaAppend
namespace Go.Proofs.Ytbibjcgnaibhlaa
set_option linter.unusedSimpArgs false
set_option linter.unusedVariables false
open Go.ChangeShapes Go.WideShapes Go.ChangeAt Go.RowKit Go.Joins Go.Deep

theorem want_info : (Try.prog.info? 36).map (fun i => (i.zero, i.size, i.bytes)) = some (some (.agg #[.int .i64 0, .int .i64 0]), 2, 16) := by kernel_rfl
theorem pairs_one {ws : List (Int × Int)} : ∀ u ∈ pairs .i64 ws, u.oneCell' = true := by
  intro u hu
  obtain ⟨r, _, hr⟩ := List.mem_flatMap.1 hu
  simp at hr
  rcases hr with rfl | rfl <;> rfl
theorem gots_one {gs : List (Int × List UInt8)} : ∀ u ∈ gots gs, u.oneCell' = true := by
  intro u hu
  obtain ⟨r, _, hr⟩ := List.mem_flatMap.1 hu
  simp at hr
  rcases hr with rfl | rfl <;> rfl
theorem pairs_append (a b : List (Int × Int)) : pairs .i64 (a ++ b) = pairs .i64 a ++ pairs .i64 b := by simp [pairs]

set_option maxHeartbeats 2000000 in
/-- Beyond the sizes that the statement looks at: the probe alone. -/
theorem takeParts_far (l : List UInt8) (A B : Option Addr) (n c m d : Nat) (w : World) (h : ¬ n ≤ 200 ∨ ¬ m ≤ 200 ∨ 10000 < l.length) :
    Calls Try.prog 5 #[.string ⟨l.toArray⟩, .slice A n c, .slice B m d] w fun e w' => e = .returned (.bool true) ∧ Below w.heap.size w w' := by
  by_cases h1 : n ≤ 200
  · by_cases h2 : m ≤ 200
    · have h3 : 10000 < l.length := by omega
      have hf := few_yes A c h1
      have hg := few_yes B d h2
      clear h
      go_enter Try.func5, Try.ntmps5
      go_wp2_with (first | (go_at_call 7; (with_reducible refine (hf _).mono ?_); rintro e w0 ⟨rfl, rfl⟩) | (go_at_call 7; (with_reducible refine (hg _).mono ?_); rintro e w0 ⟨rfl, rfl⟩) | (go_at_call 8; refine (awake_any _).mono ?_; rintro e w9 ⟨rfl, hb9⟩))
      go_ret
      exact ⟨rfl, hb9⟩
    · have hf := few_yes A c h1
      have hg := few_no B d h2
      clear h
      go_enter Try.func5, Try.ntmps5
      go_wp2_with (first | (go_at_call 7; (with_reducible refine (hf _).mono ?_); rintro e w0 ⟨rfl, rfl⟩) | (go_at_call 7; (with_reducible refine (hg _).mono ?_); rintro e w0 ⟨rfl, rfl⟩) | (go_at_call 8; refine (awake_any _).mono ?_; rintro e w9 ⟨rfl, hb9⟩))
      go_ret
      exact ⟨rfl, hb9⟩
  · have hf := few_no A c h1
    clear h
    go_enter Try.func5, Try.ntmps5
    go_wp2_with (first | (go_at_call 7; (with_reducible refine (hf _).mono ?_); rintro e w0 ⟨rfl, rfl⟩) | (go_at_call 8; refine (awake_any _).mono ?_; rintro e w9 ⟨rfl, hb9⟩))
    go_ret
    exact ⟨rfl, hb9⟩

set_option maxRecDepth 100000 in
set_option maxHeartbeats 4000000 in
/-- Where the first part has a fault. -/
theorem takeParts_fault (l : List UInt8) (A B : Option Addr) (n c m d : Nat) (ua ub : List (Int × Int)) (w : World) (hn : ua.length = n) (h1 : n ≤ 200) (h2 : m ≤ 200) (h3 : l.length ≤ 10000) (hr : Reads w w.heap.size 2 A n (pairs .i64 ua))
    (gs : List (Int × List UInt8)) (q e : Int) (hR : runF l 0 ua = (gs, q, e)) (he : e ≠ 0) :
    Calls Try.prog 5 #[.string ⟨l.toArray⟩, .slice A n c, .slice B m d] w fun e w' => e = .returned (.bool true) ∧ Below w.heap.size w w' := by
  have hf := few_yes A c h1
  have hg := few_yes B d h2
  have hrun := fun w0 hr0 => run_any l A n c ua w0 (by omega) hn (by omega) hr0 _ hR
  have hlt : (gs.length : Int) < n := by
    have := (runF_len (l := l) ua 0).2
    rw [hR] at this
    have := this he
    simp only at this
    omega
  have hen : (e != 0) = true := by simpa using he
  have Hr := Lib.hid hr
  clear hn hr hR he
  go_enter Try.func5, Try.ntmps5
  go_wp2_with (first
    | (go_at_call 7; (with_reducible refine (hf _).mono ?_); rintro e w0 ⟨rfl, rfl⟩) | (go_at_call 7; (with_reducible refine (hg _).mono ?_); rintro e w0 ⟨rfl, rfl⟩)
    | (go_at_call 9; refine (hrun _ Hr.out).mono ?_; rintro e w1 ⟨A1, c1, rfl, hr1, hb1⟩; have Hb1 := Lib.hid hb1; clear hr1 hb1)
    | (go_at_call 8; refine (awake_any _).mono ?_; rintro e w9 ⟨rfl, hb9⟩))
  go_ret
  exact ⟨rfl, Hb1.out.trans (hb9.mono Hb1.out.size)⟩

set_option maxRecDepth 100000 in
set_option maxHeartbeats 8000000 in
theorem takeParts_near (l : List UInt8) (A B : Option Addr) (n c m d : Nat) (ua ub : List (Int × Int)) (w : World) (hn : ua.length = n) (hm : ub.length = m) (h1 : n ≤ 200) (h2 : m ≤ 200) (h3 : l.length ≤ 10000) (hr : Reads w w.heap.size 2 A n (pairs .i64 ua)) (hs : Reads w w.heap.size 2 B m (pairs .i64 ub))
    (gs ms : List (Int × List UInt8)) (q to f : Int) (hR : runF l 0 ua = (gs, q, 0)) (hS : runF (l.drop q.toNat) 0 ub = (ms, to, f)) :
    Calls Try.prog 5 #[.string ⟨l.toArray⟩, .slice A n c, .slice B m d] w fun e w' => e = .returned (.bool true) ∧ Below w.heap.size w w' := by
  obtain ⟨i0, hi, hz0, hz1, hz2⟩ := info_parts want_info
  obtain ⟨j0, hj, hy0, hy1, hy2⟩ := info_parts got_info
  have hf := few_yes A c h1
  have hg := few_yes B d h2
  have hq := runF_le (l := l) ua 0 (Int.le_refl _) (by omega)
  have hgl := (runF_len (l := l) ua 0).1
  have hml := (runF_len (l := l.drop q.toNat) ub 0).1
  have hto := runF_le (l := l.drop q.toNat) ub 0 (Int.le_refl _) (by omega)
  obtain ⟨gm, hgm⟩ : ∃ gm, gm = gs ++ ms := ⟨_, rfl⟩
  have hT : runF l 0 (ua ++ ub) = (gm, q + to, f) := by
    rw [hgm]
    rw [runF_parts l ua ub (by rw [hR]), hR]
    simp only
    rw [hS]
  rw [hR] at hq hgl
  rw [hS] at hml hto
  simp only [List.length_drop] at hq hgl hml hto
  have hrun1 := fun w0 hr0 => run_any l A n c ua w0 (by omega) hn (by omega) hr0 _ hR
  have hrun2 := fun w0 hr0 => run_any (l.drop q.toNat) B m d ub w0 (by rw [List.length_drop]; omega) hm (by omega) hr0 _ hS
  have hrun3 := fun A' c' w0 hr0 => run_any l A' (n + m) c' (ua ++ ub) w0 (by omega) (by rw [List.length_append, hn, hm]) (by omega) hr0 _ hT
  have Hlen : Hid (gs.length ≤ 200 ∧ ms.length ≤ 200 ∧ gm.length = gs.length + ms.length ∧ gots gm = gots gs ++ gots ms) := Lib.hid ⟨by omega, by omega, by rw [hgm, List.length_append], by rw [hgm, gots_append]⟩
  have hsl := run_rest l q (by omega) (by omega)
  have hq0 : ¬ q < 0 := by omega
  have hq1 : ¬ (l.length : Int) < q := by omega
  have ht0 : 0 ≤ to := by omega
  have ht1 : q + to ≤ 10000 := by omega
  have Hr := Lib.hid hr
  have Hs := Lib.hid hs
  clear hn hm hr hs hR hS hT hq hgl hml hto hgm
  go_enter Try.func5, Try.ntmps5
  go_wp2_with (first
    | (go_at_call 7; (with_reducible refine (hf _).mono ?_); rintro e w0 ⟨rfl, rfl⟩) | (go_at_call 7; (with_reducible refine (hg _).mono ?_); rintro e w0 ⟨rfl, rfl⟩)
    | (go_at_call 9; (with_reducible refine (hrun1 _ Hr.out).mono ?_); rintro e w1 ⟨A1, c1, rfl, hr1, hb1⟩; have Hb1 := Lib.hid hb1; have Hr1 := Lib.hid hr1; clear hr1 hb1)
    | (go_at_call 9; (with_reducible refine (hrun2 _ ((Hs.out.below Hb1.out).more Hb1.out.size)).mono ?_); rintro e w2 ⟨A2, c2, rfl, hr2, hb2⟩; have Hb2 : Hid (Below w.heap.size w w2) := Lib.hid (Hb1.out.trans (hb2.mono Hb1.out.size)); have Hr2 := Lib.hid hr2; have Hr1' := Lib.hid ((Hr1.out.below hb2).more hb2.size); clear hr2 hb2)
    | (at_builtin; refine wpList_append_any _ rfl _ _ 22 rfl w2.heap.size 36 i0 (.agg #[.int .i64 0, .int .i64 0]) 2 16 Try.underlying22 hi hz0 hz1 hz2 rfl (by decide) _ 0 [] rfl ?o1 A n c w.heap.size (pairs .i64 ua) rfl ?r1 pairs_one ?c1 ?c2 ?c3 ?_))
  case o1 => exact World.ownsRow_lit w2 #[] 0 (Nat.le_refl _) (by decide) rfl
  case r1 => exact Hr.out.below (Hb2.out.alloc Hb2.out.size _)
  case c1 => unfold maxLen; omega
  case c2 => omega
  case c3 => simp
  intro v3 w3 hown3 hgrow3
  have Hc3 : Hid (Below w2.heap.size w2 w3) := Lib.hid (((Below.refl _ _).alloc (Nat.le_refl _) _).grown hgrow3 (by simp) (fun g hg => by simp [Value.ownBlock] at hg; omega))
  have Hb3 : Hid (Below w.heap.size w w3) := Lib.hid (Hb2.out.trans (Hc3.out.mono Hb2.out.size))
  have Hown3 := Lib.hid hown3
  clear hown3 hgrow3
  go_wp2_with (at_builtin; refine wpList_append_any _ rfl _ _ 22 rfl w2.heap.size 36 i0 (.agg #[.int .i64 0, .int .i64 0]) 2 16 Try.underlying22 hi hz0 hz1 hz2 rfl (by decide) _ _ _ rfl Hown3.out B m d w.heap.size (pairs .i64 ub) rfl ?r1 pairs_one ?c1 ?c2 ?c3 ?_)
  case r1 => exact Hs.out.below Hb3.out
  case c1 => unfold maxLen; omega
  case c2 => omega
  case c3 => exact Hc3.out.size
  intro v4 w4 hown4 hgrow4
  have Hc4 : Hid (Below w2.heap.size w2 w4) := Lib.hid (Hc3.out.grown hgrow4 Hc3.out.size (fun g hg => (Hown3.out.lt g hg).1))
  have hown4' : w4.ownsRow w2.heap.size 36 2 v4 (n + m) (pairs .i64 (ua ++ ub)) := by
    rw [pairs_append]
    simpa using hown4
  obtain ⟨A4, c4, hv4, hR4⟩ := owns_reads hown4'
  rw [hv4]
  have HR4 := Lib.hid hR4
  clear hown4 hown4' hgrow4 Hown3 hR4 hv4
  go_wp2_with (first
    | (go_at_call 9; (with_reducible refine (hrun3 A4 c4 _ HR4.out).mono ?_); rintro e w5 ⟨A5, c5, rfl, hr5, hb5⟩; have Hc5 : Hid (Below w2.heap.size w2 w5) := Lib.hid (Hc4.out.trans (hb5.mono Hc4.out.size)); have Hr5 := Lib.hid hr5; clear hr5 hb5)
    | (at_builtin; refine wpList_append_any _ rfl _ _ 25 rfl w5.heap.size 44 j0 (.agg #[.int .i64 0, .string ⟨#[]⟩]) 2 24 Try.underlying25 hj hy0 hy1 hy2 rfl (by decide) _ 0 [] rfl ?o1 A1 gs.length c1 w2.heap.size (gots gs) rfl ?r1 gots_one ?c1 ?c2 ?c3 ?_))
  case o1 => exact World.ownsRow_lit w5 #[] 0 (Nat.le_refl _) (by decide) rfl
  case r1 => exact Hr1'.out.below (Hc5.out.alloc Hc5.out.size _)
  case c1 => have := Hlen.out; unfold maxLen; omega
  case c2 => have := Hlen.out; omega
  case c3 => simp
  intro v6 w6 hown6 hgrow6
  have Hd6 : Hid (Below w5.heap.size w5 w6) := Lib.hid (((Below.refl _ _).alloc (Nat.le_refl _) _).grown hgrow6 (by simp) (fun g hg => by simp [Value.ownBlock] at hg; omega))
  have Hc6 : Hid (Below w2.heap.size w2 w6) := Lib.hid (Hc5.out.trans (Hd6.out.mono Hc5.out.size))
  have Hown6 := Lib.hid hown6
  clear hown6 hgrow6
  go_wp2_with (at_builtin; refine wpList_append_any _ rfl _ _ 25 rfl w5.heap.size 44 j0 (.agg #[.int .i64 0, .string ⟨#[]⟩]) 2 24 Try.underlying25 hj hy0 hy1 hy2 rfl (by decide) _ _ _ rfl Hown6.out A2 ms.length c2 w2.heap.size (gots ms) rfl ?r1 gots_one ?c1 ?c2 ?c3 ?_)
  case r1 => exact Hr2.out.below Hc6.out
  case c1 => have := Hlen.out; unfold maxLen; omega
  case c2 => have := Hlen.out; omega
  case c3 => exact Hd6.out.size
  intro v7 w7 hown7 hgrow7
  have Hd7 : Hid (Below w5.heap.size w5 w7) := Lib.hid (Hd6.out.grown hgrow7 Hd6.out.size (fun g hg => (Hown6.out.lt g hg).1))
  have hown7' : w7.ownsRow w5.heap.size 44 2 v7 (gs.length + ms.length) (gots gm) := by
    rw [Hlen.out.2.2.2]
    simpa using hown7
  obtain ⟨A7, c7, hv7, hR7⟩ := owns_reads hown7'
  rw [hv7]
  have HR7 := Lib.hid hR7
  have Hr7 := Lib.hid ((Hr5.out.below Hd7.out).more Hd7.out.size)
  have HbE : Hid (Below w.heap.size w w7) := Lib.hid (Hb2.out.trans ((Hc5.out.trans (Hd7.out.mono Hc5.out.size)).mono Hb2.out.size))
  have hsame := fun w0 h1 h2 => sameGot_any A5 A7 gm.length (gs.length + ms.length) c5 c7 gm gm w0 h1 h2 (by have := Hlen.out; omega) (by have := Hlen.out; omega)
  rw [show decide (gm = gm) = true from decide_eq_true rfl] at hsame
  clear hown7 hown7' hgrow7 Hown6 hR7 hv7
  go_wp2_with (first
    | (go_at_call 11; refine (hsame _ Hr7.out HR7.out).mono ?_; rintro e w8 ⟨rfl, hb8⟩)
    | (go_at_call 8; refine (awake_any _).mono ?_; rintro e w9 ⟨rfl, hb9⟩))
  go_ret
  exact ⟨rfl, HbE.out.trans ((hb8.trans (hb9.mono hb8.size)).mono HbE.out.size)⟩

theorem takeParts_walk (l : List UInt8) (A B : Option Addr) (n c m d : Nat) (ua ub : List (Int × Int)) (w : World) (hn : ua.length = n) (hm : ub.length = m) (hr : Reads w w.heap.size 2 A n (pairs .i64 ua)) (hs : Reads w w.heap.size 2 B m (pairs .i64 ub)) :
    Calls Try.prog 5 #[.string ⟨l.toArray⟩, .slice A n c, .slice B m d] w fun e w' => e = .returned (.bool true) ∧ Below w.heap.size w w' := by
  by_cases h : ¬ n ≤ 200 ∨ ¬ m ≤ 200 ∨ 10000 < l.length
  · exact takeParts_far l A B n c m d w h
  · obtain ⟨gs, q, e, hR⟩ : ∃ gs q e, runF l 0 ua = (gs, q, e) := ⟨_, _, _, rfl⟩
    by_cases he : e = 0
    · subst he
      obtain ⟨ms, to, f, hS⟩ : ∃ ms to f, runF (l.drop q.toNat) 0 ub = (ms, to, f) := ⟨_, _, _, rfl⟩
      exact takeParts_near l A B n c m d ua ub w hn hm (by omega) (by omega) (by omega) hr hs gs ms q to f hR hS
    · exact takeParts_fault l A B n c m d ua ub w hn (by omega) (by omega) (by omega) hr gs q e hR he

namespace TakeParts
set_option maxRecDepth 100000 in
theorem lifted (os : Os) (started : os.Started) (H : Type) (enc : TypeId × Value → H) :
    ReturnsInHanded {} Try.checked os 5 .any (Rows.takePartsSpec.pre6 enc Try.prog Try.f5 Rows.takePartsRow.domain false) (Rows.takePartsSpec.post enc Try.prog Try.f5 false true false false) := by
  refine law_sized (C := Try.checked) (tb := 4) ownP started (by kernel_rfl) Try.func5
    (ChangeSpec.witness6 (enc := enc) (C := Try.checked) false ⟨#[], #[.string ⟨#[]⟩, .slice none 0 0, .slice none 0 0], []⟩ 8 (by kernel_rfl) (by kernel_rfl) (by kernel_rfl) (by kernel_rfl))
    laidP (by kernel_rfl) rfl (by kernel_rfl) Try.underlying4 (by intro ds h; match ds, h with | [_, _, _], _ => rfl) ?_
  intro W base args ds p hval0 hA0 hlt _
  have hval : ∀ (j : Nat) t v, Try.f5.params[j]? = some t → args[j]? = some v → Value.okWide Try.prog W .any base t v := hval0
  have hA : DataW.TrodAll enc Try.prog W 0 (fun _ => true) true Try.f5.params.toList args.toList ds p := hA0
  rw [Try.params5] at hA hval
  obtain ⟨v0, v1, v2, d0, d1, d2, p0, p1, p2, rfl, rfl, rfl, h0, h1, h2⟩ := trodAll_three hA
  obtain ⟨l, rfl, rfl⟩ := open_bytes Try.underlying9 (hval 0 9 v0 rfl rfl) h0
  obtain ⟨Aua, nua, cua, ua, rfl, eua, hnua, hmua, hrua, hbua⟩ := open_pair_slice Try.underlying22 Try.underlying36 (by kernel_rfl) rfl rfl (by kernel_rfl) (by kernel_rfl) Try.underlying3 Try.underlying3 (hval 1 22 v1 rfl rfl) h1
  obtain ⟨Aub, nub, cub, ub, rfl, eub, hnub, hmub, hrub, hbub⟩ := open_pair_slice Try.underlying22 Try.underlying36 (by kernel_rfl) rfl rfl (by kernel_rfl) (by kernel_rfl) Try.underlying3 Try.underlying3 (hval 2 22 v2 rfl rfl) h2
  exact takeParts_walk l Aua Aub nua cua nub cub ua ub W eua eub hrua hrub

theorem holds : Rows.TakePartsSaid :=
  OpenClaim.holds_of_wide 5 Try.f5 rfl rfl rfl rfl rfl rfl rfl ⟨rfl, rfl, rfl, rfl, rfl⟩ rfl rfl rfl rfl rfl (by kernel_rfl) Try.func5 (by kernel_rfl)
    (of_decide_eq_true (by kernel_rfl)) (by unfold Func.isWrapper; first | (rw [if_pos (by decide +kernel)]; kernel_rfl) | (rw [if_neg (by decide +kernel)]; exact ⟨rfl, rfl⟩))
    (fun os started H enc _ => lifted os started H enc)
end TakeParts
end Go.Proofs.Ytbibjcgnaibhlaa
