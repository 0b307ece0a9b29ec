/-
  Layer 12: a search by halves; the closures of Find and of rising; rising, for every argument.
-/
import Derived.Test.YtngenehleelcmaaSufB
import Derived.Test.YtngenehleelcmaaSufI
import Derived.Test.YtngenehleelcmaaSufP
import Derived.Shelf.Abstract
import Derived.Laws.EntriesVeiled
import Derived.Deep.QuietTactic
import Derived.BigQuiet
import Derived.Deep.LoopGhost
namespace Go.Proofs.Ytngenehleelcmaa
set_option linter.unusedSimpArgs false
set_option linter.unusedVariables false
open Go.ChangeShapes Go.WideShapes Go.ChangeAt Go.RowKit Go.Joins Go.Deep Go.Shelf

/-! ### A search by halves -/
set_option maxRecDepth 100000 in
set_option maxHeartbeats 4000000 in
theorem s_search_any (p : Nat → Bool) (n : Nat) (G : FuncId) (cb : Array Value) (w : World) (hn : n ≤ 1000001)
    (hS : ∀ W, Below w.heap.size w W → ∀ i, i < n → Calls Try.prog G (#[.int .i64 (i : Int)] ++ cb) W fun e W' => e = .returned (.bool (p i)) ∧ ∃ m, W' = W.drewN m)
    (eg : ∀ args w, (callFunc G args).run Try.prog w = .ok (.enter G args) w) (hmono : ∀ i j, i ≤ j → j < n → p i = true → p j = true) :
    Calls Try.prog 34 #[.int .i64 (n : Int), .func (.func G) #[] cb] w fun e w' => ∃ r : Nat, e = .returned (.int .i64 (r : Int)) ∧ r ≤ n ∧ (∀ i, i < r → p i = false) ∧ (∀ i, r ≤ i → i < n → p i = true) ∧ Below w.heap.size w w' := by
  have hni : (n : Int) ≤ 1000001 := by omega
  have HS := Lib.hid hS
  have Hmono := Lib.hid hmono
  clear hS hmono
  go_enter Try.func34, Try.ntmps34
  go_wp2
  go_loopg [5, 6, 7] n (fun gk vi vj vh wr => ∃ i j : Nat, vi = .int .i64 i ∧ vj = .int .i64 j ∧ i ≤ j ∧ j ≤ n ∧ j - i ≤ gk ∧ Hid (∀ t, t < i → p t = false) ∧ Hid (∀ t, j ≤ t → t < n → p t = true) ∧ Hid (Below w.heap.size w wr))
  case atStart => exact ⟨0, n, rfl, rfl, by omega, by omega, by omega, Lib.hid fun t h => by omega, Lib.hid fun t h1 h2 => by omega, Lib.hid (Below.refl _ _)⟩
  case round =>
    obtain ⟨i, j, rfl, rfl, hij, hjn, hg, H1, H2, HB⟩ := hrel
    by_cases hlt : i < j
    · have hlz : (i : Int) < (j : Int) := by omega
      obtain ⟨h, hh⟩ : ∃ h, (i + j) / 2 = h := ⟨_, rfl⟩
      have sh : ((i : Int) + (j : Int)) / 2 = (h : Int) := by omega
      have hb2 : i ≤ h ∧ h < j := by omega
      have hni2 : (0 : Int) ≤ (i : Int) ∧ (i : Int) ≤ 1000001 ∧ (j : Int) ≤ 1000001 ∧ (0 : Int) ≤ (h : Int) ∧ (h : Int) ≤ 1000001 := by omega
      have HC := Lib.hid (HS.out wr HB.out h (by omega))
      clear hh
      cases hp : p h with
      | true =>
        rw [hp] at HC
        have H3 : Hid (∀ t, h ≤ t → t < n → p t = true) := Lib.hid fun t h1 h2 => Hmono.out h t h1 h2 hp
        clear hp
        go_wp2_with (refine HC.out.mono ?_; rintro e w2 ⟨rfl, m, rfl⟩)
        go_roundg (h - i)
        case measure => omega
        case rel => exact ⟨i, h, rfl, rfl, by omega, by omega, by omega, H1, H3, Lib.hid (below_drewN HB.out _)⟩
      | false =>
        rw [hp] at HC
        have H3 : Hid (∀ t, t < h + 1 → p t = false) := Lib.hid fun t h1 => by
          cases e : p t with
          | false => rfl
          | true =>
            have := Hmono.out t h (by omega) (by omega) e
            rw [hp] at this
            cases this
        clear hp
        go_wp2_with (refine HC.out.mono ?_; rintro e w2 ⟨rfl, m, rfl⟩)
        go_roundg (j - (h + 1))
        case measure => omega
        case rel => exact ⟨h + 1, j, iv (by omega), rfl, by omega, by omega, by omega, H3, H2, Lib.hid (below_drewN HB.out _)⟩
    · obtain rfl : i = j := by omega
      have hii : ¬ (i : Int) < (i : Int) := by omega
      go_wp2
      go_ret
      exact ⟨i, rfl, hjn, H1.out, H2.out, HB.out⟩

/-! ### What Find's closures tell -/
set_option maxRecDepth 100000 in
set_option maxHeartbeats 2000000 in
theorem s_head_any (s x : List UInt8) (p ps px : Nat) (w : World) (hp : p ≤ s.length) (hs : s.length ≤ 1000000) (hx : x.length ≤ 1000000) (c1 : w.cell? ⟨ps, 0, none⟩ = some (.string ⟨s.toArray⟩)) (c2 : w.cell? ⟨px, 0, none⟩ = some (.string ⟨x.toArray⟩)) :
    Calls Try.prog 33 #[.int .i64 (p : Int), .pointer (some ⟨ps, 0, none⟩), .pointer (some ⟨px, 0, none⟩)] w fun e w' => e = .returned (.string ⟨(pre s x.length p).toArray⟩) ∧ w' = w := by
  have hi : (0 : Int) ≤ (p : Int) ∧ (p : Int) ≤ (s.length : Int) ∧ (s.length : Int) ≤ 1000000 ∧ (x.length : Int) ≤ 1000000 := by omega
  have hw1 : IntKind.i64.wrap ((p : Int) + (x.length : Int)) = (p : Int) + (x.length : Int) := by rw [IntKind.wrap_i64]; omega
  by_cases h : s.length < p + x.length
  · have hz : (s.length : Int) < (p : Int) + (x.length : Int) := by omega
    have hsl : ∀ W, (Instr.slice 9 (.string ⟨s.toArray⟩) (some (.int .i64 (p : Int))) (some (.int .i64 (s.length : Int))) none).run Try.prog W = .ok (.string ⟨(pre s x.length p).toArray⟩) W := fun W => by
      rw [run_slice_string W 9 ⟨s.toArray⟩ .i64 .i64 (p : Int) (s.length : Int) Try.underlying9 (by omega) (by omega) (by rw [ByteArray.size_mk', List.size_toArray]; omega), ByteArray.extract_mk, Int.toNat_natCast, Int.toNat_natCast]
      unfold pre
      rw [List.take_of_length_le (by rw [List.length_drop]; omega), List.take_of_length_le (by rw [List.length_drop]; omega)]
    generalize pre s x.length p = H at *
    go_enter Try.func33, Try.ntmps33
    go_wp2
    go_ret
    exact ⟨rfl, rfl⟩
  · have hz : ¬ (s.length : Int) < (p : Int) + (x.length : Int) := by omega
    have hsl : ∀ W, (Instr.slice 9 (.string ⟨s.toArray⟩) (some (.int .i64 (p : Int))) (some (.int .i64 ((p : Int) + (x.length : Int)))) none).run Try.prog W = .ok (.string ⟨(pre s x.length p).toArray⟩) W := fun W => by
      rw [run_slice_string W 9 ⟨s.toArray⟩ .i64 .i64 (p : Int) ((p : Int) + (x.length : Int)) Try.underlying9 (by omega) (by omega) (by rw [ByteArray.size_mk', List.size_toArray]; omega), ByteArray.extract_mk, Int.toNat_natCast, show ((p : Int) + (x.length : Int)).toNat - p = x.length from by omega]
      rfl
    generalize pre s x.length p = H at *
    go_enter Try.func33, Try.ntmps33
    go_wp2
    go_ret
    exact ⟨rfl, rfl⟩
theorem sgt_is (a b : List UInt8) : Op.bytesLess b a = !(Op.bytesLess a b || a == b) := by
  by_cases e : a = b
  · subst e
    rw [slt_irrefl]
    simp
  · have e2 : (a == b) = false := by rw [beq_eq_false_iff_ne]; exact e
    rw [e2, Bool.or_false]
    cases h : Op.bytesLess a b with
    | true => exact slt_asymm _ _ h
    | false =>
      rcases slt_total _ _ e with h2 | h2
      · rw [h] at h2; cases h2
      · exact h2
set_option maxRecDepth 100000 in
set_option maxHeartbeats 4000000 in
theorem s_find2_any (s x : List UInt8) (i n c ps px ga gh : Nat) (A : Option Addr) (w : World) (hs : s.length ≤ 1000000) (hx : x.length ≤ 1000000) (hn : n = s.length + 1) (hi : i < n) (hr : Reads w w.heap.size 1 A n (ints (splc (sarr s))))
    (c1 : w.cell? ⟨ps, 0, none⟩ = some (.string ⟨s.toArray⟩)) (c2 : w.cell? ⟨px, 0, none⟩ = some (.string ⟨x.toArray⟩)) (c3 : w.cell? ⟨ga, 0, none⟩ = some (.slice A n c)) (c4 : w.cell? ⟨gh, 0, none⟩ = some (.func (.func 33) #[] #[.pointer (some ⟨ps, 0, none⟩), .pointer (some ⟨px, 0, none⟩)])) :
    Calls Try.prog 35 #[.int .i64 (i : Int), .pointer (some ⟨gh, 0, none⟩), .pointer (some ⟨ga, 0, none⟩), .pointer (some ⟨px, 0, none⟩)] w fun e w' => e = .returned (.bool (hge s x i)) ∧ ∃ m, w' = w.drewN m := by
  have hl : i < (sarr s).length := by rw [sarr_len]; omega
  obtain ⟨b, off, rfl, hb, hc⟩ := srow_cells (by rw [sarr_len, hn]) hr w (Below.refl _ _) i hl
  have hp := sarr_le s i hl
  have hd := sgetN i hl
  have hii : (0 : Int) ≤ (i : Int) ∧ (i : Int) < (n : Int) ∧ (n : Int) ≤ 1000001 := by omega
  unfold hge
  rw [hd]
  generalize (sarr s)[i] = p at *
  have HC := Lib.hid fun W h1 h2 => s_head_any s x p ps px W hp hs hx h1 h2
  generalize pre s x.length p = H at *
  clear hr hl hd hs hx hn hi
  cases hq : Op.bytesLess H x with
  | true =>
    go_enter Try.func35, Try.ntmps35
    go_wp2
    go_quiet ((go_at_call 33; exact Calls.quiet_of_same (HC.out _ c1 c2)))
    go_wp2
    go_ret
    exact ⟨rfl, _, rfl⟩
  | false =>
    go_enter Try.func35, Try.ntmps35
    go_wp2
    go_quiet ((go_at_call 33; exact Calls.quiet_of_same (HC.out _ c1 c2)))
    go_wp2
    go_ret
    exact ⟨rfl, _, rfl⟩
set_option maxRecDepth 100000 in
set_option maxHeartbeats 4000000 in
theorem s_find3_any (s x : List UInt8) (i lo n c ps px ga gh gl : Nat) (A : Option Addr) (w : World) (hs : s.length ≤ 1000000) (hx : x.length ≤ 1000000) (hn : n = s.length + 1) (hi : lo + i < n) (hr : Reads w w.heap.size 1 A n (ints (splc (sarr s))))
    (c1 : w.cell? ⟨ps, 0, none⟩ = some (.string ⟨s.toArray⟩)) (c2 : w.cell? ⟨px, 0, none⟩ = some (.string ⟨x.toArray⟩)) (c3 : w.cell? ⟨ga, 0, none⟩ = some (.slice A n c)) (c4 : w.cell? ⟨gh, 0, none⟩ = some (.func (.func 33) #[] #[.pointer (some ⟨ps, 0, none⟩), .pointer (some ⟨px, 0, none⟩)])) (c5 : w.cell? ⟨gl, 0, none⟩ = some (.int .i64 (lo : Int))) :
    Calls Try.prog 36 #[.int .i64 (i : Int), .pointer (some ⟨gh, 0, none⟩), .pointer (some ⟨ga, 0, none⟩), .pointer (some ⟨gl, 0, none⟩), .pointer (some ⟨px, 0, none⟩)] w fun e w' => e = .returned (.bool (hgt s x (lo + i))) ∧ ∃ m, w' = w.drewN m := by
  have hl : (lo + i) < (sarr s).length := by rw [sarr_len]; omega
  obtain ⟨b, off, rfl, hb, hc⟩ := srow_cells (by rw [sarr_len, hn]) hr w (Below.refl _ _) (lo + i) hl
  have hp := sarr_le s (lo + i) hl
  have hd := sgetN (lo + i) hl
  have hii : (0 : Int) ≤ (i : Int) ∧ (i : Int) < (n : Int) ∧ (n : Int) ≤ 1000001 := by omega
  have hll : (0 : Int) ≤ (lo : Int) + (i : Int) ∧ (lo : Int) + (i : Int) < (n : Int) := by omega
  have hwl : IntKind.i64.wrap ((lo : Int) + (i : Int)) = (lo : Int) + (i : Int) := by rw [IntKind.wrap_i64]; omega
  have hcast : ((lo : Int) + (i : Int)).toNat = lo + i := by omega
  unfold hgt
  rw [hd]
  generalize (sarr s)[(lo + i)] = p at *
  have HC := Lib.hid fun W h1 h2 => s_head_any s x p ps px W hp hs hx h1 h2
  generalize pre s x.length p = H at *
  clear hr hl hd hs hx hn hi
  rw [sgt_is]
  cases hq : Op.bytesLess H x with
  | true =>
    cases hq2 : (H == x) with
    | true =>
      go_enter Try.func36, Try.ntmps36
      go_wp2
      go_quiet ((go_at_call 33; exact Calls.quiet_of_same (HC.out _ c1 c2)))
      go_wp2
      go_ret
      exact ⟨rfl, _, rfl⟩
    | false =>
      go_enter Try.func36, Try.ntmps36
      go_wp2
      go_quiet ((go_at_call 33; exact Calls.quiet_of_same (HC.out _ c1 c2)))
      go_wp2
      go_ret
      exact ⟨rfl, _, rfl⟩
  | false =>
    cases hq2 : (H == x) with
    | true =>
      go_enter Try.func36, Try.ntmps36
      go_wp2
      go_quiet ((go_at_call 33; exact Calls.quiet_of_same (HC.out _ c1 c2)))
      go_wp2
      go_ret
      exact ⟨rfl, _, rfl⟩
    | false =>
      go_enter Try.func36, Try.ntmps36
      go_wp2
      go_quiet ((go_at_call 33; exact Calls.quiet_of_same (HC.out _ c1 c2)))
      go_wp2
      go_ret
      exact ⟨rfl, _, rfl⟩

/-! ### Rising -/
set_option maxRecDepth 100000 in
set_option maxHeartbeats 4000000 in
theorem s_rless_any (s : List UInt8) (rk : Nat → Nat) (a b ps pr n c : Nat) (A : Option Addr) (w : World) (hs : s.length ≤ 1000000) (hn : n = s.length + 1) (ha : a ≤ s.length) (hb : b ≤ s.length) (hr : Reads w w.heap.size 1 A n (ints (rng n fun p => (rk p : Int))))
    (c1 : w.cell? ⟨ps, 0, none⟩ = some (.string ⟨s.toArray⟩)) (c2 : w.cell? ⟨pr, 0, none⟩ = some (.slice A n c)) :
    Calls Try.prog 44 #[.int .i64 (a : Int), .int .i64 (b : Int), .pointer (some ⟨ps, 0, none⟩), .pointer (some ⟨pr, 0, none⟩)] w fun e w' => e = .returned (.bool (rless s rk a b)) ∧ ∃ m, w' = w.drewN m := by
  have hi : (0 : Int) ≤ (a : Int) ∧ (a : Int) ≤ (s.length : Int) ∧ (0 : Int) ≤ (b : Int) ∧ (b : Int) ≤ (s.length : Int) ∧ (s.length : Int) ≤ 1000000 := by omega
  by_cases h1 : a = s.length
  · have b1 : ((a : Int) == (s.length : Int)) = true := by rw [h1]; simp
    have fin : rless s rk a b = true := by unfold rless; rw [if_pos (Or.inl h1)]; exact decide_eq_true h1
    rw [fin]
    clear fin hr h1
    go_enter Try.func44, Try.ntmps44
    go_wp2
    go_ret
    exact ⟨rfl, 0, rfl⟩
  · have b1 : ((a : Int) == (s.length : Int)) = false := by rw [beq_eq_false_iff_ne]; omega
    by_cases h2 : b = s.length
    · have b2 : ((b : Int) == (s.length : Int)) = true := by rw [h2]; simp
      have fin : rless s rk a b = false := by unfold rless; rw [if_pos (Or.inr h2)]; exact decide_eq_false h1
      rw [fin]
      clear fin hr h1 h2
      go_enter Try.func44, Try.ntmps44
      go_wp2
      go_ret
      exact ⟨rfl, 0, rfl⟩
    · have b2 : ((b : Int) == (s.length : Int)) = false := by rw [beq_eq_false_iff_ne]; omega
      have ha1 : a < s.length := by omega
      have hb1 : b < s.length := by omega
      have hi2 : (a : Int) < (s.length : Int) ∧ (b : Int) < (s.length : Int) := by omega
      have e1 : ∀ h, ((⟨s.toArray⟩ : ByteArray)[a]'h) = s[a] := fun h => rfl
      have e2 : ∀ h, ((⟨s.toArray⟩ : ByteArray)[b]'h) = s[b] := fun h => rfl
      have hor : ¬ (a = s.length ∨ b = s.length) := by omega
      by_cases h3 : s[a] = s[b]
      · have b3 : ((s[a].toNat : Int) != (s[b].toNat : Int)) = false := by rw [h3]; simp
        have b4 : ((s[a].toNat : Int) == (s[b].toNat : Int)) = true := by rw [h3]; simp
        have fin : rless s rk a b = decide (rk (a + 1) < rk (b + 1)) := by unfold rless; rw [if_neg hor, sbyteD ha1, sbyteD hb1, if_pos h3]
        rw [fin]
        obtain ⟨bk, ok, rfl, hbk, hck⟩ := gcells_at hr (by omega)
        have x1 := hck w (Below.refl _ _) (a + 1) (by rw [rng_len]; omega)
        have x2 := hck w (Below.refl _ _) (b + 1) (by rw [rng_len]; omega)
        rw [rng_get] at x1 x2
        have hwa : IntKind.i64.wrap ((a : Int) + 1) = (a : Int) + 1 := by rw [IntKind.wrap_i64]; omega
        have hwb : IntKind.i64.wrap ((b : Int) + 1) = (b : Int) + 1 := by rw [IntKind.wrap_i64]; omega
        have hi3 : (0 : Int) ≤ (a : Int) + 1 ∧ (a : Int) + 1 < (n : Int) ∧ (0 : Int) ≤ (b : Int) + 1 ∧ (b : Int) + 1 < (n : Int) := by omega
        generalize rk (a + 1) = ra at *
        generalize rk (b + 1) = rb at *
        clear fin hr hck h1 h2 h3 hn hor
        go_enter Try.func44, Try.ntmps44
        go_wp2
        go_quiet (fail)
        go_wp2
        go_quiet (fail)
        go_wp2
        go_ret
        exact ⟨congrArg (fun b => Ending.returned (Value.bool b)) (by first | rfl | simp), _, by rw [World.drewN_drewN]⟩
      · have hne : s[a].toNat ≠ s[b].toNat := fun e => h3 (UInt8.toNat_inj.1 e)
        have b4 : ((s[a].toNat : Int) == (s[b].toNat : Int)) = false := by rw [beq_eq_false_iff_ne]; omega
        have b3 : ((s[a].toNat : Int) != (s[b].toNat : Int)) = true := by simp; omega
        have fin : rless s rk a b = decide (s[a] < s[b]) := by unfold rless; rw [if_neg hor, sbyteD ha1, sbyteD hb1, if_neg h3]
        rw [fin]
        have hd3 : decide (s[a] < s[b]) = decide (s[a].toNat < s[b].toNat) := decide_eq_decide.2 UInt8.lt_iff_toNat_lt
        rw [hd3]
        clear fin hr h1 h2 h3 hn hor hne hd3
        go_enter Try.func44, Try.ntmps44
        go_wp2
        go_quiet (fail)
        go_wp2
        go_quiet (fail)
        go_wp2
        go_ret
        exact ⟨congrArg (fun b => Ending.returned (Value.bool b)) (by first | rfl | simp), _, by rw [World.drewN_drewN]⟩

set_option maxRecDepth 100000 in
set_option maxHeartbeats 4000000 in
theorem s_rising_any (s : List UInt8) (a : List Int) (A Ar : Option Addr) (n c cr : Nat) (w : World) (hs : s.length ≤ 1000000) (ho : sordF a = true) (hl : a.length = s.length + 1) (hn : n = s.length + 1) (hr : Reads w w.heap.size 1 A n (ints a)) (hk : Reads w w.heap.size 1 Ar n (ints (srk a a.length))) :
    Calls Try.prog 32 #[.string ⟨s.toArray⟩, .slice A n c, .slice Ar n cr] w fun e w' => e = .returned (.bool (sup s a)) ∧ Below w.heap.size w w' := by
  have hmf := s_mkfunc
  have hni : (n : Int) ≤ 1000001 ∧ (s.length : Int) ≤ 1000000 := by omega
  have hn1 : 1 ≤ n := by omega
  have Hb1 : Hid (Below w.heap.size w ((w.alloc (.cells #[.string ⟨s.toArray⟩] 9)).alloc (.cells #[.slice Ar n cr] 22))) := Lib.hid (((Below.refl _ w).alloc (Nat.le_refl _) _).alloc (by simp) _)
  have HP1 : Hid (Blk ((w.alloc (.cells #[.string ⟨s.toArray⟩] 9)).alloc (.cells #[.slice Ar n cr] 22)) w.heap.size 9 #[.string ⟨s.toArray⟩]) := Lib.hid ((Blk.new w _ _).alloc _)
  have HP2 : Hid (Blk ((w.alloc (.cells #[.string ⟨s.toArray⟩] 9)).alloc (.cells #[.slice Ar n cr] 22)) (w.heap.size + 1) 22 #[.slice Ar n cr]) := Lib.hid (by
    have := Blk.new (w.alloc (.cells #[.string ⟨s.toArray⟩] 9)) 22 #[.slice Ar n cr]
    rwa [World.size_alloc] at this)
  have Hsz : Hid (((w.alloc (.cells #[.string ⟨s.toArray⟩] 9)).alloc (.cells #[.slice Ar n cr] 22)).heap.size = w.heap.size + 2) := Lib.hid (by simp)
  have hlb : (plcs a).length = n := by rw [plcs_len, hl, hn]
  have hra : Reads w w.heap.size 1 A n (ints (splc (plcs a))) := by rw [← plcs_is ho]; exact hr
  have Hrow := Lib.hid (srow_cells hlb hra)
  rw [srk_rank ho, hl, ← hn] at hk
  have hmm : ∀ p, p ∈ plcs a ↔ p ≤ s.length := fun p => by rw [plcs_all ho, hl]; omega
  have HR := Lib.hid (rising_is (s := s) (plcs_nodup ho) hmm)
  have HU := Lib.hid (sup_is (s := s) ho hl)
  have Hle : Hid (∀ k (h : k < (plcs a).length), (plcs a)[k] ≤ s.length) := Lib.hid fun k h => (hmm _).1 (List.getElem_mem h)
  have Hless := Lib.hid fun W (hW : Below w.heap.size w W) p q hp hq h1 h2 => s_rless_any s (fun p => (plcs a).idxOf p) p q w.heap.size (w.heap.size + 1) n cr Ar W hs hn hp hq (hk.upto hW) h1 h2
  have Hlb := Lib.hid hlb
  clear hr hra hk hmm hs ho hl hn hlb
  go_enter Try.func32, Try.ntmps32
  go_wp2
  generalize hw1 : (w.alloc (.cells #[.string ⟨s.toArray⟩] 9)).alloc (.cells #[.slice Ar n cr] 22) = w1 at *
  clear hw1
  have HO0 := Lib.hid (Below.refl w1.heap.size w1)
  go_loopw [8] (fun i wr => ∃ k m : Nat, k + 1 = m ∧ m ≤ n ∧ i = .int .i64 m ∧ Hid (∀ j (h : j + 1 < (plcs a).length), j < k → rless s (fun p => (plcs a).idxOf p) (plcs a)[j] (plcs a)[j + 1] = true) ∧ Hid (Below w1.heap.size w1 wr)) (fun i _ => n - (intOf i).toNat)
  case atStart => exact ⟨0, 1, rfl, hn1, rfl, Lib.hid fun j h hj => by omega, HO0⟩
  case round =>
    obtain ⟨k, m, hkm, hk, rfl, HK, HO⟩ := hrel
    clear HO0
    have Hbw : Hid (Below w.heap.size w wr) := Lib.hid (Hb1.out.trans (HO.out.mono (by have := Hsz.out; omega)))
    by_cases hlt : m < n
    · have hki : ((0 : Int) ≤ (k : Int) ∧ (k : Int) < (n : Int)) ∧ (0 : Int) ≤ (m : Int) ∧ (m : Int) < (n : Int) := by omega
      have hkk := hki.1
      have hkl : k + 1 < (plcs a).length := by rw [Hlb.out]; omega
      obtain ⟨b0, off, rfl, hbl, x1⟩ := Hrow.out wr Hbw.out (k + 1) hkl
      obtain ⟨_, _, e9, _, x2⟩ := Hrow.out wr Hbw.out k (by omega)
      injection e9 with e9
      injection e9 with e9 e10
      subst e9
      subst e10
      have hpa := Hle.out k (by omega)
      have hpb := Hle.out (k + 1) hkl
      have Hcell1 : Hid (∀ q, (wr.drewN q).cell? ⟨w.heap.size, 0, none⟩ = some (.string ⟨s.toArray⟩)) := Lib.hid fun q => (HP1.out.below HO.out HP1.out.lt).cell 0
      have Hcell2 : Hid (∀ q, (wr.drewN q).cell? ⟨w.heap.size + 1, 0, none⟩ = some (.slice Ar n cr)) := Lib.hid fun q => (HP2.out.below HO.out HP2.out.lt).cell 0
      have HC := Lib.hid fun q => Hless.out (wr.drewN q) (below_drewN Hbw.out q) _ _ hpa hpb (Hcell1.out q) (Hcell2.out q)
      have HKn : Hid (rless s (fun p => (plcs a).idxOf p) (plcs a)[k] (plcs a)[k + 1] = true → ∀ j (h : j + 1 < (plcs a).length), j < k + 1 → rless s (fun p => (plcs a).idxOf p) (plcs a)[j] (plcs a)[j + 1] = true) := Lib.hid fun h0 j h hj => by
        by_cases e : j = k
        · subst e
          exact h0
        · exact HK.out j h (by omega)
      have HKf : Hid (rless s (fun p => (plcs a).idxOf p) (plcs a)[k] (plcs a)[k + 1] = false → sup s a = false) := Lib.hid fun h0 => by
        cases e : sup s a with
        | false => rfl
        | true =>
          have := HR.out.2 (HU.out.1 e) k hkl
          rw [h0] at this
          cases this
      have hsub : (m : Int) - 1 = (k : Int) := by omega
      have hw1 : IntKind.i64.wrap ((m : Int) - 1) = (k : Int) := by rw [IntKind.wrap_i64]; omega
      have hw2 : IntKind.i64.wrap (k : Int) = (k : Int) := by rw [IntKind.wrap_i64]; omega
      generalize hsm : rless s (fun p => (plcs a).idxOf p) (plcs a)[k] (plcs a)[k + 1] = sm at HC HKn HKf
      generalize (plcs a)[k] = pa at *
      generalize (plcs a)[k + 1] = pb at *
      rw [hkm] at x1
      have Hkm := Lib.hid hkm
      clear hsm hpa hpb
      cases sm with
      | true =>
        have HK2 := Lib.hid (HKn.out rfl)
        go_wp2
        go_quiet ((go_at_call 44; first | exact Calls.quiet_of (HC.out _) | exact s_quiet_add (HC.out _)))
        go_wp2
        go_roundw
        case rel => exact ⟨k + 1, m + 1, by have := Hkm.out; omega, by omega, iv (by omega), HK2, Lib.hid (below_drewN HO.out _)⟩
        case measure => simp only [intOf]; omega
      | false =>
        have Hf := Lib.hid (HKf.out rfl)
        go_wp2
        go_quiet ((go_at_call 44; first | exact Calls.quiet_of (HC.out _) | exact s_quiet_add (HC.out _)))
        go_wp2
        go_ret
        rw [Hf.out]
        exact ⟨rfl, below_drewN Hbw.out _⟩
    · have hii : ¬ (m : Int) < (n : Int) := by omega
      have Hf : Hid (sup s a = true) := Lib.hid (HU.out.2 (HR.out.1 fun j h => HK.out j h (by rw [Hlb.out] at h; omega)))
      go_wp2
      go_ret
      rw [Hf.out]
      exact ⟨rfl, Hbw.out⟩
end Go.Proofs.Ytngenehleelcmaa
