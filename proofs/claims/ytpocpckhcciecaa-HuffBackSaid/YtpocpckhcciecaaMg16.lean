/-
  What the law of the last of these texts stands on, part 16.
-/
import Derived.Test.YtpocpckhcciecaaRows
import Derived.Test.YtpocpckhcciecaaMg01
import Derived.Test.YtpocpckhcciecaaMg02
import Derived.Test.YtpocpckhcciecaaMg03
import Derived.Test.YtpocpckhcciecaaMg04
import Derived.Test.YtpocpckhcciecaaMg05
import Derived.Test.YtpocpckhcciecaaMg06
import Derived.Test.YtpocpckhcciecaaMg07
import Derived.Test.YtpocpckhcciecaaMg08
import Derived.Test.YtpocpckhcciecaaMg09
import Derived.Test.YtpocpckhcciecaaMg10
import Derived.Test.YtpocpckhcciecaaMg11
import Derived.Test.YtpocpckhcciecaaMg12
import Derived.Test.YtpocpckhcciecaaMg13
import Derived.Test.YtpocpckhcciecaaMg14
import Derived.Test.YtpocpckhcciecaaMg15
import Derived.WalkKit
import Derived.WalkSpells
import Derived.WalkLawsBesides
import Derived.ProofKit
import Derived.OpenShut
import Derived.Handy
import Derived.SizedLaws
import Derived.JoinedOf
import Derived.KernelRfl
import Derived.Lib.Hide
import Derived.Lib.SmallJoins
import Derived.Deep.Slices
import Derived.Deep.Fields
import Derived.Deep.SlicePairs
import Derived.Deep.Draws
import Derived.Deep.AppendLies
import Derived.Deep.QuietTactic
import Derived.BigQuiet
import Derived.Deep.RegionHeld3
import Derived.StillTailTactics
import Derived.Laws.OwnMore
import Derived.Laws.Rows
import Derived.Below
import Derived.Carry
import Derived.Lib.BitFns
import Derived.Deep.OwnRows
import Derived.WalkMore
import Derived.Laws.BytesString
import Derived.Laws.BitsLemmas
import Derived.Laws.Concat
import Derived.OwnWalk
import Derived.Deep.RegionWith
import Derived.Laws.EntriesVeiled
import Derived.Deep.Upon
import Derived.Deep.RegionLaw
import Derived.Laws.CopyOwn
import Derived.Laws.Bits64b
namespace Go.Proofs.Ytpocpckhcciecaa
set_option linter.unusedSimpArgs false
set_option linter.unusedVariables false
open Go.ChangeShapes Go.WideShapes Go.ChangeAt Go.RowKit Go.Joins Go.Deep
set_option maxRecDepth 100000 in
set_option maxHeartbeats 4000000 in
theorem p_hcounts_any (l : List Int) (A : Option Addr) (n c : Nat) (w : World) (hm : n ≤ 1000000) (hr : Reads w w.heap.size 1 A n (ints l)) :
    Calls Try.prog 9 #[.slice A n c] w fun e w' => HCPost w w' e (hcF l) := by
  have en : l.length = n := by have := hr.1; rw [ints_length] at this; omega
  have hni : (n : Int) ≤ 1000000 := by omega
  by_cases hbig : 100000 < n
  · rw [hc_big (by omega)]
    have hb1 : (100000 : Int) < (n : Int) := by omega
    clear hr
    go_enter Try.func9, Try.ntmps9
    go_wp2
    go_ret2
    exact hcpost_none (Below.refl _ _)
  have hb1 : ¬ (100000 : Int) < (n : Int) := by omega
  have hbl : ¬ 100000 < l.length := by omega
  obtain ⟨C, hC⟩ : ∃ C : Nat → List Value, HCells l C := ⟨_, hcells l⟩
  have hmk := fun w => tmk_ints 257 257 rfl (by decide) w
  rw [← hC.zero] at hmk
  have HC := Lib.hid hC
  have Hcell : Hid (∀ W, Below w.heap.size w W → ∀ k (hk : k < l.length), ∃ b off, A = some ⟨b, off, none⟩ ∧ W.cell? ⟨b, off + k, none⟩ = some (.int .i64 l[k])) := Lib.hid fun W hW k hk => by
    obtain ⟨b, off, e, hb, hc⟩ := hr.2 (by omega)
    exact ⟨b, off, e, (hW.cell (p := ⟨b, off + k, none⟩) hb).trans (hc k _ (ints_get l k hk))⟩
  have En := Lib.hid en
  have Hbl := Lib.hid hbl
  have HB0 := Lib.hid (Blk.new w 3 (C 0).toArray)
  have HO0 := Lib.hid ((Below.refl w.heap.size w).alloc (Nat.le_refl _) (.cells (C 0).toArray 3))
  clear hr hC en hbl
  generalize hg : w.heap.size = g at *
  go_enter Try.func9, Try.ntmps9
  go_wp2
  go_loopw [6, 13] (fun xv i wr => ∃ k : Nat, k ≤ n ∧ i = .int .i64 k ∧ Hid (hin (l.take k) = true) ∧ Hid (Blk wr g 3 (C k).toArray) ∧ Hid (Below g w wr)) (fun _ i _ => n - (intOf i).toNat)
  case atStart => exact ⟨0, by omega, rfl, Lib.hid rfl, HB0, HO0⟩
  case round =>
    obtain ⟨k, hk, rfl, Hin, HB, HO⟩ := hrel
    clear HB0 HO0 hmk
    by_cases hlt : k < n
    · have hki : (k : Int) < (n : Int) := by omega
      have hkl : k < l.length := by rw [En.out]; exact hlt
      obtain ⟨b, off, rfl, x1⟩ := Hcell.out wr HO.out k hkl
      obtain ⟨x, hx⟩ : ∃ x, l[k] = x := ⟨_, rfl⟩
      rw [hx] at x1
      by_cases hin0 : 0 ≤ x ∧ x ≤ 256
      · obtain ⟨s, rfl⟩ := Int.eq_ofNat_of_zero_le hin0.1
        have hsi : (0 : Int) ≤ (s : Int) ∧ (s : Int) < 257 ∧ (s : Int) ≤ 256 := by omega
        obtain ⟨v, hv1, hv2, hv3⟩ := HC.out.get k s (by omega)
        have x2 : wr.cell? ⟨g, s, none⟩ = some (.int .i64 (v : Int)) := by rw [HB.out.cell]; exact hv2
        have x3 := HB.out.frozen s
        have Hset := Lib.hid (hv3 hkl hx)
        have Hin2 := Lib.hid (hin_take k hkl Hin.out (by rw [hx]; exact hin0))
        have hvi : (0 : Int) ≤ (v : Int) ∧ (v : Int) ≤ 1000000 := by omega
        have hgl := HB.out.lt
        clear hx hv2 hv3 hin0 hkl
        go_wp2
        go_roundw
        case rel =>
          refine ⟨k + 1, by omega, iv (by omega), Hin2, Lib.hid ?_, Lib.hid ?_⟩
          · rw [← Hset.out]
            exact HB.out.set_ s _
          · exact HO.out.setCell (p := ⟨g, s, none⟩) (Nat.le_refl _) _
        case measure => simp only [intOf]; omega
      · have Hf := Lib.hid (hc_none Hbl.out k hkl (by rw [hx]; exact hin0))
        by_cases h0 : 0 ≤ x
        · have h1 : ¬ x ≤ 256 := by omega
          clear hx hkl
          go_wp2
          go_ret2
          rw [Hf.out]
          subst hg
          exact hcpost_none HO.out
        · clear hx hkl
          go_wp2
          go_ret2
          rw [Hf.out]
          subst hg
          exact hcpost_none HO.out
    · obtain rfl : k = n := by omega
      have hii : ¬ (k : Int) < (k : Int) := by omega
      have hin2 := Hin.out
      rw [List.take_of_length_le (by rw [En.out]; exact Nat.le_refl _)] at hin2
      have Hf := Lib.hid (hc_all Hbl.out hin2)
      have hlast := HC.out.last
      rw [En.out] at hlast
      have HB2 : Hid (Blk wr g 3 (ints (hcount l)).toArray) := Lib.hid (by rw [← hlast]; exact HB.out)
      clear hin2 hlast
      go_wp2
      go_ret2
      rw [Hf.out]
      subst hg
      exact hcpost_row (hcount_len l) HB2.out HO.out
end Go.Proofs.Ytpocpckhcciecaa
namespace Go.Proofs.Ytpocpckhcciecaa
set_option linter.unusedSimpArgs false
set_option linter.unusedVariables false
open Go.ChangeShapes Go.WideShapes Go.ChangeAt Go.RowKit Go.Joins Go.Deep
theorem bget_more (L T : List Nat) (to : Nat) (h : (bgetF L to 4).2 = 0) : bgetF (L ++ T) to 4 = bgetF L to 4 ∧ to + 4 ≤ L.length := by
  unfold bgetF at h ⊢
  rw [if_neg (by omega)] at h ⊢
  by_cases a : (to : Int) + 4 > L.length
  · rw [if_pos a] at h; cases h
  · have a2 : to + 4 ≤ L.length := by omega
    rw [if_neg a, if_neg (by rw [List.length_append]; omega), Int.toNat_natCast, List.drop_append_of_le_length (by omega), List.take_append_of_le_length (by rw [List.length_drop]; show 4 ≤ _; omega)]
    exact ⟨rfl, a2⟩
theorem lz_more : ∀ R T : List Nat, lz R < R.length → lz (R ++ T) = lz R
  | [], _, h => absurd h (by simp)
  | d :: t, T, h => by
    show (if d = 0 then lz (t ++ T) + 1 else 0) = (if d = 0 then lz t + 1 else 0)
    by_cases e : d = 0
    · have h2 : lz (d :: t) = lz t + 1 := by show (if d = 0 then lz t + 1 else 0) = _; rw [if_pos e]
      rw [if_pos e, if_pos e, lz_more t T (by rw [h2, List.length_cons] at h; omega)]
    · rw [if_neg e, if_neg e]
theorem ungam_more (R T : List Nat) (h : (ungam R).2.2 = 0) : ungam (R ++ T) = ungam R ∧ (ungam R).2.1 ≤ R.length := by
  have hl := lz_le R
  unfold ungam at h ⊢
  by_cases a1 : lz R = R.length
  · rw [if_pos a1] at h; cases h
  rw [if_neg a1] at h ⊢
  by_cases a2 : 32 ≤ lz R
  · rw [if_pos a2] at h; cases h
  rw [if_neg a2] at h ⊢
  by_cases a3 : R.length < 2 * lz R + 1
  · rw [if_pos a3] at h; cases h
  rw [if_neg a3]
  have e := lz_more R T (by omega)
  rw [e, if_neg (by rw [List.length_append]; omega), if_neg a2, if_neg (by rw [List.length_append]; omega), List.drop_append_of_le_length (by omega), List.take_append_of_le_length (by rw [List.length_drop]; omega)]
  exact ⟨rfl, by show 2 * lz R + 1 ≤ R.length; omega⟩
theorem tget1_more (L T : List Nat) (n : Nat) : ∀ (f to : Nat) (last : Int) (out : List Int), to ≤ L.length → (tget1 L n f to last out).2.2 = 0 → tget1 (L ++ T) n f to last out = tget1 L n f to last out ∧ (tget1 L n f to last out).2.1 ≤ L.length
  | 0, to, last, out, hto, h => ⟨rfl, hto⟩
  | f + 1, to, last, out, hto, h => by
    rw [tget1_step] at h ⊢
    rw [tget1_step]
    by_cases h1 : n ≤ out.length
    · rw [if_pos h1, if_pos h1]
      exact ⟨rfl, hto⟩
    rw [if_neg h1] at h ⊢
    rw [if_neg h1]
    by_cases h2 : (bgetF L to 4).2 ≠ 0
    · rw [if_pos h2] at h; exact absurd h h2
    rw [if_neg h2] at h ⊢
    obtain ⟨m1, m2⟩ := bget_more L T to (by omega)
    rw [m1, if_neg h2, List.drop_append_of_le_length m2]
    by_cases h3 : (ungam (L.drop (to + 4))).2.2 ≠ 0
    · rw [if_pos h3] at h; exact absurd h h3
    rw [if_neg h3] at h ⊢
    obtain ⟨m3, m4⟩ := ungam_more (L.drop (to + 4)) T (by omega)
    rw [m3, if_neg h3]
    by_cases h4 : (bgetF L to 4).1 = last
    · rw [if_pos h4] at h; cases h
    rw [if_neg h4] at h ⊢
    rw [if_neg h4]
    by_cases h5 : (n : Int) - out.length < (ungam (L.drop (to + 4))).1
    · rw [if_pos h5] at h; cases h
    rw [if_neg h5] at h ⊢
    rw [if_neg h5]
    rw [List.length_drop] at m4
    exact tget1_more L T n f _ _ _ (by omega) h
theorem tgetF_more (L T : List Nat) (p : Nat) (n : Int) (hp : p ≤ L.length) (h : (tgetF L p n).2.2 = 0) : tgetF (L ++ T) p n = tgetF L p n ∧ (tgetF L p n).2.1 ≤ L.length ∧ checkF (tgetF L p n).1 = 0 := by
  unfold tgetF at h ⊢
  by_cases h1 : n < 0 ∨ 257 < n
  · rw [if_pos h1] at h; cases h
  rw [if_neg h1] at h ⊢
  rw [if_neg h1]
  by_cases h2 : (tget1 L n.toNat (n.toNat + 1) p (-1) []).2.2 ≠ 0
  · rw [if_pos h2] at h; exact absurd h h2
  rw [if_neg h2] at h ⊢
  obtain ⟨m1, m2⟩ := tget1_more L T n.toNat (n.toNat + 1) p (-1) [] hp (by omega)
  rw [m1, if_neg h2]
  by_cases h3 : checkF (tget1 L n.toNat (n.toNat + 1) p (-1) []).1 ≠ 0
  · rw [if_pos h3] at h; exact absurd h h3
  rw [if_neg h3]
  exact ⟨rfl, m2, by show checkF (tget1 L n.toNat (n.toNat + 1) p (-1) []).1 = 0; omega⟩
theorem begF_prefix : ∀ R d : List Nat, (begF R d).2 = true → ∃ T, R = d ++ T
  | R, [], _ => ⟨R, rfl⟩
  | [], _ :: _, h => by cases h
  | a :: t, b :: u, h => by
    have e : begF (a :: t) (b :: u) = if a = b then begF t u else (false, false) := rfl
    rw [e] at h
    by_cases hab : a = b
    · rw [if_pos hab] at h
      obtain ⟨T, hT⟩ := begF_prefix t u h
      exact ⟨T, by rw [hab, hT]; rfl⟩
    · rw [if_neg hab] at h; cases h
theorem cget1_some (R : List Nat) : ∀ (ws : List (Int × Int)) (s : Nat) (E : Int), E ≠ 0 → (cget1 ws s R E).2.2 = 0 → ∃ j, ∃ hj : j < ws.length, ws[j].2 ≠ 0 ∧ (∃ T, R = digI ws[j].1 ws[j].2 ++ T)
  | [], s, E, hE, h => absurd h hE
  | f :: t, s, E, hE, h => by
    have e : cget1 (f :: t) s R E = if f.2 = 0 then cget1 t (s + 1) R E else if (begF R (digI f.1 f.2)).2 = true then ((s : Int), ((digI f.1 f.2).length : Int), 0) else cget1 t (s + 1) R (if (begF R (digI f.1 f.2)).1 = true then 4 else E) := rfl
    rw [e] at h
    by_cases h1 : f.2 = 0
    · rw [if_pos h1] at h
      obtain ⟨j, hj, h2⟩ := cget1_some R t (s + 1) E hE h
      exact ⟨j + 1, by simpa using hj, h2⟩
    · rw [if_neg h1] at h
      by_cases h2 : (begF R (digI f.1 f.2)).2 = true
      · exact ⟨0, by simp, h1, begF_prefix R _ h2⟩
      · rw [if_neg h2] at h
        obtain ⟨j, hj, h3⟩ := cget1_some R t (s + 1) _ (by split <;> omega) h
        exact ⟨j + 1, by simpa using hj, h3⟩
section
variable {ls : List Nat} {L : List Nat}
theorem cget_more (h15 : ∀ x ∈ ls, x ≤ 15) (hc : call ls ≤ 32768) {T : List Nat} (hb : Bin L) (hbT : Bin T) (p : Nat) (hp : p ≤ L.length) (h : (cgetF (wat ls 16 0) L p).2.2 = 0) : cgetF (wat ls 16 0) (L ++ T) p = cgetF (wat ls 16 0) L p ∧ p + (cgetF (wat ls 16 0) L p).2.1.toNat ≤ L.length := by
  unfold cgetF at h ⊢
  obtain ⟨k, hk2, h1, T2, h2⟩ := cget1_some (L.drop p) (wat ls 16 0) 0 _ (by split <;> omega) h
  have hk : k < ls.length := by rw [wat_len] at hk2; exact hk2
  have hpk : 0 < ls[k] := by
    rcases Nat.eq_zero_or_pos ls[k] with h3 | h3
    · exact absurd (wat_none h15 k hk hk2 (by omega)) h1
    · exact h3
  rw [(wat_dig h15 k hk hk2 hpk).1] at h2
  have hbd : Bin (L.drop p) := fun d hd => hb d (List.mem_of_mem_drop hd)
  have g1 := cget_word h15 hc hbd (if p = L.length then 4 else 40) k hk hpk T2 h2
  have g2 := cget_word h15 hc (hbd.app hbT) (if p = (L ++ T).length then 4 else 40) k hk hpk (T2 ++ T) (by rw [h2, List.append_assoc])
  rw [List.drop_append_of_le_length hp, g1, g2]
  refine ⟨rfl, ?_⟩
  have := congrArg List.length h2
  rw [List.length_drop, List.length_append, dig_length] at this
  show p + ((ls[k] : Nat) : Int).toNat ≤ L.length
  omega
theorem cunp_more (h15 : ∀ x ∈ ls, x ≤ 15) (hc : call ls ≤ 32768) {T : List Nat} (hb : Bin L) (hbT : Bin T) : ∀ (i p : Nat) (acc : List Int), p ≤ L.length → (cunp (wat ls 16 0) L i p acc).2.2 = 0 → cunp (wat ls 16 0) (L ++ T) i p acc = cunp (wat ls 16 0) L i p acc ∧ (cunp (wat ls 16 0) L i p acc).2.1 ≤ L.length
  | 0, p, acc, hp, _ => ⟨rfl, hp⟩
  | i + 1, p, acc, hp, h => by
    rw [cunp_step] at h ⊢
    rw [cunp_step]
    by_cases h1 : (cgetF (wat ls 16 0) L p).2.2 = 0
    · rw [if_pos h1] at h ⊢
      obtain ⟨g1, g2⟩ := cget_more h15 hc hb hbT p hp h1
      rw [g1, if_pos h1]
      exact cunp_more h15 hc hb hbT i _ _ g2 h
    · rw [if_neg h1] at h
      exact absurd h h1
end
def hdone (L : List Nat) (p : Nat) : Bool := decide (L.length - p < 8) && decide (lz (L.drop p) = L.length - p)
def hdec2 (L : List Nat) (U : List Int × Nat × Int) : List Int × Int := if U.2.2 ≠ 0 then ([], U.2.2) else if hdone L U.2.1 = true then (U.1, 0) else ([], 6)
def hdec1 (L : List Nat) (n : Nat) (G : List Int × Nat × Int) : List Int × Int := if G.2.2 ≠ 0 then ([], G.2.2) else hdec2 L (cunp (wat (G.1.map Int.toNat) 16 0) L n G.2.1 [])
/-- What Decode answers. -/
def hdecF (s : List UInt8) (n : Int) : List Int × Int := if n < 0 ∨ 100000 < n then ([], 2) else hdec1 (rowOf s) n.toNat (tgetF (rowOf s) 0 257)
theorem tgetF_back {l : List Int} (h : checkF l = 0) (L T : List Nat) (hL : L = tbits l ++ T) : tgetF L 0 (l.length : Int) = (l, (tbits l).length, 0) := by
  obtain ⟨hl, hg⟩ := tcheck_ok h
  have hr := tget_back L l (fun i hi => lgood_get hg i hi) hl T (l.length + 1) 0 0 (-1) (Nat.zero_le _) (by omega) (fun hi e => by have := lgood_get hg 0 hi; omega) (by rw [List.drop_zero, List.drop_zero, hL])
  rw [List.drop_zero, Nat.zero_add, List.take_zero] at hr
  unfold tgetF
  rw [if_neg (by omega), Int.toNat_natCast, hr, if_neg (by simp), if_neg (by rw [h]; simp)]
/-- What the bits of symbols are read as, whatever stands behind them. -/
theorem hback_row {l : List Int} (h : l.length ≤ 100000) (hi : hin l = true) (L T : List Nat) (hL2 : L = hB l ++ T) (hb : Bin L) : tgetF L 0 257 = (hL l, (tbits (hL l)).length, 0) ∧ cunp (hws l) L l.length (tbits (hL l)).length [] = (l, (hB l).length, 0) := by
  have hc := hL_check h
  obtain ⟨_, hg, hca⟩ := check_ok hc
  constructor
  · have := tgetF_back hc L (cbits (hws l) l ++ T) (by rw [hL2]; unfold hB; rw [List.append_assoc])
    rw [hL_len] at this
    exact this
  · have := cunp_back (cnat15 hg) hca hb l (tbits (hL l)).length [] T (hL_word h hi) (by
      rw [hL2]
      unfold hB
      rw [List.append_assoc, List.drop_left' rfl]
      rfl)
    rw [List.nil_append] at this
    unfold hws
    rw [this]
    unfold hB hws
    rw [List.length_append]
theorem hlz_zeros : ∀ n, lz (List.replicate n 0) = n
  | 0 => rfl
  | n + 1 => by
    rw [List.replicate_succ]
    show (if (0 : Nat) = 0 then lz (List.replicate n 0) + 1 else 0) = n + 1
    rw [if_pos rfl, hlz_zeros n]
theorem hrow {l : List Int} (h : l.length ≤ 100000) (B : List UInt8) : rowOf (text (hB l) ++ B) = hB l ++ (List.replicate (fr (hB l)) 0 ++ rowOf B) := by rw [row_append, row_text (hB_bin h), List.append_assoc]
/-- P11.4. -/
theorem hback {l : List Int} (h : l.length ≤ 100000) (hi : hin l = true) : hdecF (text (hB l)) (l.length : Int) = (l, 0) := by
  have hr := hrow h []
  rw [List.append_nil] at hr
  have e : rowOf [] = [] := rfl
  rw [e, List.append_nil] at hr
  obtain ⟨h1, h2⟩ := hback_row h hi _ _ hr (row_bin _)
  unfold hdecF hdec1
  rw [if_neg (by omega), h1, if_neg (by simp), Int.toNat_natCast]
  show hdec2 _ (cunp (hws l) _ _ _ _) = _
  rw [h2]
  unfold hdec2
  rw [if_neg (by simp), if_pos]
  unfold hdone
  rw [hr, List.drop_left' rfl, hlz_zeros, List.length_append, List.length_replicate]
  have := fr_lt (hB l)
  simp
  omega
theorem hpad {l : List Int} (h : l.length ≤ 100000) (hi : hin l = true) (b : UInt8) : (hdecF (text (hB l) ++ [b]) (l.length : Int)).2 = 6 := by
  have hr := hrow h [b]
  obtain ⟨h1, h2⟩ := hback_row h hi _ _ hr (row_bin _)
  unfold hdecF hdec1
  rw [if_neg (by omega), h1, if_neg (by simp), Int.toNat_natCast]
  show (hdec2 _ (cunp (hws l) _ _ _ _)).2 = _
  rw [h2]
  unfold hdec2
  rw [if_neg (by simp), if_neg]
  unfold hdone
  rw [hr, List.length_append, List.length_append, row_length, List.length_replicate]
  simp
  intro h3
  omega
theorem tbP_pos : ∀ (t : List Int) (x : Int) (c : Nat), 4 ≤ (tbP x c t).length
  | [], x, c => by
    show 4 ≤ (trb x c).length
    unfold trb digI
    rw [List.length_append, dig_length]
    exact Nat.le_add_right _ _
  | y :: t, x, c => by
    show 4 ≤ (if y = x then tbP x (c + 1) t else trb x c ++ tbP y 1 t).length
    by_cases e : y = x
    · rw [if_pos e]; exact tbP_pos t x (c + 1)
    · rw [if_neg e, List.length_append]
      have := tbP_pos t y 1
      omega
theorem hB_pos (l : List Int) : 4 ≤ (hB l).length := by
  unfold hB
  rw [List.length_append]
  have h1 := hL_len l
  generalize hL l = k at *
  cases k with
  | nil => cases h1
  | cons x t =>
    have := tbP_pos t x 1
    show 4 ≤ (tbP x 1 t).length + _
    omega
theorem hcut {l : List Int} (h : l.length ≤ 100000) (hi : hin l = true) (k : Nat) (hk : k + 1 = (text (hB l)).length) : (hdecF ((text (hB l)).take k) (l.length : Int)).2 ≠ 0 := by
  intro hz
  have hr := hrow h []
  rw [List.append_nil] at hr
  obtain ⟨h1, h2⟩ := hback_row h hi _ _ hr (row_bin _)
  have hsplit : rowOf (text (hB l)) = rowOf ((text (hB l)).take k) ++ rowOf ((text (hB l)).drop k) := by rw [← row_append, List.take_append_drop]
  have hlen : (rowOf ((text (hB l)).take k)).length = 8 * k := by rw [row_length, List.length_take]; omega
  have htl := text_length (hB l)
  have hpos := hB_pos l
  unfold hdecF hdec1 at hz
  rw [if_neg (by omega), Int.toNat_natCast] at hz
  have hb1 := row_bin ((text (hB l)).take k)
  have hb2 := row_bin ((text (hB l)).drop k)
  rw [hsplit] at h1 h2
  generalize rowOf ((text (hB l)).take k) = R at *
  generalize rowOf ((text (hB l)).drop k) = T at *
  by_cases g : (tgetF R 0 257).2.2 ≠ 0
  · rw [if_pos g] at hz
    exact g hz
  rw [if_neg g] at hz
  obtain ⟨m1, m2, m3⟩ := tgetF_more R T 0 257 (Nat.zero_le _) (by omega)
  rw [← m1, h1] at hz m2 m3
  dsimp only at hz m2 m3
  unfold hdec2 at hz
  obtain ⟨_, hg, hca⟩ := check_ok m3
  by_cases g2 : (cunp (wat ((hL l).map Int.toNat) 16 0) R l.length (tbits (hL l)).length []).2.2 ≠ 0
  · rw [if_pos g2] at hz
    exact g2 hz
  obtain ⟨m4, m5⟩ := cunp_more (cnat15 hg) hca hb1 hb2 l.length (tbits (hL l)).length [] m2 (by omega)
  unfold hws at h2
  rw [h2] at m4
  rw [← m4] at m5
  dsimp only at m5
  omega
end Go.Proofs.Ytpocpckhcciecaa
