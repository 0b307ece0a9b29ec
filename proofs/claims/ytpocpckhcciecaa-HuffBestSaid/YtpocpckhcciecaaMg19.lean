/-
  What the law of the last of these texts stands on, part 19.
-/
import Derived.Test.YtpocpckhcciecaaRows
import Derived.Test.YtpocpckhcciecaaMg01
import Derived.Test.YtpocpckhcciecaaMg02
import Derived.Test.YtpocpckhcciecaaMg03
import Derived.Test.YtpocpckhcciecaaMg04
import Derived.Test.YtpocpckhcciecaaMg05
import Derived.Test.YtpocpckhcciecaaMg10
import Derived.Test.YtpocpckhcciecaaMg11
import Derived.Test.YtpocpckhcciecaaMg12
import Derived.Test.YtpocpckhcciecaaMg13
import Derived.Test.YtpocpckhcciecaaMg14
import Derived.Test.YtpocpckhcciecaaMg17
import Derived.Test.YtpocpckhcciecaaMg18
import Derived.WalkKit
import Derived.WalkSpells
import Derived.WalkLawsBesides
import Derived.ProofKit
import Derived.OpenShut
import Derived.Handy
import Derived.SizedLaws
import Derived.JoinedOf
import Derived.KernelRfl
import Derived.Lib.Hide
import Derived.Lib.SmallJoins
import Derived.Deep.Slices
import Derived.Deep.Fields
import Derived.Deep.SlicePairs
import Derived.Deep.Draws
import Derived.Deep.AppendLies
import Derived.Deep.QuietTactic
import Derived.BigQuiet
import Derived.Deep.RegionHeld3
import Derived.StillTailTactics
import Derived.Laws.OwnMore
import Derived.Laws.Rows
import Derived.Below
import Derived.Carry
import Derived.WalkMore
import Derived.Laws.BytesString
import Derived.Laws.BitsLemmas
import Derived.Laws.Concat
import Derived.Deep.Upon
import Derived.Lib.BitFns
import Derived.Deep.OwnRows
import Derived.OwnWalk
import Derived.Laws.EntriesVeiled
namespace Go.Proofs.Ytpocpckhcciecaa
set_option linter.unusedSimpArgs false
set_option linter.unusedVariables false
open Go.ChangeShapes Go.WideShapes Go.ChangeAt Go.RowKit Go.Joins Go.Deep
theorem nread (x M t : Nat) (m : Int) (hm : m = M) (hM : M < 256) (ht : t ≤ 8) (hfit : x * 2 ^ t < 4294967296) :
    bits .or .i64 (wrap64 ((x : Int) * 2 ^ min t 64)) (bits .and .i64 m (wrap64 (wrap64 (2 ^ min t 64) - 1))) = ((x * 2 ^ t + M % 2 ^ t : Nat) : Int) := by
  subst hm
  rw [show min t 64 = t from by omega]
  have hp : 0 < 2 ^ t := Nat.pow_pos (by omega)
  have h8 : 2 ^ t ≤ 2 ^ 8 := Nat.pow_le_pow_right (by omega) ht
  rw [show (2 : Nat) ^ 8 = 256 from by decide] at h8
  have e1 : (2 : Int) ^ t = ((2 ^ t : Nat) : Int) := by norm_cast
  have e2 : wrap64 (wrap64 ((2 : Int) ^ t) - 1) = 2 ^ t - 1 := by rw [e1]; unfold wrap64; omega
  have e3 : wrap64 ((x : Int) * 2 ^ t) = ((x * 2 ^ t : Nat) : Int) := by
    have : (x : Int) * 2 ^ t = ((x * 2 ^ t : Nat) : Int) := by norm_cast
    rw [this]
    unfold wrap64
    omega
  have e63 : (2 : Int) ^ 63 = 9223372036854775808 := by decide
  have hwr : ∀ n : Int, 0 ≤ n → n < 2 ^ 63 → IntKind.i64.wrap n = n := fun n h0 h1 => by
    rw [e63] at h1
    rw [IntKind.wrap_i64]
    omega
  rw [e2, bits_mask .i64 63 (by decide) hwr t (by omega) (M : Int) (by omega) (by rw [e63]; omega), e3]
  have e4 : (M : Int) % 2 ^ t = ((M % 2 ^ t : Nat) : Int) := by rw [e1]; exact (Int.natCast_emod _ _).symm
  have hlt : M % 2 ^ t < 2 ^ t := Nat.mod_lt _ hp
  rw [e4, bits_join .i64 63 (by decide) hwr t ((x * 2 ^ t : Nat) : Int) ((M % 2 ^ t : Nat) : Int) (by omega) (by rw [e1, ← Int.natCast_emod, Nat.mul_mod_left]; rfl) (by rw [e63]; omega) (by omega) (by rw [e1]; exact_mod_cast hlt) (by rw [e63]; omega)]
  omega
theorem row_next (l : List UInt8) (p k t : Nat) (hp : p ≤ k) (hq : k / 8 < l.length) (ht : k % 8 + t ≤ 8) :
    num (((rowOf l).drop p).take (k + t - p)) = num (((rowOf l).drop p).take (k - p)) * 2 ^ t + l[k / 8].toNat / 2 ^ (8 - k % 8 - t) % 2 ^ t := by
  have h1 := row_mid l (k / 8) (k % 8) t hq ht
  rw [Nat.div_add_mod] at h1
  rw [show k + t - p = (k - p) + t from by omega, List.take_add, List.drop_drop, show p + (k - p) = k from by omega, h1, num_append, dig_length, num_dig]
theorem row_bound (l : List UInt8) (p k t : Nat) (h : k - p + t ≤ 32) : num (((rowOf l).drop p).take (k - p)) * 2 ^ t < 4294967296 := by
  have h1 := num_lt (l := ((rowOf l).drop p).take (k - p)) (fun d hd => row_bin l d (List.mem_of_mem_drop (List.mem_of_mem_take hd)))
  have h2 : 2 ^ (((rowOf l).drop p).take (k - p)).length ≤ 2 ^ (k - p) := Nat.pow_le_pow_right (by omega) (by simp; omega)
  have h3 : num (((rowOf l).drop p).take (k - p)) * 2 ^ t < 2 ^ (k - p) * 2 ^ t := Nat.mul_lt_mul_of_pos_right (by omega) (Nat.pow_pos (by omega))
  rw [← Nat.pow_add] at h3
  have h4 : 2 ^ (k - p + t) ≤ 2 ^ 32 := Nat.pow_le_pow_right (by omega) h
  rw [show (2 : Nat) ^ 32 = 4294967296 from by decide] at h4
  omega
set_option maxRecDepth 100000 in
set_option maxHeartbeats 2000000 in
theorem number_any (l : List UInt8) (p W g : Nat) (at0 : Int) (w : World) (hl : l.length ≤ 1099511627776) (hp : p + W ≤ 8 * l.length) (hW : W ≤ 32) (hB : Blk w g 87 #[.string ⟨l.toArray⟩, .int .i64 at0]) :
    Calls Try.prog 75 #[.pointer (some ⟨g, 0, none⟩), .int .i64 p, .int .i64 W] w fun e w' => e = .returned (.int .i64 (num (((rowOf l).drop p).take W))) ∧ ∃ k, w.drewN k = w' := by
  have hll : (l.length : Int) ≤ 1099511627776 := by omega
  have hpl : (p : Int) ≤ 8796093022208 := by omega
  have hWi : (W : Int) ≤ 32 := by omega
  go_enter Try.func75, Try.ntmps75
  go_wp2
  go_loopw [1, 7] (fun a n wr => ∃ k x : Nat, p ≤ k ∧ k ≤ p + W ∧ a = .int .i64 k ∧ n = .int .i64 x ∧ Hid (x = num (((rowOf l).drop p).take (k - p))) ∧ Hid (∃ d, w.drewN d = wr)) (fun a _ _ => (p + W) - (intOf a).toNat)
  case atStart => exact ⟨p, 0, by omega, by omega, rfl, rfl, by rw [Nat.sub_self]; rfl, 0, rfl⟩
  case round =>
    obtain ⟨k, x, hk0, hk, rfl, rfl, Hx, d, rfl⟩ := hrel
    obtain ⟨c1, c2, _, _⟩ := hB.two
    by_cases hlt : k < p + W
    · have h1 : (k : Int) < p + W := by omega
      have hq : k / 8 < l.length := by omega
      have hqi : 0 ≤ (k : Int) / 8 ∧ (k : Int) / 8 < l.length := by omega
      have hki : (k : Int) ≤ 8796093022208 := by omega
      have hby := u8_lt l[k / 8]
      by_cases hpart : 8 - (k : Int) % 8 ≤ p + W - k
      · have hn := row_next l p k (8 - k % 8) hk0 hq (by omega)
        have hbd := row_bound l p k (8 - k % 8) (by omega)
        have ht8 : 8 - k % 8 ≤ 8 ∧ k + (8 - k % 8) ≤ p + W ∧ 0 < 8 - k % 8 := by omega
        rw [← Hx.out] at hn hbd
        rw [show 8 - k % 8 - (8 - k % 8) = 0 from by omega, Nat.pow_zero, Nat.div_one] at hn
        have Hn := Lib.hid hn
        have Hbd := Lib.hid hbd
        have Ht8 := Lib.hid ht8
        have Hby := Lib.hid hby
        clear hn hbd ht8 hby
        go_wp2
        rw [show (8 - (k : Int) % 8) = ((8 - k % 8 : Nat) : Int) from by omega]
        generalize 8 - k % 8 = t at *
        go_quiet (fail)
        have ht9 : (t : Int) ≤ 8 := by have := Ht8.out; omega
        go_wp2
        go_roundw
        case rel =>
          have h8 := Ht8.out
          have hby := Hby.out
          refine ⟨k + t, _, by omega, by omega, iv (by omega), iv (nread x l[k / 8].toNat t _ ?_ hby h8.1 Hbd.out), Hn.out.symm, d + _, rfl⟩
          rw [ba_get]
          unfold wrap64
          omega
        case measure =>
          have h8 := Ht8.out
          simp only [intOf]
          omega
      · have hn := row_next l p k (p + W - k) hk0 hq (by omega)
        have hbd := row_bound l p k (p + W - k) (by omega)
        rw [← Hx.out] at hn hbd
        have ht8 : p + W - k ≤ 8 ∧ p + W - k ≤ 8 - k % 8 ∧ k + (p + W - k) = p + W ∧ 0 < p + W - k := by omega
        have Hn := Lib.hid hn
        have Hbd := Lib.hid hbd
        have Ht8 := Lib.hid ht8
        have Hby := Lib.hid hby
        clear hn hbd ht8 hby
        go_wp2
        rw [show (8 - (k : Int) % 8) = ((8 - k % 8 : Nat) : Int) from by omega, show ((p : Int) + W - k) = ((p + W - k : Nat) : Int) from by omega]
        have hle : (p + W - k ≤ 8 - k % 8) ∧ 8 - k % 8 ≤ 8 := by omega
        generalize 8 - k % 8 = bh at *
        generalize p + W - k = t at *
        have hws : IntKind.i64.wrap ((bh : Int) - t) = ((bh - t : Nat) : Int) := by rw [IntKind.wrap_i64]; omega
        have Hle := Lib.hid hle
        clear hle
        go_quiet (fail)
        have ht9 : (t : Int) ≤ 8 := by have := Ht8.out; omega
        go_wp2
        go_roundw
        case rel =>
          have h8 := Ht8.out
          have hby := Hby.out
          have hle := Hle.out
          have hdv : l[k / 8].toNat / 2 ^ (bh - t) ≤ l[k / 8].toNat := Nat.div_le_self _ _
          refine ⟨k + t, _, by omega, by omega, iv (by omega), iv (nread x (l[k / 8].toNat / 2 ^ (bh - t)) t _ ?_ (by omega) h8.1 Hbd.out), Hn.out.symm, d + _, rfl⟩
          rw [ba_get, show min (bh - t) 64 = bh - t from by omega, show wrap64 (l[k / 8].toNat : Int) = (l[k / 8].toNat : Int) from by unfold wrap64; omega]
          norm_cast
        case measure =>
          have h8 := Ht8.out
          simp only [intOf]
          omega
    · obtain rfl : k = p + W := by omega
      go_wp2
      go_ret
      refine ⟨congrArg Ending.returned (iv ?_), d, rfl⟩
      rw [Hx.out, show p + W - p = W from by omega]
end Go.Proofs.Ytpocpckhcciecaa
namespace Go.Proofs.Ytpocpckhcciecaa
set_option linter.unusedSimpArgs false
set_option linter.unusedVariables false
open Go.ChangeShapes Go.WideShapes Go.ChangeAt Go.RowKit Go.Joins Go.Deep
/-- A reader at block g stands at a place of a text. -/
def RHold (w : World) (g : Nat) (l : List UInt8) (p : Nat) : Prop := Blk w g 87 #[.string ⟨l.toArray⟩, .int .i64 p]
section
variable {w w' : World} {g : Nat} {l : List UInt8} {p : Nat} {S : Nat → Prop}
theorem RHold.drewN (h : RHold w g l p) (n : Nat) : RHold (w.drewN n) g l p := h
theorem RHold.go (h : RHold w g l p) (n : Nat) (q : Int) (e : q = ((p + n : Nat) : Int)) : RHold (w.setCell ⟨g, 1, none⟩ (.int .i64 q)) g l (p + n) := by
  subst e
  exact Blk.set_ h 1 _
end
set_option maxRecDepth 100000 in
set_option maxHeartbeats 1000000 in
theorem get_yes (l : List UInt8) (p W g : Nat) (w : World) (hl : l.length ≤ 1099511627776) (hp : p + W ≤ 8 * l.length) (hW : W ≤ 32) (hB : RHold w g l p) :
    Calls Try.prog 53 #[.pointer (some ⟨g, 0, none⟩), .int .i64 W] w fun e w' => e = .returned (.tuple #[.int .i64 (num (((rowOf l).drop p).take W)), .int .i64 0]) ∧ RHold w' g l (p + W) ∧ Touch w w' (fun k => k = g) := by
  have hnum := fun v hB => number_any l p W g p v hl hp hW hB
  have hleft := fun v hB => bleft_any l p g v (by omega) (by omega) hB
  have hle : (W : Int) ≤ ((8 * l.length - p : Nat) : Int) := by omega
  have hWi : (W : Int) ≤ 32 := by omega
  have hpl : (p : Int) ≤ 8796093022208 := by omega
  have hg := Blk.lt hB
  obtain ⟨c1, c2, z1, z2⟩ := Blk.two hB
  have HB := Lib.hid hB
  clear hB hl hp
  generalize num (((rowOf l).drop p).take W) = N at *
  generalize 8 * l.length - p = M at *
  go_enter Try.func53, Try.ntmps53
  go_wp2_with (first
    | (go_at_call 54; refine (some_is g _).mono ?_; rintro e w1 ⟨rfl, rfl⟩)
    | (go_at_call 55; refine (hleft _ HB.out).mono ?_; rintro e w1 ⟨rfl, k1, rfl⟩)
    | (go_at_call 75; refine (hnum _ (HB.out.drewN _)).mono ?_; rintro e w1 ⟨rfl, k2, rfl⟩))
  go_ret2
  exact ⟨rfl, RHold.go (HB.out.drewN _) W _ (by omega), ((Touch.refl w (fun k => k = g)).drewN _).set (p := ⟨g, 1, none⟩) (Or.inl rfl) _⟩
set_option maxRecDepth 100000 in
set_option maxHeartbeats 1000000 in
theorem get_no (l : List UInt8) (p g : Nat) (width e : Int) (w : World) (hl : l.length ≤ 1099511627776) (hp : p ≤ 8 * l.length) (hB : RHold w g l p) (he : (bgetF (rowOf l) p width).2 = e) (hne : e ≠ 0) :
    Calls Try.prog 53 #[.pointer (some ⟨g, 0, none⟩), .int .i64 width] w fun r w' => r = .returned (.tuple #[.int .i64 0, .int .i64 e]) ∧ ∃ k, w.drewN k = w' := by
  by_cases h1 : width < 0
  · have : e = 2 := by rw [← he]; unfold bgetF; rw [if_pos (Or.inl h1)]
    subst this
    clear he hne hl
    go_enter Try.func53, Try.ntmps53
    go_wp2
    go_ret2
    exact ⟨rfl, 0, rfl⟩
  · by_cases h2 : 32 < width
    · have : e = 2 := by rw [← he]; unfold bgetF; rw [if_pos (Or.inr h2)]
      subst this
      clear he hne hl
      go_enter Try.func53, Try.ntmps53
      go_wp2
      go_ret2
      exact ⟨rfl, 0, rfl⟩
    · by_cases h3 : (p : Int) + width > (rowOf l).length
      · have : e = 4 := by rw [← he]; unfold bgetF; rw [if_neg (by omega), if_pos h3]
        subst this
        rw [row_length] at h3
        have hleft := fun v hB => bleft_any l p g v (by omega) (by omega) hB
        have hle : ((8 * l.length - p : Nat) : Int) < width := by omega
        clear he hne hl h3
        have HB := Lib.hid hB
        clear hB hp
        generalize 8 * l.length - p = M at *
        go_enter Try.func53, Try.ntmps53
        go_wp2_with (first
          | (go_at_call 54; refine (some_is g _).mono ?_; rintro e w1 ⟨rfl, rfl⟩)
          | (go_at_call 55; refine (hleft _ HB.out).mono ?_; rintro e w1 ⟨rfl, k1, rfl⟩))
        go_ret2
        exact ⟨rfl, k1, rfl⟩
      · exfalso
        apply hne
        rw [← he]
        unfold bgetF
        rw [if_neg (by omega), if_neg h3]
end Go.Proofs.Ytpocpckhcciecaa
namespace Go.Proofs.Ytpocpckhcciecaa
set_option linter.unusedSimpArgs false
set_option linter.unusedVariables false
open Go.ChangeShapes Go.WideShapes Go.ChangeAt Go.RowKit Go.Joins Go.Deep
/-- Symbols as integers. -/
def csy (l : List Nat) : List Int := l.map (fun s : Nat => (s : Int))
theorem csy_app (a b : List Nat) : csy (a ++ b) = csy a ++ csy b := by simp [csy]
theorem csy_get {l : List Nat} {k s : Nat} (h : l[k]? = some s) : (ints (csy l))[k]? = some (.int .i64 (s : Int)) := by
  simp [ints, csy, h]
/-- A code's cells. -/
def ccells (h n : Nat) (st : List Int) (rows : List Value) (d : Int) : List Value := .bool true :: .slice (some ⟨h, 0, none⟩) n n :: (ints st ++ (rows ++ [.int .i64 d]))
section
variable {h n : Nat} {st : List Int} {rows : List Value} {d : Int}
theorem ccells_start (hs : st.length = 16) (j : Nat) (hj : j < 16) : (ccells h n st rows d)[2 + j]? = some (.int .i64 (st[j]'(by omega))) := by
  unfold ccells
  rw [show 2 + j = j + 1 + 1 from by omega, List.getElem?_cons_succ, List.getElem?_cons_succ, List.getElem?_append_left (by rw [ints_length]; omega)]
  exact ints_get st j (by omega)
theorem ccells_row (hs : st.length = 16) (hr : rows.length = 16) (j : Nat) (hj : j < 16) : (ccells h n st rows d)[18 + j]? = some (rows[j]'(by omega)) := by
  unfold ccells
  rw [show 18 + j = 16 + j + 1 + 1 from by omega, List.getElem?_cons_succ, List.getElem?_cons_succ, List.getElem?_append_right (by rw [ints_length]; omega), ints_length, show 16 + j - st.length = j from by omega, List.getElem?_append_left (by omega), List.getElem?_eq_getElem (by omega)]
theorem ccells_deep (hs : st.length = 16) (hr : rows.length = 16) : (ccells h n st rows d)[34]? = some (.int .i64 d) := by
  unfold ccells
  rw [show 34 = 32 + 1 + 1 from rfl, List.getElem?_cons_succ, List.getElem?_cons_succ, List.getElem?_append_right (by rw [ints_length]; omega), ints_length, List.getElem?_append_right (by omega), show 32 - st.length - rows.length = 0 from by omega]
  rfl
theorem ccells_set_start (hs : st.length = 16) (j : Nat) (hj : j < 16) (v : Int) : (ccells h n st rows d).set (2 + j) (.int .i64 v) = ccells h n (st.set j v) rows d := by
  unfold ccells
  rw [show 2 + j = j + 1 + 1 from by omega, List.set_cons_succ, List.set_cons_succ, List.set_append_left _ _ (by rw [ints_length]; omega)]
  simp [ints, List.map_set]
theorem ccells_set_row (hs : st.length = 16) (hr : rows.length = 16) (j : Nat) (hj : j < 16) (v : Value) : (ccells h n st rows d).set (18 + j) v = ccells h n st (rows.set j v) d := by
  unfold ccells
  rw [show 18 + j = 16 + j + 1 + 1 from by omega, List.set_cons_succ, List.set_cons_succ, List.set_append_right _ _ (by rw [ints_length]; omega), ints_length, show 16 + j - st.length = j from by omega, List.set_append_left _ _ (by omega)]
theorem ccells_set_deep (hs : st.length = 16) (hr : rows.length = 16) (v : Int) : (ccells h n st rows d).set 34 (.int .i64 v) = ccells h n st rows v := by
  unfold ccells
  rw [show 34 = 32 + 1 + 1 from rfl, List.set_cons_succ, List.set_cons_succ, List.set_append_right _ _ (by rw [ints_length]; omega), ints_length, List.set_append_right _ _ (by omega), show 32 - st.length - rows.length = 0 from by omega]
  rfl
end
/-- Sixteen slices, each in a block of its own. -/
structure CRows (W : World) (B : Nat) (rows : List Value) (R : Nat → List Nat) : Prop where
  len : rows.length = 16
  own : ∀ j (hj : j < rows.length), W.ownsRow B 3 1 rows[j] (R j).length (ints (csy (R j)))
  sep : ∀ i j (hi : i < rows.length) (hj : j < rows.length), i ≠ j → ∀ k, rows[i].ownBlock = some k → rows[j].ownBlock ≠ some k
section
variable {W W' W2 Wa : World} {B g : Nat} {rows : List Value} {R R' : Nat → List Nat} {cs : Array Value} {t : TypeId} {S : Nat → Prop}
theorem CRows.congr (h : CRows W B rows R) (he : ∀ j, j < 16 → R j = R' j) : CRows W B rows R' := ⟨h.len, fun j hj => by rw [← he j (by have := h.len; omega)]; exact h.own j hj, h.sep⟩
theorem CRows.touch (h : CRows W B rows R) (ht : Touch W W' S) (hS : ∀ j (hj : j < rows.length) k, rows[j].ownBlock = some k → ¬ S k) : CRows W' B rows R := ⟨h.len, fun j hj => owns_touch (h.own j hj) ht (hS j hj), h.sep⟩
theorem CRows.store (h : CRows W B rows R) (hB : Blk W g t cs) (hne : 3 ≠ t) (i : Nat) (u : Value) : CRows (W.setCell ⟨g, i, none⟩ u) B rows R :=
  h.touch ((Touch.refl W (fun k => k = g)).set (p := ⟨g, i, none⟩) (Or.inl rfl) u) fun j hj k hk e => owns_apart (h.own j hj) hB hne (by rw [hk, e])
theorem CRows.append (h : CRows W B rows R) (hb : Below W.heap.size W Wa) (j : Nat) (hj : j < 16) (v' : Value) (s : Nat) (hg : Wa.grownBy W2 (rows[j]'(by have := h.len; omega)).ownBlock)
    (ho : W2.ownsRow B 3 1 v' ((R j).length + 1) (ints (csy (R j)) ++ [.int .i64 (s : Int)])) (hs : Sep Wa (rows[j]'(by have := h.len; omega)) v') :
    CRows W2 B (rows.set j v') (fun i => if i = j then R j ++ [s] else R i) := by
  have hl := h.len
  have hsz := hb.size
  refine ⟨by rw [List.length_set]; exact hl, fun i hi => ?_, fun i k hi hk hne b hb1 hb2 => ?_⟩
  · rw [List.length_set] at hi
    by_cases e : j = i
    · subst e
      rw [List.getElem_set_self, if_pos rfl, csy_app, List.length_append]
      have : ints (csy (R j) ++ csy [s]) = ints (csy (R j)) ++ [.int .i64 (s : Int)] := by simp [ints, csy]
      rw [this]
      exact ho
    · rw [List.getElem_set_ne e, if_neg (fun h => e h.symm)]
      have h1 := owns_below (h.own i hi) hb (Nat.le_refl _)
      refine owns_touch h1 (touch_grow hg) fun k hk e2 => ?_
      exact h.sep j i (by omega) hi e k e2.symm hk
  · rw [List.length_set] at hi hk
    have hnew : ∀ m (hm : m < rows.length), m ≠ j → ∀ b, v'.ownBlock = some b → rows[m].ownBlock ≠ some b := fun m hm hmj b h1 h2 => by
      rcases hs b h1 with h3 | h3
      · exact h.sep j m (by omega) hm (fun e => hmj e.symm) b h3 h2
      · have := ((h.own m hm).lt b h2).2
        omega
    by_cases e1 : j = i
    · subst e1
      rw [List.getElem_set_self] at hb1
      rw [List.getElem_set_ne hne] at hb2
      exact hnew k hk (fun e => hne e.symm) b hb1 hb2
    · rw [List.getElem_set_ne e1] at hb1
      by_cases e2 : j = k
      · subst e2
        rw [List.getElem_set_self] at hb2
        exact hnew i hi hne b hb2 hb1
      · rw [List.getElem_set_ne e2] at hb2
        exact h.sep i k hi hk hne b hb1 hb2
end
structure CSt (w1 W : World) (n : Nat) (L : List (Int × Int)) (st : List Int) (rows : List Value) (d : Int) (R : Nat → List Nat) : Prop where
  code : Blk W (w1.heap.size + 1) 73 (ccells w1.heap.size n st rows d).toArray
  words : Blk W w1.heap.size 75 (pairs .i64 L).toArray
  rows : CRows W w1.heap.size rows R
  frame : Below w1.heap.size w1 W
  stl : st.length = 16
section
variable {w1 W Wa W2 : World} {n : Nat} {L : List (Int × Int)} {st : List Int} {rows : List Value} {d : Int} {R R' : Nat → List Nat}
theorem CSt.start (h : CSt w1 W n L st rows d R) (j : Nat) (hj : j < 16) : W.cell? ⟨w1.heap.size + 1, 2 + j, none⟩ = some (.int .i64 (st[j]'(by have := h.stl; omega))) := by
  rw [h.code.cell, List.getElem?_toArray]
  exact ccells_start h.stl j hj
theorem CSt.row (h : CSt w1 W n L st rows d R) (j : Nat) (hj : j < 16) : W.cell? ⟨w1.heap.size + 1, 18 + j, none⟩ = some (rows[j]'(by have := h.rows.len; omega)) := by
  rw [h.code.cell, List.getElem?_toArray]
  exact ccells_row h.stl h.rows.len j hj
theorem CSt.deep (h : CSt w1 W n L st rows d R) : W.cell? ⟨w1.heap.size + 1, 34, none⟩ = some (.int .i64 d) := by
  rw [h.code.cell, List.getElem?_toArray]
  exact ccells_deep h.stl h.rows.len
theorem CSt.wslice (h : CSt w1 W n L st rows d R) : W.cell? ⟨w1.heap.size + 1, 1, none⟩ = some (.slice (some ⟨w1.heap.size, 0, none⟩) n n) := by
  rw [h.code.cell, List.getElem?_toArray]
  rfl
theorem CSt.put_start (h : CSt w1 W n L st rows d R) (j : Nat) (hj : j < 16) (v : Int) : CSt w1 (W.setCell ⟨w1.heap.size + 1, 2 + j, none⟩ (.int .i64 v)) n L (st.set j v) rows d R := by
  refine ⟨?_, h.words.far (by simp) _, h.rows.store h.code (by decide) _ _, h.frame.setCell (by simp) _, by rw [List.length_set]; exact h.stl⟩
  have := h.code.set_ (2 + j) (.int .i64 v)
  rw [List.setIfInBounds_toArray, ccells_set_start h.stl j hj] at this
  exact this
theorem CSt.put_deep (h : CSt w1 W n L st rows d R) (v : Int) : CSt w1 (W.setCell ⟨w1.heap.size + 1, 34, none⟩ (.int .i64 v)) n L st rows v R := by
  refine ⟨?_, h.words.far (by simp) _, h.rows.store h.code (by decide) _ _, h.frame.setCell (by simp) _, h.stl⟩
  have := h.code.set_ 34 (.int .i64 v)
  rw [List.setIfInBounds_toArray, ccells_set_deep h.stl h.rows.len] at this
  exact this
theorem CSt.put_word (h : CSt w1 W n L st rows d R) (s : Nat) (hs : s < L.length) (a b : Int) : CSt w1 ((W.setCell ⟨w1.heap.size, s * 2, none⟩ (.int .i64 a)).setCell ⟨w1.heap.size, s * 2 + 1, none⟩ (.int .i64 b)) n (L.set s (a, b)) st rows d R := by
  have hw := h.words.set_ (s * 2) (.int .i64 a)
  refine ⟨(h.code.far (by simp) _).far (by simp) _, ?_, (h.rows.store h.words (by decide) _ _).store hw (by decide) _ _, (h.frame.setCell (by simp) _).setCell (by simp) _, h.stl⟩
  have := hw.set_ (s * 2 + 1) (.int .i64 b)
  rw [List.setIfInBounds_toArray, List.setIfInBounds_toArray, pairs_set2 .i64 a b L s hs] at this
  exact this
theorem CSt.put_row (h : CSt w1 W n L st rows d R) (hb : Below W.heap.size W Wa) (j : Nat) (hj : j < 16) (v' : Value) (s : Nat) (hg : Wa.grownBy W2 (rows[j]'(by have := h.rows.len; omega)).ownBlock)
    (ho : W2.ownsRow w1.heap.size 3 1 v' ((R j).length + 1) (ints (csy (R j)) ++ [.int .i64 (s : Int)])) (hs : Sep Wa (rows[j]'(by have := h.rows.len; omega)) v') :
    W2.frozen? ⟨w1.heap.size + 1, 18 + j, none⟩ = false ∧ (∃ u, W2.cell? ⟨w1.heap.size + 1, 18 + j, none⟩ = some u) ∧ CSt w1 (W2.setCell ⟨w1.heap.size + 1, 18 + j, none⟩ v') n L st (rows.set j v') d (fun i => if i = j then R j ++ [s] else R i) := by
  have hoj := h.rows.own j (by have := h.rows.len; omega)
  have hgb : ∀ {b : Nat} {t : TypeId} {cs : Array Value}, Blk W b t cs → 3 ≠ t → Blk W2 b t cs := fun {b t cs} hB hne => (hB.below hb hB.lt).grow' hg (fun e => owns_apart hoj hB hne e)
  have hc := hgb h.code (by decide)
  have hw := hgb h.words (by decide)
  have hrow := h.rows.append hb j hj v' s hg ho hs
  refine ⟨hc.frozen _, ⟨rows[j]'(by have := h.rows.len; omega), ?_⟩, ⟨?_, hw.far (by simp) _, hrow.store hc (by decide) _ _, ?_, h.stl⟩⟩
  · rw [hc.cell, List.getElem?_toArray]
    exact ccells_row h.stl h.rows.len j hj
  · have := hc.set_ (18 + j) v'
    rw [List.setIfInBounds_toArray, ccells_set_row h.stl h.rows.len j hj] at this
    exact this
  · refine Below.setCell ?_ (by simp) _
    have h1 := h.frame.trans (hb.mono h.frame.size)
    exact Below.grown h1 hg h1.size fun b hb2 => (hoj.lt b hb2).1
theorem CSt.congr (h : CSt w1 W n L st rows d R) (he : ∀ j, j < 16 → R j = R' j) : CSt w1 W n L st rows d R' := ⟨h.code, h.words, h.rows.congr he, h.frame, h.stl⟩
end
/-- A code of lengths lies at block g; all of it lies below block B. -/
structure CHold (W : World) (B g : Nat) (ls : List Nat) (h : Nat) (st : List Int) (rows : List Value) : Prop where
  code : Blk W g 73 (ccells h ls.length st rows (cdeep ls ls.length : Nat)).toArray
  words : Blk W h 75 (pairs .i64 (wat ls 16 0)).toArray
  gB : g < B
  hB : h < B
  stl : st.length = 16
  rl : rows.length = 16
  st : ∀ j (hj : j < st.length), 1 ≤ j → j ≤ cdeep ls ls.length → st[j] = (cst ls j : Int)
  row : ∀ j (hj : j < rows.length), ∃ A c, rows[j] = .slice A (crow ls ls.length j).length c ∧ Reads W B 1 A (crow ls ls.length j).length (ints (csy (crow ls ls.length j)))
def CCode (W : World) (B g : Nat) (ls : List Nat) : Prop := ∃ h st rows, CHold W B g ls h st rows
section
variable {W W' : World} {B B' g : Nat} {ls : List Nat}
theorem CCode.below (h : CCode W B g ls) (hb : Below B W W') : CCode W' B g ls := by
  obtain ⟨k, st, rows, h⟩ := h
  exact ⟨k, st, rows, h.code.below hb h.gB, h.words.below hb h.hB, h.gB, h.hB, h.stl, h.rl, h.st, fun j hj => by
    obtain ⟨A, c, e, hr⟩ := h.row j hj
    exact ⟨A, c, e, hr.below hb⟩⟩
theorem CCode.more (h : CCode W B g ls) (hB : B ≤ B') : CCode W B' g ls := by
  obtain ⟨k, st, rows, h⟩ := h
  exact ⟨k, st, rows, h.code, h.words, Nat.lt_of_lt_of_le h.gB hB, Nat.lt_of_lt_of_le h.hB hB, h.stl, h.rl, h.st, fun j hj => by
    obtain ⟨A, c, e, hr⟩ := h.row j hj
    exact ⟨A, c, e, hr.more hB⟩⟩
theorem CCode.made (h : CCode W B g ls) : W.cell? ⟨g, 0, none⟩ = some (.bool true) := by
  obtain ⟨k, st, rows, h⟩ := h
  rw [h.code.cell, List.getElem?_toArray]
  rfl
theorem CCode.deep (h : CCode W B g ls) : W.cell? ⟨g, 34, none⟩ = some (.int .i64 (cdeep ls ls.length : Nat)) := by
  obtain ⟨k, st, rows, h⟩ := h
  rw [h.code.cell, List.getElem?_toArray]
  exact ccells_deep h.stl h.rl
theorem CCode.start (h : CCode W B g ls) (j : Nat) (h1 : 1 ≤ j) (h2 : j ≤ cdeep ls ls.length) (h3 : j < 16) : W.cell? ⟨g, 2 + j, none⟩ = some (.int .i64 (cst ls j : Int)) := by
  obtain ⟨k, st, rows, h⟩ := h
  rw [h.code.cell, List.getElem?_toArray, ccells_start h.stl j h3, h.st j (by have := h.stl; omega) h1 h2]
/-- A row of symbols, and its cells. -/
theorem CCode.row (h : CCode W B g ls) (j : Nat) (h3 : j < 16) : ∃ A c, W.cell? ⟨g, 18 + j, none⟩ = some (.slice A (crow ls ls.length j).length c) ∧ (0 < (crow ls ls.length j).length → ∃ b off, A = some ⟨b, off, none⟩ ∧ b < B ∧ ∀ k s : Nat, (crow ls ls.length j)[k]? = some s → W.cell? ⟨b, off + k, none⟩ = some (.int .i64 (s : Int))) := by
  obtain ⟨k, st, rows, h⟩ := h
  obtain ⟨A, c, e, hr⟩ := h.row j (by have := h.rl; omega)
  refine ⟨A, c, ?_, fun hp => ?_⟩
  · rw [h.code.cell, List.getElem?_toArray, ccells_row h.stl h.rl j h3, e]
  · obtain ⟨b, off, e2, hb, hc⟩ := hr.2 hp
    exact ⟨b, off, e2, hb, fun k s hk => hc k _ (csy_get hk)⟩
theorem CCode.words (h : CCode W B g ls) : ∃ b, b < B ∧ W.cell? ⟨g, 1, none⟩ = some (.slice (some ⟨b, 0, none⟩) ls.length ls.length) ∧ Blk W b 75 (pairs .i64 (wat ls 16 0)).toArray := by
  obtain ⟨k, st, rows, h⟩ := h
  refine ⟨k, h.hB, ?_, h.words⟩
  rw [h.code.cell, List.getElem?_toArray]
  rfl
theorem CCode.at (h : CCode W B g ls) : g < B ∧ g < W.heap.size := by
  obtain ⟨k, st, rows, h⟩ := h
  exact ⟨h.gB, h.code.lt⟩
end
/-- A code lies in blocks that pass a test. -/
def CFar (W : World) (g : Nat) (ls : List Nat) (ok : Nat → Prop) : Prop :=
  ∃ B h st rows, CHold W B g ls h st rows ∧ B ≤ W.heap.size ∧ ok g ∧ ok h ∧ ∀ j (hj : j < rows.length) (A : Option Addr) (n c : Nat), rows[j] = .slice A n c → 0 < n → ∀ a : Addr, A = some a → ok a.block
section
variable {W W' : World} {B g : Nat} {ls : List Nat} {ok ok' S : Nat → Prop}
theorem CFar.code (h : CFar W g ls ok) : ∃ B, B ≤ W.heap.size ∧ CCode W B g ls := by
  obtain ⟨B, k, st, rows, h1, h2, _⟩ := h
  exact ⟨B, h2, k, st, rows, h1⟩
theorem CFar.touch (h : CFar W g ls ok) (ht : Touch W W' S) (hS : ∀ k, ok k → ¬ S k) : CFar W' g ls ok := by
  obtain ⟨B, k, st, rows, h, hB, o1, o2, o3⟩ := h
  refine ⟨B, k, st, rows, ⟨h.code.touch ht (hS _ o1), h.words.touch ht (hS _ o2), h.gB, h.hB, h.stl, h.rl, h.st, fun j hj => ?_⟩, Nat.le_trans hB ht.size, o1, o2, o3⟩
  obtain ⟨A, c, e, hr⟩ := h.row j hj
  refine ⟨A, c, e, hr.1, fun hn => ?_⟩
  obtain ⟨b, off, e2, hb, hc⟩ := hr.2 hn
  refine ⟨b, off, e2, hb, fun q u hu => ?_⟩
  have := ht.block b (by omega) (hS b (o3 j hj A _ c e hn ⟨b, off, none⟩ e2))
  exact (World.cell?_of_block (w := W) (w' := W') (a := ⟨b, off + q, none⟩) this).trans (hc q u hu)
theorem CFar.mono (h : CFar W g ls ok) (hk : ∀ k, ok k → ok' k) : CFar W g ls ok' := by
  obtain ⟨B, k, st, rows, h, hB, o1, o2, o3⟩ := h
  exact ⟨B, k, st, rows, h, hB, hk _ o1, hk _ o2, fun j hj A n c e hn a ha => hk _ (o3 j hj A n c e hn a ha)⟩
theorem CCode.far (h : CCode W B g ls) (hB : B ≤ W.heap.size) : CFar W g ls (fun k => k < B) := by
  obtain ⟨k, st, rows, h⟩ := h
  refine ⟨B, k, st, rows, h, hB, h.gB, h.hB, fun j hj A n c e hn a ha => ?_⟩
  obtain ⟨A2, c2, e2, hr⟩ := h.row j hj
  rw [e] at e2
  injection e2 with e3 e4 _
  subst e3 e4
  obtain ⟨b, off, e5, hb, _⟩ := hr.2 hn
  rw [ha] at e5
  injection e5 with e5
  rw [e5]
  exact hb
end
/-- The program's Check is the document's. -/
theorem ccheck_ref (l : List Int) : pcheckF l = checkF l := by
  have h2 := (cpart_more l).1
  have h1 := cpart_used l
  unfold pcheckF checkF
  by_cases h : 257 < l.length
  · rw [if_pos h, if_pos h]
  · rw [if_neg h, if_neg h]
    unfold sumF fullF
    by_cases hg : lgood l = true
    · rw [if_pos hg, if_pos hg]
      by_cases u0 : usedF l = 0
      · rw [if_pos u0, if_pos (by omega), if_pos (by omega)]
      · rw [if_neg u0]
        by_cases u1 : usedF l = 1
        · rw [if_pos u1]
          by_cases hp : (partF l : Int) = 16384
          · rw [if_pos hp, if_pos (by omega)]
          · rw [if_neg hp, if_neg (by omega)]
        · rw [if_neg u1]
          by_cases hp : (partF l : Int) = 32768
          · rw [if_pos hp, if_pos (by omega)]
          · rw [if_neg hp, if_neg (by omega)]
    · rw [if_neg hg, if_neg hg, if_neg (by omega)]
end Go.Proofs.Ytpocpckhcciecaa
