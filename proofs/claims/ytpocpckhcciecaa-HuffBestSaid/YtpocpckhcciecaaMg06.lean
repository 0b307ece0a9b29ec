/-
  What the law of the last of these texts stands on, part 6.
-/
import Derived.Test.YtpocpckhcciecaaRows
import Derived.Test.YtpocpckhcciecaaMg01
import Derived.Test.YtpocpckhcciecaaMg02
import Derived.Test.YtpocpckhcciecaaMg03
import Derived.Test.YtpocpckhcciecaaMg04
import Derived.Test.YtpocpckhcciecaaMg05
import Derived.Deep.AppendLies
import Derived.Deep.RegionHeld3
import Derived.WalkKit
import Derived.WalkSpells
import Derived.WalkLawsBesides
import Derived.ProofKit
import Derived.OpenShut
import Derived.Handy
import Derived.SizedLaws
import Derived.JoinedOf
import Derived.KernelRfl
import Derived.Lib.Hide
import Derived.Lib.SmallJoins
import Derived.Deep.Slices
import Derived.Deep.Fields
import Derived.Deep.SlicePairs
import Derived.Deep.Draws
import Derived.Deep.QuietTactic
import Derived.BigQuiet
import Derived.StillTailTactics
import Derived.Laws.OwnMore
import Derived.Laws.Rows
import Derived.Below
import Derived.Carry
import Derived.WalkMore
import Derived.Laws.BytesString
import Derived.Laws.BitsLemmas
import Derived.Laws.Concat
import Derived.Deep.Upon
import Derived.Deep.RegionLaw
namespace Go.Proofs.Ytpocpckhcciecaa
set_option linter.unusedSimpArgs false
set_option linter.unusedVariables false
open Go.ChangeShapes Go.WideShapes Go.ChangeAt Go.RowKit Go.Joins Go.Deep
/-- Symbols as integers. -/
def lsy (l : List Nat) : List Int := l.map (fun s : Nat => (s : Int))
/-- What holds of the block that a slice of n elements lies in. -/
def LOk (ok : Nat → Prop) (A : Option Addr) (n : Nat) : Prop := 0 < n → ∃ b off, A = some ⟨b, off, none⟩ ∧ ok b
/-- The cells of a row of things, below block B, each thing's symbols in a block of which 'ok' holds. -/
def LMem (W : World) (B : Nat) (ok : Nat → Prop) : List Value → List LTh → Prop
  | xs, [] => xs = []
  | xs, x :: t => ∃ As ns cs rest, xs = .int .i64 x.w :: .slice As ns cs :: .bool x.leaf :: rest ∧ ns = x.syms.length ∧ ns ≤ cs ∧ (Reads W B 1 As ns (ints (lsy x.syms)) ∧ LOk ok As ns) ∧ LMem W B ok rest t
section
variable {ok : Nat → Prop}
theorem LMem.below {W W' : World} {B : Nat} (hb : Below B W W') : ∀ {R : List LTh} {xs : List Value}, LMem W B ok xs R → LMem W' B ok xs R
  | [], _, h => h
  | x :: t, _, ⟨As, ns, cs, rest, e, hn, hc, hr, ht⟩ => ⟨As, ns, cs, rest, e, hn, hc, ⟨hr.1.below hb, hr.2⟩, LMem.below hb ht⟩
theorem LMem.more {W : World} {B B' : Nat} (hB : B ≤ B') : ∀ {R : List LTh} {xs : List Value}, LMem W B ok xs R → LMem W B' ok xs R
  | [], _, h => h
  | x :: t, _, ⟨As, ns, cs, rest, e, hn, hc, hr, ht⟩ => ⟨As, ns, cs, rest, e, hn, hc, ⟨hr.1.more hB, hr.2⟩, LMem.more hB ht⟩
theorem LMem.len {W : World} {B : Nat} : ∀ {R : List LTh} {xs : List Value}, LMem W B ok xs R → xs.length = R.length * 3
  | [], _, h => by rw [show _ = [] from h]; rfl
  | x :: t, _, ⟨As, ns, cs, rest, e, hn, hc, hr, ht⟩ => by rw [e, List.length_cons, List.length_cons, List.length_cons, LMem.len ht, List.length_cons]; omega
theorem LMem.one {W : World} {B : Nat} : ∀ {R : List LTh} {xs : List Value}, LMem W B ok xs R → ∀ u ∈ xs, u.oneCell' = true
  | [], _, h, u, hu => by rw [show _ = [] from h] at hu; cases hu
  | x :: t, _, ⟨As, ns, cs, rest, e, hn, hc, hr, ht⟩, u, hu => by
    rw [e] at hu
    simp only [List.mem_cons] at hu
    rcases hu with rfl | rfl | rfl | hu
    · rfl
    · rfl
    · rfl
    · exact LMem.one ht u hu
theorem LMem.app {W : World} {B : Nat} : ∀ {R : List LTh} {xs : List Value} {R2 : List LTh} {ys : List Value}, LMem W B ok xs R → LMem W B ok ys R2 → LMem W B ok (xs ++ ys) (R ++ R2)
  | [], _, R2, ys, h, k => by rw [show _ = [] from h]; exact k
  | x :: t, _, R2, ys, ⟨As, ns, cs, rest, e, hn, hc, hr, ht⟩, k => ⟨As, ns, cs, rest ++ ys, by rw [e]; rfl, hn, hc, hr, LMem.app ht k⟩
theorem LMem.parts {W : World} {B : Nat} : ∀ {R R2 : List LTh} {xs : List Value}, LMem W B ok xs (R ++ R2) → LMem W B ok (xs.take (R.length * 3)) R ∧ LMem W B ok (xs.drop (R.length * 3)) R2
  | [], R2, xs, h => by
    rw [show ([] : List LTh).length * 3 = 0 from rfl]
    exact ⟨by simp [LMem], by simpa using h⟩
  | x :: t, R2, xs, ⟨As, ns, cs, rest, e, hn, hc, hr, ht⟩ => by
    obtain ⟨h1, h2⟩ := LMem.parts ht
    rw [e, show (x :: t).length * 3 = t.length * 3 + 1 + 1 + 1 from by rw [List.length_cons]; omega]
    exact ⟨⟨As, ns, cs, rest.take (t.length * 3), rfl, hn, hc, hr, h1⟩, h2⟩
/-- The cells of one of the things. -/
theorem LMem.at {W : World} {B : Nat} : ∀ {R : List LTh} {xs : List Value} (k : Nat) (hk : k < R.length), LMem W B ok xs R → ∃ As cs, xs[k * 3]? = some (.int .i64 R[k].w) ∧ xs[k * 3 + 1]? = some (.slice As R[k].syms.length cs) ∧ xs[k * 3 + 2]? = some (.bool R[k].leaf) ∧ R[k].syms.length ≤ cs ∧ (Reads W B 1 As R[k].syms.length (ints (lsy R[k].syms)) ∧ LOk ok As R[k].syms.length)
  | x :: t, _, 0, _, ⟨As, ns, cs, rest, e, hn, hc, hr, ht⟩ => by
    subst hn
    rw [e]
    exact ⟨As, cs, rfl, rfl, rfl, hc, hr⟩
  | x :: t, _, k + 1, hk, ⟨As, ns, cs, rest, e, hn, hc, hr, ht⟩ => by
    obtain ⟨As2, cs2, h1, h2, h3, h4, h5⟩ := LMem.at k (by simpa using hk) ht
    rw [e, show (k + 1) * 3 = k * 3 + 1 + 1 + 1 from by omega]
    exact ⟨As2, cs2, by simpa using h1, by simpa using h2, by simpa using h3, by simpa using h4, by simpa using h5⟩
end
/-- A slice of things reads as a row. -/
def LHRow (W : World) (B : Nat) (ok : Nat → Prop) (A : Option Addr) (n : Nat) (R : List LTh) : Prop := R.length = n ∧ LOk ok A n ∧ ∃ xs, Reads W B 3 A n xs ∧ LMem W B ok xs R
section
variable {W W' : World} {B B' n : Nat} {ok : Nat → Prop} {A : Option Addr} {R : List LTh}
theorem LHRow.below (h : LHRow W B ok A n R) (hb : Below B W W') : LHRow W' B ok A n R := by
  obtain ⟨hn, ho, xs, hr, hm⟩ := h
  exact ⟨hn, ho, xs, hr.below hb, hm.below hb⟩
theorem LHRow.more (h : LHRow W B ok A n R) (hB : B ≤ B') : LHRow W B' ok A n R := by
  obtain ⟨hn, ho, xs, hr, hm⟩ := h
  exact ⟨hn, ho, xs, hr.more hB, hm.more hB⟩
/-- What the call itself has laid: all of it at its base or behind. -/
theorem lok_own {base size c : Nat} {e : TypeId} {xs : List Value} (h : W.ownsRow base e size (.slice A n c) n xs) (hf : ∀ b, base ≤ b → ok b) : LOk ok A n := fun hn => by
  rcases h.2 with ⟨h1, h2⟩ | ⟨g, cap, cur, h1, hb, _⟩
  · omega
  · injection h1 with h1 _ _
    exact ⟨g, 0, h1, hf g hb⟩
end
theorem Reads.front3 {w : World} {B size n m : Nat} {A : Option Addr} {xs : List Value} (h : Reads w B size A n xs) (hm : m ≤ n) (hs : 0 < size) : Reads w B size A m (xs.take (m * size)) := by
  refine ⟨by rw [List.length_take, h.1]; exact Nat.min_eq_left (Nat.mul_le_mul_right _ hm), fun hp => ?_⟩
  obtain ⟨b, off, e, hb, hc⟩ := h.2 (by omega)
  refine ⟨b, off, e, hb, fun j u hu => hc j u ?_⟩
  rw [List.getElem?_take] at hu
  split at hu
  · exact hu
  · cases hu
theorem lthing_info : (Try.prog.info? 105).map (fun i => (i.zero, i.size, i.bytes)) = some (some (.agg #[.int .i64 0, .slice none 0 0, .bool false]), 3, 40) := by kernel_rfl
end Go.Proofs.Ytpocpckhcciecaa
