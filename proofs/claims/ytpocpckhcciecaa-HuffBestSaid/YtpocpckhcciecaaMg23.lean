/-
  What the law of the last of these texts stands on, part 23.
-/
import Derived.Test.YtpocpckhcciecaaRows
import Derived.Test.YtpocpckhcciecaaMg01
import Derived.Test.YtpocpckhcciecaaMg02
import Derived.Test.YtpocpckhcciecaaMg03
import Derived.Test.YtpocpckhcciecaaMg04
import Derived.Test.YtpocpckhcciecaaMg05
import Derived.Test.YtpocpckhcciecaaMg06
import Derived.Shelf.SlSortCmp.KitK
import Derived.WalkKit
import Derived.WalkSpells
import Derived.WalkLawsBesides
import Derived.ProofKit
import Derived.OpenShut
import Derived.Handy
import Derived.SizedLaws
import Derived.JoinedOf
import Derived.KernelRfl
import Derived.Lib.Hide
import Derived.Lib.SmallJoins
import Derived.Deep.Slices
import Derived.Deep.Fields
import Derived.Deep.SlicePairs
import Derived.Deep.Draws
import Derived.Deep.AppendLies
import Derived.Deep.QuietTactic
import Derived.BigQuiet
import Derived.Deep.RegionHeld3
import Derived.StillTailTactics
import Derived.Laws.OwnMore
import Derived.Laws.Rows
import Derived.Below
import Derived.Carry
import Derived.WalkMore
import Derived.Laws.BytesString
import Derived.Laws.BitsLemmas
import Derived.Laws.Concat
import Derived.Deep.Upon
import Derived.Sort.WalkB2
import Derived.Sort.WalkB12
import Derived.Deep.LoopGhost
import Derived.Deep.RegionLaw
namespace Go.Proofs.Ytpocpckhcciecaa
set_option linter.unusedSimpArgs false
set_option linter.unusedVariables false
open Go.Sort
section
variable {α : Type} {lt : α → α → Bool} {no : α → Nat}
/-- x stands ahead of y: it is less, or no greater and came first. -/
def sord (lt : α → α → Bool) (no : α → Nat) (x y : α) : Prop := lt x y = true ∨ (lt y x = false ∧ no x < no y)
theorem sord_down (h : SWO lt) {x u v : α} (s : sord lt no u v) (k : lt x v = false) : lt x u = false := by
  rcases s with s | ⟨s, _⟩
  · cases e : lt x u with
    | false => rfl
    | true => rw [h.trans x u v e s] at k; cases k
  · exact h.ntrans x v u k s
theorem sord_up (h : SWO lt) {x u v : α} (s : sord lt no u v) (k : lt v x = true) : lt u x = true := by
  rcases s with s | ⟨s, _⟩
  · exact h.trans u v x s k
  · cases e : lt u x with
    | true => rfl
    | false => rw [h.ntrans v u x s e] at k; cases k
theorem sord_asymm (h : SWO lt) {x y : α} (s : sord lt no x y) (k : sord lt no y x) : False := by
  rcases s with s | ⟨s, s2⟩ <;> rcases k with k | ⟨k, k2⟩
  · have := h.trans x y x s k; rw [h.irrefl] at this; cases this
  · rw [s] at k; cases k
  · rw [s] at k; cases k
  · omega
/-- A list in an order that no two have both ways is the only one of its numbers. -/
theorem sorted_unique {r : α → α → Prop} (ha : ∀ x y, r x y → r y x → False) : ∀ {l1 l2 : List α}, l1.Perm l2 → l1.Pairwise r → l2.Pairwise r → l1 = l2
  | [], l2, p, _, _ => by rw [List.nil_perm.1 p]
  | x :: t, [], p, _, _ => by simp at p
  | x :: t, y :: u, p, h1, h2 => by
    have hxy : x = y := by
      have hx : x ∈ y :: u := p.subset (List.mem_cons_self ..)
      have hy : y ∈ x :: t := p.symm.subset (List.mem_cons_self ..)
      rcases List.mem_cons.1 hx with e | hx
      · exact e
      · rcases List.mem_cons.1 hy with e | hy
        · exact e.symm
        · exact (ha x y ((List.pairwise_cons.1 h1).1 y hy) ((List.pairwise_cons.1 h2).1 x hx)).elim
    subst hxy
    rw [sorted_unique ha (List.Perm.cons_inv p) (List.pairwise_cons.1 h1).2 (List.pairwise_cons.1 h2).2]
/-- Two sorted lists, cut so that what is ahead of the cuts goes ahead of what is behind: the two parts, sorted, are all, sorted. -/
theorem merge_cut {L1 L2 R1 R2 A B : List α} (hL : (L1 ++ L2).Pairwise (sord lt no)) (hR : (R1 ++ R2).Pairwise (sord lt no)) (hid : ∀ x ∈ L1 ++ L2, ∀ y ∈ R1 ++ R2, no x < no y)
    (c1 : ∀ x ∈ L1, ∀ y ∈ R2, lt y x = false) (c2 : ∀ y ∈ R1, ∀ x ∈ L2, lt y x = true) (pA : A.Perm (L1 ++ R1)) (pB : B.Perm (L2 ++ R2)) (hA : A.Pairwise (sord lt no)) (hB : B.Pairwise (sord lt no)) :
    (A ++ B).Perm ((L1 ++ L2) ++ (R1 ++ R2)) ∧ (A ++ B).Pairwise (sord lt no) := by
  constructor
  · refine (pA.append pB).trans ?_
    rw [List.append_assoc, List.append_assoc]
    refine List.Perm.append_left L1 ?_
    rw [← List.append_assoc, ← List.append_assoc]
    exact List.Perm.append_right R2 List.perm_append_comm
  · rw [List.pairwise_append]
    refine ⟨hA, hB, fun x hx y hy => ?_⟩
    obtain ⟨_, _, l3⟩ := List.pairwise_append.1 hL
    obtain ⟨_, _, r3⟩ := List.pairwise_append.1 hR
    rcases List.mem_append.1 (pA.subset hx) with hx | hx <;> rcases List.mem_append.1 (pB.subset hy) with hy | hy
    · exact l3 x hx y hy
    · exact Or.inr ⟨c1 x hx y hy, hid x (List.mem_append_left _ hx) y (List.mem_append_right _ hy)⟩
    · exact Or.inl (c2 x hx y hy)
    · exact r3 x hx y hy
variable [Inhabited α]
theorem get_mid (P Q : List α) (x : α) (i : Nat) (hi : i = P.length) : (P ++ x :: Q).toArray[i]! = x := by
  subst hi
  simp
theorem get_list {l : List α} {i : Nat} (h : i < l.length) : l.toArray[i]! = l[i] := by
  rw [getElem!_pos l.toArray i (by simpa using h)]
  simp
/-- An exchange of two. -/
theorem swp_list (P M Q : List α) (x y : α) (i j : Nat) (hi : i = P.length) (hj : j = P.length + 1 + M.length) : swp (P ++ x :: (M ++ y :: Q)).toArray i j = (P ++ y :: (M ++ x :: Q)).toArray := by
  have e1 : (P ++ x :: (M ++ y :: Q)).toArray[i]! = x := get_mid P _ x i hi
  have e2 : (P ++ x :: (M ++ y :: Q)).toArray[j]! = y := by
    rw [show P ++ x :: (M ++ y :: Q) = (P ++ x :: M) ++ y :: Q from by simp]
    exact get_mid _ _ y j (by rw [List.length_append, List.length_cons]; omega)
  unfold swp
  rw [e1, e2, List.setIfInBounds_toArray, List.setIfInBounds_toArray]
  subst hi
  rw [List.set_append_right _ _ (Nat.le_refl _), Nat.sub_self, List.set_cons_zero]
  rw [show P ++ y :: (M ++ y :: Q) = (P ++ y :: M) ++ y :: Q from by simp, List.set_append_right _ _ (by rw [List.length_append, List.length_cons]; omega)]
  rw [show j - (P ++ y :: M).length = 0 from by rw [List.length_append, List.length_cons]; omega, List.set_cons_zero]
  simp
theorem swp_comm' (d : Array α) (i j : Nat) (hi : i < d.size) (hj : j < d.size) : swp d i j = swp d j i := by
  apply Array.ext
  · rw [swp_size, swp_size]
  · intro t h1 h2
    rw [← getElem!_pos, ← getElem!_pos, swp_get d hi hj, swp_get d hj hi]
    by_cases e : t = j
    · by_cases e2 : t = i
      · rw [if_pos e, if_pos e2, ← e2, ← e]
      · rw [if_pos e, if_neg e2, if_pos e]
    · by_cases e2 : t = i
      · rw [if_neg e, if_pos e2, if_pos e2]
      · rw [if_neg e, if_neg e2, if_neg e2, if_neg e]
/-- x goes into a sorted list, told from its end. -/
def insR (lt : α → α → Bool) : List α → α → List α
  | [], x => [x]
  | t :: r, x => if lt x t = true then insR lt r x ++ [t] else r.reverse ++ [t, x]
theorem insInner_list (P : List α) (x : α) : ∀ (r V : List α), insInner lt P.length (P.length + r.length) (P ++ r.reverse ++ x :: V).toArray = (P ++ insR lt r x ++ V).toArray
  | [], V => by
    rw [insInner_stop _ _ _ _ (Or.inl (by simp))]
    simp [insR]
  | t :: r, V => by
    have e1 : (P ++ (t :: r).reverse ++ x :: V).toArray[P.length + (t :: r).length]! = x := get_mid _ _ _ _ (by simp)
    have e2 : (P ++ (t :: r).reverse ++ x :: V).toArray[P.length + (t :: r).length - 1]! = t := by
      rw [show P ++ (t :: r).reverse ++ x :: V = (P ++ r.reverse) ++ t :: (x :: V) from by simp]
      exact get_mid _ _ _ _ (by simp)
    by_cases h : lt x t = true
    · rw [insInner_go _ _ _ _ (by simp) (by rw [e1, e2]; exact h)]
      have hs : swp (P ++ (t :: r).reverse ++ x :: V).toArray (P.length + (t :: r).length) (P.length + (t :: r).length - 1) = (P ++ r.reverse ++ x :: (t :: V)).toArray := by
        rw [swp_comm' _ _ _ (by simp) (by simp <;> omega)]
        rw [show P ++ (t :: r).reverse ++ x :: V = (P ++ r.reverse) ++ t :: ([] ++ x :: V) from by simp]
        rw [swp_list (P ++ r.reverse) [] V t x _ _ (by simp) (by simp <;> omega)]
        simp
      rw [hs, show P.length + (t :: r).length - 1 = P.length + r.length from by simp, insInner_list P x r (t :: V)]
      rw [show insR lt (t :: r) x = insR lt r x ++ [t] from if_pos h]
      simp
    · rw [insInner_stop _ _ _ _ (Or.inr (by rw [e1, e2]; simpa using h))]
      unfold insR
      rw [if_neg h]
      simp
omit [Inhabited α] in
theorem insR_perm (x : α) : ∀ r : List α, (insR lt r x).Perm (r.reverse ++ [x])
  | [] => by simp [insR]
  | t :: r => by
    unfold insR
    split
    · refine ((insR_perm x r).append_right [t]).trans ?_
      rw [List.reverse_cons, List.append_assoc, List.append_assoc]
      exact List.Perm.append_left _ List.perm_append_comm
    · simp
omit [Inhabited α] in
theorem insR_order (h : SWO lt) (x : α) : ∀ r : List α, (r.reverse).Pairwise (sord lt no) → (∀ t ∈ r, no t < no x) → (insR lt r x).Pairwise (sord lt no)
  | [], _, _ => by simp [insR]
  | t :: r, hp, hn => by
    rw [List.reverse_cons] at hp
    obtain ⟨p1, _, p3⟩ := List.pairwise_append.1 hp
    unfold insR
    split
    · rename_i hx
      rw [List.pairwise_append]
      refine ⟨insR_order h x r p1 fun u hu => hn u (List.mem_cons_of_mem _ hu), by simp, ?_⟩
      intro u hu v hv
      obtain rfl : v = t := by simpa using hv
      rcases List.mem_append.1 ((insR_perm x r).subset hu) with hu | hu
      · exact p3 u hu v (by simp)
      · obtain rfl : u = x := by simpa using hu
        exact Or.inl hx
    · rename_i hx
      have hx' : lt x t = false := by simpa using hx
      rw [show r.reverse ++ [t, x] = (r.reverse ++ [t]) ++ [x] from by simp, List.pairwise_append]
      refine ⟨hp, by simp, ?_⟩
      intro u hu v hv
      obtain rfl : v = x := by simpa using hv
      rcases List.mem_append.1 hu with hu | hu
      · exact Or.inr ⟨sord_down h (p3 u hu t (by simp)) hx', hn u (by simp at hu; simp [hu])⟩
      · obtain rfl : u = t := by simpa using hu
        exact Or.inr ⟨hx', hn u (by simp)⟩
theorem insOuter_list (h : SWO lt) (P Q : List α) : ∀ (U T : List α), T.Pairwise (sord lt no) → (∀ t ∈ T, ∀ u ∈ U, no t < no u) → U.Pairwise (fun a b => no a < no b) →
    ∃ S, S.Perm (T ++ U) ∧ S.Pairwise (sord lt no) ∧ insOuter lt P.length (P.length + T.length + U.length) (P.length + T.length) (P ++ (T ++ U) ++ Q).toArray = (P ++ S ++ Q).toArray
  | [], T, hT, _, _ => ⟨T, by simp, hT, by rw [insOuter_stop _ _ _ _ _ (by simp)]; simp⟩
  | x :: U, T, hT, hn, hU => by
    obtain ⟨u1, u2⟩ := List.pairwise_cons.1 hU
    have hin := insInner_list (lt := lt) P x T.reverse (U ++ Q)
    rw [List.reverse_reverse, List.length_reverse] at hin
    have hp := insR_perm (lt := lt) x T.reverse
    rw [List.reverse_reverse] at hp
    obtain ⟨S, s1, s2, s3⟩ := insOuter_list h P Q U (insR lt T.reverse x) (insR_order h x T.reverse (by rw [List.reverse_reverse]; exact hT) fun t ht => hn t (by simpa using ht) x (List.mem_cons_self ..)) (fun t ht u hu => by
      rcases List.mem_append.1 (hp.subset ht) with ht | ht
      · exact hn t ht u (List.mem_cons_of_mem _ hu)
      · obtain rfl : t = x := by simpa using ht
        exact u1 u hu) u2
    refine ⟨S, s1.trans ?_, s2, ?_⟩
    · refine (hp.append_right U).trans ?_
      simp
    · have hl : (insR lt T.reverse x).length = T.length + 1 := by rw [hp.length_eq]; simp
      rw [insOuter_go _ _ _ _ _ (by simp), show P ++ (T ++ x :: U) ++ Q = P ++ T ++ x :: (U ++ Q) from by simp, hin]
      rw [hl, show P.length + (T.length + 1) + U.length = P.length + T.length + (x :: U).length from by simp; omega, show P.length + (T.length + 1) = P.length + T.length + 1 from by omega] at s3
      rw [← s3]
      simp
/-- An insertion sort of a part whose numbers grow: it is sorted, the elder first. -/
theorem insertion_list (h : SWO lt) (P S Q : List α) (hS : S.Pairwise (fun a b => no a < no b)) : ∃ S', S'.Perm S ∧ S'.Pairwise (sord lt no) ∧ insertionSort lt (P ++ S ++ Q).toArray P.length (P.length + S.length) = (P ++ S' ++ Q).toArray := by
  unfold insertionSort
  cases S with
  | nil => exact ⟨[], List.Perm.refl _, List.Pairwise.nil, by rw [insOuter_stop _ _ _ _ _ (by simp)]⟩
  | cons x U =>
    obtain ⟨u1, u2⟩ := List.pairwise_cons.1 hS
    obtain ⟨S', s1, s2, s3⟩ := insOuter_list (no := no) h P Q U [x] (by simp) (fun t ht u hu => by have e : t = x := by simpa using ht
                                                                                                   rw [e]; exact u1 u hu) u2
    refine ⟨S', s1, s2, ?_⟩
    rw [← s3]
    simp [Nat.add_assoc, Nat.add_comm 1]
/-- A row of sorted blocks of a size, the last one perhaps smaller; the elder ones' numbers are less. -/
inductive Blks (lt : α → α → Bool) (no : α → Nat) (bs : Nat) : List α → Prop
  | last {l : List α} : l.length ≤ bs → l.Pairwise (sord lt no) → Blks lt no bs l
  | cons {l t : List α} : l.length = bs → l.Pairwise (sord lt no) → (∀ x ∈ l, ∀ y ∈ t, no x < no y) → Blks lt no bs t → Blks lt no bs (l ++ t)
omit [Inhabited α] in
theorem Blks.one {bs : Nat} {U : List α} (h : Blks lt no bs U) (hb : U.length ≤ bs) : U.Pairwise (sord lt no) := by
  cases h with
  | last _ h => exact h
  | cons h1 h2 h3 h4 =>
    rename_i l t
    rw [List.length_append] at hb
    have : t = [] := List.length_eq_zero_iff.1 (by omega)
    subst this
    simpa using h2
omit [Inhabited α] in
theorem Blks.more {bs : Nat} {U : List α} (h : Blks lt no bs U) (hb : bs < U.length) : ∃ l t, U = l ++ t ∧ l.length = bs ∧ l.Pairwise (sord lt no) ∧ (∀ x ∈ l, ∀ y ∈ t, no x < no y) ∧ Blks lt no bs t := by
  cases h with
  | last h _ => omega
  | cons h1 h2 h3 h4 => exact ⟨_, _, rfl, h1, h2, h3, h4⟩
end
end Go.Proofs.Ytpocpckhcciecaa
namespace Go.Proofs.Ytpocpckhcciecaa
set_option linter.unusedSimpArgs false
set_option linter.unusedVariables false
open Go.ChangeShapes Go.WideShapes Go.ChangeAt Go.RowKit Go.Joins Go.Deep Go.Shelf Go.Lib
open Go.Sort (SWO swp size_swp HoldsK)
def stRen : Ren := ⟨fun _ => 87, fun t => if t = 22 then 60 else if t = 24 then 65 else if t = 25 then 95 else t, fun g => g⟩
/-- What the sort's bodies lean on, over any program, the size of an element a letter. -/
structure StLays (P : Program) (k : Nat) : Prop where
  mixed : P.follows .mixedOrders = true
  aE : ∀ w, (isAgg 65).run P w = .ok true w
  zE : ∀ w, (Go.sizeOf 65).run P w = .ok k w
  t0 : P.underlying 0 = some (TypeDesc.tuple #[])
  a0 : ∀ w, (isAgg 0).run P w = .ok false w
  z0 : ∀ w, (Go.sizeOf 0).run P w = .ok 1 w
  v0 : ∀ w, (zeroValue 0).run P w = .ok (Value.tuple #[]) w
  t3 : P.underlying 3 = some (TypeDesc.int IntKind.i64)
  a3 : ∀ w, (isAgg 3).run P w = .ok false w
  z3 : ∀ w, (Go.sizeOf 3).run P w = .ok 1 w
  v3 : ∀ w, (zeroValue 3).run P w = .ok (Value.int IntKind.i64 0) w
  t4 : P.underlying 4 = some (TypeDesc.bool)
  a4 : ∀ w, (isAgg 4).run P w = .ok false w
  z4 : ∀ w, (Go.sizeOf 4).run P w = .ok 1 w
  v4 : ∀ w, (zeroValue 4).run P w = .ok (Value.bool false) w
  tS : P.underlying 60 = some (TypeDesc.slice 65)
  aS : ∀ w, (isAgg 60).run P w = .ok false w
  zS : ∀ w, (Go.sizeOf 60).run P w = .ok 1 w
  vS : ∀ w, (zeroValue 60).run P w = .ok (Value.slice none 0 0) w
  tF : P.underlying 95 = some (TypeDesc.func #[65, 65] #[3] false)
  aF : ∀ w, (isAgg 95).run P w = .ok false w
  zF : ∀ w, (Go.sizeOf 95).run P w = .ok 1 w
  vF : ∀ w, (zeroValue 95).run P w = .ok (Value.nilFunc) w
  tU : P.underlying 99 = some (TypeDesc.int IntKind.u64)
  aU : ∀ w, (isAgg 99).run P w = .ok false w
  zU : ∀ w, (Go.sizeOf 99).run P w = .ok 1 w
  vU : ∀ w, (zeroValue 99).run P w = .ok (Value.int IntKind.u64 0) w
  fsw : P.funcs[95]? = some Try.f95
  fro : P.funcs[93]? = some Try.f93
  fsy : P.funcs[88]? = some Try.f88
  fst : P.funcs[79]? = some Try.f79
  fin : P.funcs[87]? = some Try.f87
theorem stAll : StLays Try.prog 2 where
  mixed := by kernel_rfl
  aE := Try.isAgg65
  zE := Try.sizeOf65
  t0 := by kernel_rfl
  a0 := Try.isAgg0
  z0 := Try.sizeOf0
  v0 := Try.zeroValue0
  t3 := by kernel_rfl
  a3 := Try.isAgg3
  z3 := Try.sizeOf3
  v3 := Try.zeroValue3
  t4 := by kernel_rfl
  a4 := Try.isAgg4
  z4 := Try.sizeOf4
  v4 := Try.zeroValue4
  tS := by kernel_rfl
  aS := Try.isAgg60
  zS := Try.sizeOf60
  vS := Try.zeroValue60
  tF := by kernel_rfl
  aF := Try.isAgg95
  zF := Try.sizeOf95
  vF := Try.zeroValue95
  tU := by kernel_rfl
  aU := Try.isAgg99
  zU := Try.sizeOf99
  vU := Try.zeroValue99
  fsw := Try.func95
  fro := Try.func93
  fsy := Try.func88
  fst := Try.func79
  fin := Try.func87
section
variable {P0 : Program} {k : Nat} {α : Type} [Inhabited α] {enc : α → List Value} {w0 : World} {blk off : Nat} {d0 : Array α}
set_option maxHeartbeats 4000000 in
set_option maxRecDepth 1000000 in
/-- Two stretches change places. -/
theorem swapr_any (L : StLays P0 k) (F : Value) (P X M Y Q : List α) (a b n len cap : Nat) (w : World) (hP : P.length = a) (hX : X.length = n) (hY : Y.length = n) (hM : a + n + M.length = b) (hlen : (P ++ (X ++ (M ++ (Y ++ Q)))).length = len) (hsz : len < 4611686018427387904)
    (R : RowK enc k w0 blk off d0) (hd : d0.size = len) (S : SWK enc k w0 blk off (P ++ (X ++ (M ++ (Y ++ Q)))).toArray w) :
    Calls P0 95 #[.slice (some ⟨blk, off, none⟩) len cap, .int .i64 a, .int .i64 b, .int .i64 n, F] w fun e w' =>
      e = .returned (.tuple #[]) ∧ SWK enc k w0 blk off (P ++ (Y ++ (M ++ (X ++ Q)))).toArray w' := by
  obtain ⟨T, hT⟩ : ∃ T, P ++ (Y ++ (M ++ (X ++ Q))) = T := ⟨_, rfl⟩
  rw [hT]
  have Hd := Lib.hid hd
  have HR : Aside (RowK enc k w0 blk off d0) := R
  have Hst : Hid (∃ P' X' M' Y' : List α, P'.length = a + 0 ∧ X'.length = n - 0 ∧ Y'.length = n - 0 ∧ a + n + M'.length = b + 0 ∧ (P' ++ (X' ++ (M' ++ (Y' ++ Q)))).length = len ∧ SWK enc k w0 blk off (P' ++ (X' ++ (M' ++ (Y' ++ Q)))).toArray w ∧ P' ++ (Y' ++ (M' ++ (X' ++ Q))) = T) := ⟨P, X, M, Y, hP, hX, hY, hM, hlen, S, hT⟩
  have hbl : b + n ≤ len ∧ a + n ≤ b := by simp only [List.length_append] at hlen; omega
  have mixed := L.mixed; have aE := L.aE; have zE := L.zE; have t0 := L.t0; have a0 := L.a0; have z0 := L.z0; have v0 := L.v0; have t3 := L.t3; have a3 := L.a3; have z3 := L.z3; have v3 := L.v3; have t4 := L.t4; have a4 := L.a4; have z4 := L.z4; have v4 := L.v4; have tS := L.tS; have aS := L.aS; have zS := L.zS; have vS := L.vS; have tF := L.tF; have aF := L.aF; have zF := L.zF; have vF := L.vF; have tU := L.tU; have aU := L.aU; have zU := L.zU; have vU := L.vU
  have uS := run_underlying L.tS; have uU := run_underlying L.tU; have u3 := run_underlying L.t3
  clear hT S hP hX hY hM hlen R hd P X M Y
  have FG := L.fsw
  go_enter FG, Try.ntmps95
  go_wp2
  go_loopg [10] n (fun g vi wr => ∃ i : Nat, vi = .int .i64 i ∧ i ≤ n ∧ n - i ≤ g ∧ Hid (∃ P' X' M' Y' : List α, P'.length = a + i ∧ X'.length = n - i ∧ Y'.length = n - i ∧ a + n + M'.length = b + i ∧ (P' ++ (X' ++ (M' ++ (Y' ++ Q)))).length = len ∧ SWK enc k w0 blk off (P' ++ (X' ++ (M' ++ (Y' ++ Q)))).toArray wr ∧ P' ++ (Y' ++ (M' ++ (X' ++ Q))) = T))
  case atStart => exact ⟨0, rfl, by omega, by omega, Hst⟩
  case round =>
    obtain ⟨i, rfl, hi, hg, Hs⟩ := hrel
    clear Hst
    by_cases hlt : i < n
    · have hlz : (i : Int) < (n : Int) := by omega
      obtain ⟨p, hp⟩ : ∃ p, a + i = p := ⟨_, rfl⟩
      obtain ⟨q, hq⟩ : ∃ q, b + i = q := ⟨_, rfl⟩
      have hpz : (a : Int) + (i : Int) = (p : Int) := by omega
      have hqz : (b : Int) + (i : Int) = (q : Int) := by omega
      have hpw : IntKind.i64.wrap ((a : Int) + (i : Int)) = (p : Int) := by rw [IntKind.wrap_i64]; omega
      have hqw : IntKind.i64.wrap ((b : Int) + (i : Int)) = (q : Int) := by rw [IntKind.wrap_i64]; omega
      have hpb : (0 : Int) ≤ (p : Int) ∧ (p : Int) < (len : Int) := by omega
      have hqb : (0 : Int) ≤ (q : Int) ∧ (q : Int) < (len : Int) := by omega
      obtain ⟨P', X', M', Y', h1, h2, h3, h4, h5, S1, h6⟩ := Hs.out
      clear Hs
      cases X' with
      | nil => simp at h2; omega
      | cons x X2 =>
      cases Y' with
      | nil => simp at h3; omega
      | cons y Y2 =>
      have ha : P' ++ (x :: X2 ++ (M' ++ (y :: Y2 ++ Q))) = P' ++ x :: ((X2 ++ M') ++ y :: (Y2 ++ Q)) := by simp
      have hb2 : P' ++ y :: ((X2 ++ M') ++ x :: (Y2 ++ Q)) = (P' ++ [y]) ++ (X2 ++ ((M' ++ [x]) ++ (Y2 ++ Q))) := by simp
      rw [ha] at S1 h5
      have hxl : (X2 ++ M').length + 1 + p = q := by simp only [List.length_append, List.length_cons] at h2 ⊢; omega
      have hsw := swp_list P' (X2 ++ M') (Y2 ++ Q) x y p q (by omega) (by omega)
      have hgx : (P' ++ x :: ((X2 ++ M') ++ y :: (Y2 ++ Q))).toArray[p]! = x := get_mid P' _ x p (by omega)
      have hgy : (P' ++ x :: ((X2 ++ M') ++ y :: (Y2 ++ Q))).toArray[q]! = y := by
        rw [show P' ++ x :: ((X2 ++ M') ++ y :: (Y2 ++ Q)) = (P' ++ x :: (X2 ++ M')) ++ y :: (Y2 ++ Q) from by simp]
        exact get_mid _ _ y q (by rw [List.length_append, List.length_cons]; omega)
      have hsl : (P' ++ x :: ((X2 ++ M') ++ y :: (Y2 ++ Q))).toArray.size = len := by rw [List.size_toArray]; exact h5
      have Hnew : Hid (∀ W, SWK enc k w0 blk off (P' ++ y :: ((X2 ++ M') ++ x :: (Y2 ++ Q))).toArray W → ∃ P' X' M' Y' : List α, P'.length = a + (i + 1) ∧ X'.length = n - (i + 1) ∧ Y'.length = n - (i + 1) ∧ a + n + M'.length = b + (i + 1) ∧ (P' ++ (X' ++ (M' ++ (Y' ++ Q)))).length = len ∧ SWK enc k w0 blk off (P' ++ (X' ++ (M' ++ (Y' ++ Q)))).toArray W ∧ P' ++ (Y' ++ (M' ++ (X' ++ Q))) = T) := Lib.hid fun W S => by
        rw [hb2] at S
        refine ⟨P' ++ [y], X2, M' ++ [x], Y2, by simp; omega, by simp at h2; omega, by simp at h3; omega, by simp; omega, ?_, S, ?_⟩
        · rw [← h5]; simp <;> omega
        · rw [← h6]; simp
      rw [← hsw] at Hnew
      generalize (P' ++ x :: ((X2 ++ M') ++ y :: (Y2 ++ Q))).toArray = dk at *
      clear ha hb2 h1 h2 h3 h4 h5 h6 hsw hxl
      have hds : dk.size = d0.size := by have := Hd.out; omega
      have S2 : Aside (SWK enc k w0 blk off (swp dk p q) ((wr.drew.setCells blk (off + p * k) (enc dk[q]!)).setCells blk (off + q * k) (enc dk[p]!))) := S1.swapped HR.out p q (by omega) (by omega)
      have l1 := S1.ld1 HR.out hds P0 p (by omega)
      have l2 := S1.ld1 HR.out hds P0 q (by omega)
      have s1 := S1.st1 HR.out hds P0 p (by omega) dk[q]!
      have s2 := S1.st2 HR.out hds P0 p q (by omega) (by omega) dk[q]! dk[p]!
      have n1 : (enc dk[p]!).length = k := HR.out.hk _
      have n2 : (enc dk[q]!).length = k := HR.out.hk _
      generalize enc dk[p]! = cI at S2 l1 s2 n1
      generalize enc dk[q]! = cJ at S2 l2 s1 s2 n2
      clear S1 hgx hgy hds hsl
      go_wp2_with fail
      go_big_region_o
      clear l1 l2 s1 s2
      generalize (wr.drew.setCells blk (off + p * k) cJ).setCells blk (off + q * k) cI = w2 at S2 ⊢
      go_wp2
      go_roundg (n - (i + 1))
      case measure => omega
      case rel => exact ⟨i + 1, by go_num, by omega, by omega, Lib.hid (Hnew.out _ S2.out)⟩
    · have hlz : ¬ (i : Int) < (n : Int) := by omega
      have hin : i = n := by omega
      subst hin
      go_wp2
      go_end0
      refine ⟨rfl, ?_⟩
      obtain ⟨P', X', M', Y', h1, h2, h3, h4, h5, S1, h6⟩ := Hs.out
      have e1 : X' = [] := List.length_eq_zero_iff.1 (by omega)
      have e2 : Y' = [] := List.length_eq_zero_iff.1 (by omega)
      subst e1 e2
      rw [← h6]
      exact S1
end
end Go.Proofs.Ytpocpckhcciecaa
