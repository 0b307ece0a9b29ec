/-
  Layer 4: what Unpack of package bits does: the closure that gets a number, 'each' over the widths, Unpack.
-/
import Derived.Test.YtakkljajoollgaaBitH
import Derived.Laws.EntriesVeiled
namespace Go.Proofs.Ytakkljajoollgaa
set_option linter.unusedSimpArgs false
set_option linter.unusedVariables false
open Go.ChangeShapes Go.WideShapes Go.ChangeAt Go.RowKit Go.Joins Go.Deep

theorem uint_info : (Try.prog.info? 3).map (fun i => (i.zero, i.size, i.bytes)) = some (some (.int .i64 0), 1, 8) := by kernel_rfl
theorem blk_apart {w : World} {a b : Nat} {t t' : TypeId} {cs cs' : Array Value} (h : Blk w a t cs) (k : Blk w b t' cs') (hne : t ≠ t') : a ≠ b := fun e => by
  subst e
  unfold Blk at h k
  rw [h] at k
  injection k with k
  injection k with _ h2
  exact hne h2
theorem getF_ok {L : List Nat} {p : Nat} {width n : Int} (h : getF L p width = (n, 0)) : ∃ W : Nat, width = W ∧ W ≤ 32 ∧ p + W ≤ L.length ∧ n = num ((L.drop p).take W) := by
  unfold getF at h
  by_cases h1 : width < 0 ∨ 32 < width
  · rw [if_pos h1] at h
    simp at h
  · rw [if_neg h1] at h
    by_cases h2 : (p : Int) + width > L.length
    · rw [if_pos h2] at h
      simp at h
    · rw [if_neg h2] at h
      obtain ⟨W, rfl⟩ := Int.eq_ofNat_of_zero_le (by omega : 0 ≤ width)
      simp only [Prod.mk.injEq, and_true, Int.toNat_natCast] at h
      exact ⟨W, rfl, by omega, by omega, h.symm⟩
theorem getF_no {L : List Nat} {p : Nat} {width n e : Int} (h : getF L p width = (n, e)) (he : e ≠ 0) : n = 0 := by
  unfold getF at h
  split at h
  · simp only [Prod.mk.injEq] at h
    exact h.1.symm
  · split at h
    · simp only [Prod.mk.injEq] at h
      exact h.1.symm
    · simp only [Prod.mk.injEq] at h
      exact absurd h.2.symm he

/-- What was got so far, and what is left. -/
def glueU (acc : List Int) (r : List Int × Int × Int) : List Int × Int × Int := (acc ++ r.1, r.2)
theorem glueU_nil (r : List Int × Int × Int) : glueU [] r = r := rfl
theorem glueU_yes {L : List Nat} {p : Int} {width n : Int} (h : getF L p width = (n, 0)) (acc : List Int) (t : List Int) : glueU acc (unpackF L p (width :: t)) = glueU (acc ++ [n]) (unpackF L (p + width) t) := by
  rw [unpackF, h]
  simp [glueU]
theorem glueU_no {L : List Nat} {p : Int} {width n e : Int} (h : getF L p width = (n, e)) (he : e ≠ 0) (acc : List Int) (t : List Int) : glueU acc (unpackF L p (width :: t)) = (acc, p, e) := by
  rw [unpackF, h]
  simp [glueU, he]
theorem glueU_end (L : List Nat) (p : Int) (acc : List Int) : glueU acc (unpackF L p []) = (acc, p, 0) := by simp [glueU, unpackF]

def getV (g : Nat) : Value := .func (.func 23) #[.pointer (some ⟨g, 0, none⟩)] #[]
def unpackC (gb lb : Nat) : Value := .func (.func 28) #[] #[.pointer (some ⟨gb, 0, none⟩), .pointer (some ⟨lb, 0, none⟩)]
def US (g lb : Nat) (v : Value) : Nat → Prop := fun k => k = g ∨ k = lb ∨ v.ownBlock = some k

/-- What Unpack holds on to. -/
structure UHold (w : World) (B g gb lb : Nat) (l : List UInt8) (p : Nat) (v : Value) (acc : List Int) : Prop where
  rd : RHold w g l p
  gbox : Blk w gb 56 #[getV g]
  lbox : Blk w lb 23 #[v]
  own : w.ownsRow B 3 1 v acc.length (ints acc)

theorem ints_one (l : List Int) : ∀ u ∈ ints l, u.oneCell' = true := by
  intro u hu
  obtain ⟨d, _, rfl⟩ := List.mem_map.1 hu
  rfl

set_option maxRecDepth 100000 in
set_option maxHeartbeats 2000000 in
theorem unpack1_yes (l : List UInt8) (B p W g gb lb : Nat) (v : Value) (acc : List Int) (w : World) (hl : l.length ≤ 1099511627776) (hp : p + W ≤ 8 * l.length) (hW : W ≤ 32) (hB : B ≤ w.heap.size) (hacc : acc.length ≤ 1000) (hU : UHold w B g gb lb l p v acc) :
    Calls Try.prog 28 #[.int .i64 W, .pointer (some ⟨gb, 0, none⟩), .pointer (some ⟨lb, 0, none⟩)] w fun e w' => e = .returned (.int .i64 0) ∧ ∃ v', UHold w' B g gb lb l (p + W) v' (acc ++ [(num (((rowOf l).drop p).take W) : Int)]) ∧ Touch w w' (US g lb v) ∧ Sep w v v' := by
  obtain ⟨i0, hi, hz0, hz1, hz2⟩ := info_parts uint_info
  have hget := get_yes l p W g w hl hp hW hU.rd
  have n1 : gb ≠ g := blk_apart hU.gbox hU.rd (by decide)
  have n2 : lb ≠ g := blk_apart hU.lbox hU.rd (by decide)
  have n3 : gb ≠ lb := blk_apart hU.gbox hU.lbox (by decide)
  have n4 : v.ownBlock ≠ some g := owns_apart hU.own hU.rd (by decide)
  have n5 : v.ownBlock ≠ some lb := owns_apart hU.own hU.lbox (by decide)
  have n6 : v.ownBlock ≠ some gb := owns_apart hU.own hU.gbox (by decide)
  have c1 : w.cell? ⟨gb, 0, none⟩ = some (.func (.func 23) #[.pointer (some ⟨g, 0, none⟩)] #[]) := hU.gbox.cell 0
  have hgbl := hU.gbox.lt
  have N := Lib.hid (And.intro n1 (And.intro n2 (And.intro n3 (And.intro n4 (And.intro n5 n6)))))
  have HU := Lib.hid hU
  have HB := Lib.hid hB
  have Hacc := Lib.hid hacc
  have Hget := Lib.hid hget
  clear hget hU n1 n2 n3 n4 n5 n6 hB hl hp hacc
  generalize hnv : (num (((rowOf l).drop p).take W) : Int) = nv at *
  clear hnv
  go_enter Try.func28, Try.ntmps28
  go_wp2_with (first
    | (go_at_call 23; refine Hget.out.mono ?_; rintro e w1 ⟨rfl, hR1, ht1⟩; have hbb := HU.out.lbox.touch ht1 N.out.2.1; have hown1 := owns_touch HU.out.own ht1 (fun k hk e => N.out.2.2.2.1 (by rw [hk, e])); have c2 := hbb.cell 0; rw [show (#[v] : Array Value)[0]? = some v from rfl] at c2; have z2 := hbb.frozen 0; have hsz1 := ht1.size; have hl1 := hbb.lt; have HR1 := Lib.hid hR1; have Ht1 := Lib.hid ht1; have Hbb := Lib.hid hbb; have Hown1 := Lib.hid hown1; clear hR1 ht1 hbb hown1)
    | (at_builtin; refine wpList_append_sep _ rfl _ _ 23 rfl B 3 i0 (.int .i64 0) 1 8 Try.underlying23 hi hz0 hz1 hz2 rfl (by decide) _ _ _ rfl (Hown1.out.alloc _) _ 1 1 _ _ rfl (reads_new w1 3 #[.int .i64 nv] 1 1 rfl) ?c1 ?c2 ?c3 ?c4 ?_))
  case c1 => exact rfl
  case c2 => have := Hacc.out; unfold maxLen; omega
  case c3 => have := Hacc.out; omega
  case c4 => have := HB.out; simp; omega
  intro v2 w2 hown2 hgrow hsep
  obtain ⟨A2, cc2, hv2, _, _⟩ := owns_cells hown2
  subst hv2
  have hlb2 : Blk w2 lb 23 #[v] := (Hbb.out.alloc _).grow' hgrow N.out.2.2.2.2.1
  have hrd2 : RHold w2 g l (p + W) := Blk.grow' (Blk.alloc HR1.out _) hgrow N.out.2.2.2.1
  have hgb2 : Blk w2 gb 56 #[getV g] := ((HU.out.gbox.touch Ht1.out N.out.1).alloc _).grow' hgrow N.out.2.2.2.2.2
  have ht2 : Touch w w2 (US g lb v) := ((Ht1.out.mono (S' := US g lb v) (fun k _ h => Or.inl h)).alloc _).next (touch_grow hgrow) (fun k _ h => Or.inr (Or.inr h.symm))
  have hs2 : Sep w v (.slice A2 (acc.length + 1) cc2) := fun k hk => by
    rcases hsep k hk with e | e
    · exact Or.inl e
    · simp at e
      exact Or.inr (by omega)
  have c3 := hlb2.cell 0
  rw [show (#[v] : Array Value)[0]? = some v from rfl] at c3
  have z3 := hlb2.frozen 0
  have hl2 := hlb2.lt
  have Hlb2 := Lib.hid hlb2
  have Hrd2 := Lib.hid hrd2
  have Hgb2 := Lib.hid hgb2
  have Ht2 := Lib.hid ht2
  have Hs2 := Lib.hid hs2
  have Hown2 := Lib.hid hown2
  clear hlb2 hrd2 hgb2 ht2 hs2 hown2 hgrow hsep c2 z2
  go_wp2
  go_ret
  have hlv : (Value.slice A2 (acc.length + 1) cc2).ownBlock ≠ some lb := owns_apart Hown2.out Hlb2.out (by decide)
  refine ⟨rfl, .slice A2 (acc.length + 1) cc2, ⟨?_, ?_, ?_, ?_⟩, Ht2.out.set (p := ⟨lb, 0, none⟩) (Or.inl (Or.inr (Or.inl rfl))) _, Hs2.out⟩
  · exact Blk.far Hrd2.out (fun e => N.out.2.1 e.symm) _
  · exact Hgb2.out.far N.out.2.2.1 _
  · exact Hlb2.out.set_ 0 _
  · have h1 := owns_touch Hown2.out ((Touch.refl w2 (fun k => k = lb)).set (p := ⟨lb, 0, none⟩) (Or.inl rfl) (.slice A2 (acc.length + 1) cc2)) (fun k hk e => hlv (by rw [hk, e]))
    rw [List.length_append]
    simpa [ints] using h1

set_option maxRecDepth 100000 in
theorem unpack1_no (l : List UInt8) (B p g gb lb : Nat) (width e : Int) (v : Value) (acc : List Int) (w : World) (hl : l.length ≤ 1099511627776) (hp : p ≤ 8 * l.length) (he : (getF (rowOf l) p width).2 = e) (hne : e ≠ 0) (hU : UHold w B g gb lb l p v acc) :
    Calls Try.prog 28 #[.int .i64 width, .pointer (some ⟨gb, 0, none⟩), .pointer (some ⟨lb, 0, none⟩)] w fun r w' => r = .returned (.int .i64 e) ∧ Below w.heap.size w w' := by
  have hget := get_no l p g width e w hl hp hU.rd he hne
  have c1 : w.cell? ⟨gb, 0, none⟩ = some (.func (.func 23) #[.pointer (some ⟨g, 0, none⟩)] #[]) := hU.gbox.cell 0
  have hgbl := hU.gbox.lt
  have hen : ¬ e = 0 := hne
  have Hget := Lib.hid hget
  clear hget hU hl hp he hne
  go_enter Try.func28, Try.ntmps28
  go_wp2_with (go_at_call 23; refine Hget.out.mono ?_; rintro r w1 ⟨rfl, k, rfl⟩)
  go_ret
  exact ⟨rfl, below_drewN (Below.refl _ _) _⟩
end Go.Proofs.Ytakkljajoollgaa
