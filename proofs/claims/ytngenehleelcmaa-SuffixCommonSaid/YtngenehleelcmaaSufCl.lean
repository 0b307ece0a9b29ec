/-
  Layer 12: levels of kinds in memory; a loop whose rounds leave marks of ranges behind; what levels tell of two ends.
-/
import Derived.Test.YtngenehleelcmaaSufZ
import Derived.Test.YtngenehleelcmaaSufD
import Derived.Test.YtngenehleelcmaaGrow
namespace Go.Proofs.Ytngenehleelcmaa
set_option linter.unusedSimpArgs false
set_option linter.unusedVariables false
open Go.ChangeShapes Go.WideShapes Go.ChangeAt Go.RowKit Go.Joins Go.Deep Go.Shelf

/-! ### What levels tell -/
def cstep (A n p : Nat) : Nat := if n + 2 ^ p ≤ A then n + 2 ^ p else n
def cfold (A : Nat) (ps : List Nat) : Nat := ps.foldl (cstep A) 0
theorem cstep_le (A n p : Nat) (h : n ≤ A) : cstep A n p ≤ A := by
  unfold cstep
  split
  · assumption
  · exact h
theorem cfold_le (A : Nat) (ps : List Nat) : cfold A ps ≤ A := by
  have : ∀ (ps : List Nat) (n : Nat), n ≤ A → ps.foldl (cstep A) n ≤ A := by
    intro ps
    induction ps with
    | nil => exact fun n h => h
    | cons p t ih => exact fun n h => ih _ (cstep_le A n p h)
  exact this ps 0 (Nat.zero_le _)
theorem cfold_snoc (A : Nat) (ps : List Nat) (p : Nat) : cfold A (ps ++ [p]) = cstep A (cfold A ps) p := by simp [cfold]
theorem cfold_all (A L : Nat) (h : A < 2 ^ L) : cfold A (List.range L).reverse = A := by
  have : ∀ (L n : Nat), n ≤ A → A < n + 2 ^ L → (List.range L).reverse.foldl (cstep A) n = A := by
    intro L
    induction L with
    | zero => intro n h1 h2; simp at h2; simp; omega
    | succ L ih =>
      intro n h1 h2
      rw [List.range_succ, List.reverse_append, List.reverse_singleton, List.singleton_append, List.foldl_cons]
      rw [Nat.pow_succ] at h2
      unfold cstep
      by_cases h3 : n + 2 ^ L ≤ A
      · rw [if_pos h3]
        exact ih _ h3 (by omega)
      · rw [if_neg h3]
        exact ih _ h1 (by omega)
  exact this L 0 (Nat.zero_le _) (by omega)

/-! ### Levels in memory -/
theorem gslice_info : (Try.prog.info? 22).map (fun i => (i.zero, i.size, i.bytes)) = some (some (.slice none 0 0), 1, 24) := by kernel_rfl
def lvv (N : Nat) (gs : List Nat) : List Value := gs.map fun g => Value.slice (some ⟨g, 0, none⟩) N N
theorem lvv_len (N : Nat) (gs : List Nat) : (lvv N gs).length = gs.length := by simp [lvv]
theorem lvv_snoc (N : Nat) (gs : List Nat) (g : Nat) : lvv N (gs ++ [g]) = lvv N gs ++ [.slice (some ⟨g, 0, none⟩) N N] := by simp [lvv]
theorem lvv_get (N : Nat) (gs : List Nat) (i : Nat) (h : i < gs.length) : (lvv N gs)[i]? = some (.slice (some ⟨gs[i], 0, none⟩) N N) := by
  unfold lvv
  rw [List.getElem?_map, List.getElem?_eq_getElem h]
  rfl
structure LVS (W : World) (s : List UInt8) (gs : List Nat) (kds : List (Nat → Nat)) : Prop where
  len : kds.length = gs.length
  se : ∀ p (h : p < kds.length), ∃ row, SE s (2 ^ p) row kds[p]
  blk : ∀ p (h : p < gs.length) (h2 : p < kds.length), Blk W gs[p] 3 (ints (kL kds[p] (s.length + 1))).toArray
theorem LVS.keep {W W' : World} {s : List UInt8} {gs : List Nat} {kds : List (Nat → Nat)} (h : LVS W s gs kds) (hk : ∀ (g : Nat) cs, Blk W g 3 cs → Blk W' g 3 cs) : LVS W' s gs kds :=
  ⟨h.len, h.se, fun p h1 h2 => hk _ _ (h.blk p h1 h2)⟩
theorem LVS.below {W W' : World} {s : List UInt8} {gs : List Nat} {kds : List (Nat → Nat)} (h : LVS W s gs kds) (hb : Below W.heap.size W W') : LVS W' s gs kds := h.keep fun g cs hB => hB.below hb hB.lt
theorem LVS.nil (W : World) (s : List UInt8) : LVS W s [] [] := ⟨rfl, fun p h => absurd h (by simp), fun p h => absurd h (by simp)⟩
theorem LVS.snoc {W : World} {s : List UInt8} {gs : List Nat} {kds : List (Nat → Nat)} (h : LVS W s gs kds) {row : List Nat} {kd : Nat → Nat} {g : Nat} (hse : SE s (2 ^ gs.length) row kd) (hB : Blk W g 3 (ints (kL kd (s.length + 1))).toArray) : LVS W s (gs ++ [g]) (kds ++ [kd]) := by
  have hl := h.len
  refine ⟨by simp [hl], fun p hp => ?_, fun p h1 h2 => ?_⟩
  · by_cases e : p < kds.length
    · obtain ⟨r, hr⟩ := h.se p e
      exact ⟨r, by rw [List.getElem_append_left e]; exact hr⟩
    · have e2 : p = gs.length := by simp at hp; omega
      refine ⟨row, ?_⟩
      rw [List.getElem_append_right (by omega)]
      simp only [List.getElem_singleton]
      rw [e2]
      exact hse
  · by_cases e : p < gs.length
    · rw [List.getElem_append_left e, List.getElem_append_left (by omega)]
      exact h.blk p e (by omega)
    · rw [List.getElem_append_right (by omega), List.getElem_append_right (by omega)]
      simp only [List.getElem_singleton]
      exact hB
/-- Blocks of unlike types are unlike. -/
theorem s_blk_ne {W : World} {g g' : Nat} {t t' : TypeId} {cs cs' : Array Value} (h : Blk W g t cs) (h' : Blk W g' t' cs') (ht : t ≠ t') : g ≠ g' := fun e => by
  subst e
  unfold Blk at h h'
  rw [h] at h'
  injection h' with h'
  injection h' with _ h' _
  exact ht h'
theorem EH.grown {W W' : World} {s : List UInt8} {h : Nat} {row : List Nat} {kd : Nat → Nat} {A : Option Addr} {c g : Nat} {rw_ : Option Nat} (H : EH W s h row kd A c g) (hg : W.grownBy W' rw_) (h1 : ∀ ad, A = some ad → rw_ ≠ some ad.block) (h2 : rw_ ≠ some g) : EH W' s h row kd A c g := by
  refine ⟨H.se, H.cap, ⟨H.row.1, fun hn => ?_⟩, H.kinds.grow' hg h2⟩
  obtain ⟨b, off, e, hb, hc⟩ := H.row.2 hn
  have h3 := h1 _ e
  refine ⟨b, off, e, Nat.lt_of_lt_of_le hb hg.size, fun j v hv => ?_⟩
  rw [World.cell?_of_block (a := ⟨b, off + j, none⟩) (hg.block b hb (fun e2 => h3 e2.symm))]
  exact hc j v hv

/-! ### A loop whose rounds leave marks -/
def updS (ks : List Nat) (T : Array Value) (v : Nat → Value) : Array Value := ks.foldl (fun T k => T.setIfInBounds k (v k)) T
theorem loop_frames {P : Program} {c : Code} {Q : Exit → Act → World → Prop} {T : Array Value} {ds0 : List Deferred} {w : World} (ks : List Nat) (REL : (Nat → Value) → List Deferred → World → Prop) (μ : (Nat → Value) → Nat)
    (h0 : T = updS ks T (fun k => T.getD k undef) ∧ REL (fun k => T.getD k undef) ds0 w)
    (round : ∀ v ds V (K : Act → World → Prop), Hid (∀ (T' : Array Value) ds' w', T' = updS ks T (fun k => T'.getD k undef) → REL (fun k => T'.getD k undef) ds' w' → μ (fun k => T'.getD k undef) < μ v → K { tmps := T', defers := ds' } w') → REL v ds V →
      c.wp P (Exit.then K Q) { tmps := updS ks T v, defers := ds } V) :
    (Code.loop c).wp P Q { tmps := T, defers := ds0 } w := by
  refine wp_loop (fun a V => a.tmps = updS ks T (fun k => a.tmps.getD k undef) ∧ REL (fun k => a.tmps.getD k undef) a.defers V) (fun a _ => μ (fun k => a.tmps.getD k undef)) h0 ?_
  rintro ⟨t, ds⟩ V ⟨h1, h2⟩
  have := round _ ds V (fun a' w' => (a'.tmps = updS ks T (fun k => a'.tmps.getD k undef) ∧ REL (fun k => a'.tmps.getD k undef) a'.defers w') ∧ μ (fun k => a'.tmps.getD k undef) < μ (fun k => t.getD k undef)) (Lib.hid fun T' ds' w' g1 g2 g3 => ⟨⟨g1, g2⟩, g3⟩) h2
  rw [← h1] at this
  exact this
theorem s_range {P : Program} {α : Type} {g : Operand} {ps : Array Tmp} {assign body : Code} {Q : Exit → Act → World → Prop} {T : Array Value} {ds : List Deferred} {w : World} (f : Array Value → α → Array Value)
    {gf : Nat} {lb : Array Value} (hg : ({ tmps := T, defers := ds } : Act).eval g = .func (.func gf) #[] lb) (eg : ∀ args w, (callFunc gf args).run P w = .ok (.enter gf args) w)
    {encs : α → Array Value} {Kp : World → World → Prop} {S Sp : List α → Prop} {N : Nat} {w0 : World} (hseq : SeqStopsK Fence.wide 8 P gf lb encs Kp S Sp N w0)
    (hKt : ∀ {A B C : World}, Kp A B → Kp B C → Kp A C) (hKb : ∀ (W : World) (l : Nat) (o o' : Obj), w.heap.size ≤ l → W.heap[l]? = some o → o.isCells = false → o.isWalk = false → Kp W (W.putObj l o')) (hb0 : Below w0.heap.size w0 w) (hps : ∀ x, (encs x).size = ps.size)
    (I : List α → World → Prop) (hI : OwnFrom w.heap.size I) (h0 : I [] w)
    (hassign : ∀ (l : Nat) (x : α) (W : World) (K : Act → World → Prop), K { tmps := f T x, defers := [] } W →
      assign.wpIn (Fence.wide.inRound l) 7 P (Exit.then K (fun _ _ _ => False)) { tmps := (ps.zip (encs x)).foldl (fun t (p, v) => t.setIfInBounds p v) T, defers := [] } W)
    (hbody : ∀ (l : Nat) (pre : List α) (x : α) (W : World), I pre W → pre.length < N → body.wpIn (Fence.wide.inRound l) 7 P (ownPostG w.heap.size Kp I (fun _ _ _ => False) (pre ++ [x]) W) { tmps := f T x, defers := [] } W)
    (hdone : ∀ (D : Nat) (xs : List α) (W : World), w.heap.size ≤ D → S xs → I xs W → W.heap[D]? = some (.deferred (some [])) → Q .normal { tmps := T, defers := { target := .collected D, args := #[] } :: ds } W) :
    (Code.rangeFunc g ps assign body).wp P Q { tmps := T, defers := ds } w :=
  wpIn_wide.1 (wpIn_rangeFunc_ownG (F := Fence.wide) (n := 9) rfl (by omega) hg trivial eg hseq hKt hKb hb0 hps I (fun _ _ _ => False) hI (fun _ _ _ _ _ h _ _ => h) h0 (fun x => { tmps := f T x, defers := [] }) hassign hbody hdone (fun _ _ _ _ _ _ h _ => h.elim))
/-! ### What the ends have in common, while it is filled in -/
def cmL (s : List UInt8) (a : List Int) (n i : Nat) : List Int := rng n fun j => if j < i then scm s a j else 0
theorem cmL_len (s : List UInt8) (a : List Int) (n i : Nat) : (cmL s a n i).length = n := rng_len _ _
theorem cmL_one (s : List UInt8) (a : List Int) (n : Nat) (h : 0 < n) : cmL s a n 1 = List.replicate n 0 := by
  rw [rng_zero]
  refine rng_ext fun j _ => ?_
  by_cases e : j < 1
  · have : j = 0 := by omega
    subst this
    rfl
  · exact if_neg e
theorem cmL_set (s : List UInt8) (a : List Int) (n i : Nat) : (cmL s a n i).set i (scm s a i) = cmL s a n (i + 1) := by
  refine rng_set _ _ fun j _ => ?_
  by_cases e : j = i
  · subst e
    rw [if_pos rfl, if_pos (by omega)]
  · rw [if_neg e]
    by_cases h : j < i
    · rw [if_pos h, if_pos (by omega)]
    · rw [if_neg h, if_neg (by omega)]
theorem cmL_all (s : List UInt8) (a : List Int) (n : Nat) : cmL s a n n = scmL s a n := by
  unfold cmL scmL rng
  exact List.map_congr_left fun j hj => if_pos (List.mem_range.1 hj)
theorem Marks.touch {B : Nat} {W W' : World} {ds : List Deferred} {S : Nat → Prop} (h : Marks B W ds) (ht : Touch W W' S) (hS : ∀ k, k < W.heap.size → S k → ∃ o : Obj, W.heap[k]? = some o ∧ o.isCells = true) : Marks B W' ds := h.grow fun D hD => by
  have hlt := (Array.getElem?_eq_some_iff.1 hD).1
  refine (ht.block D hlt fun hs => ?_).trans hD
  obtain ⟨o, ho, hc⟩ := hS D hlt hs
  rw [hD] at ho
  injection ho with ho
  rw [← ho] at hc
  cases hc
theorem Marks.below {B : Nat} {W W' : World} {ds : List Deferred} (h : Marks B W ds) (hb : Below W.heap.size W W') : Marks B W' ds := h.grow fun D hD => (hb.block D (Array.getElem?_eq_some_iff.1 hD).1).trans hD
theorem ownFrom_touch {β : Type} {B : Nat} {w0 : World} {S : Nat → Prop} (hS : ∀ k, B ≤ k → S k) : OwnFrom B (fun (_ : β) W => Touch w0 W S) :=
  fun _ _ _ _ hs hg hr => hs.next (touch_grow hg) fun k _ e => hS k ((hr k e.symm).1)
theorem cut_region {P : Program} {id : Nat} {ops : Array Oper} {Q : Exit → Act → World → Prop} {T : Array Value} {ds : List Deferred} {w : World} (f : Array Value → Nat → Nat → Nat → Array Value) (R : Nat → Nat → Nat → World → Prop)
    (h1 : (Code.region id ops true).wp P (Exit.then (fun a' w' => ∃ x y z, a' = { tmps := f T x y z, defers := ds } ∧ R x y z w') (fun _ _ _ => False)) { tmps := T, defers := ds } w)
    (h2 : ∀ x y z w', R x y z w' → Q .normal { tmps := f T x y z, defers := ds } w') : (Code.region id ops true).wp P Q { tmps := T, defers := ds } w :=
  wp_mono h1 fun e a' w' h => by
    cases e with
    | normal =>
      obtain ⟨x, y, z, e2, h⟩ := h
      subst e2
      exact h2 x y z w' h
    | _ => exact h.elim
/-- Two places of an order are unlike. -/
theorem s_places_ne {a : List Int} (h : sordF a = true) {i j : Nat} (hi : i < a.length) (hj : j < a.length) (hij : i < j) {p q : Nat} (hp : a[i] = (p : Int)) (hq : a[j] = (q : Int)) : p ≠ q := fun e => by
  obtain ⟨_, _, h3⟩ := sord_get h j hj
  apply h3
  rw [sgetD j hj, hq, ← e, ← hp]
  have : (a.take j)[i]'(by rw [List.length_take]; omega) = a[i] := List.getElem_take
  rw [← this]
  exact List.getElem_mem _
/-- There are few levels: each has two ends of one kind, but perhaps none. -/
theorem s_levels_le {W : World} {s : List UInt8} {gs : List Nat} {kds : List (Nat → Nat)} {L : Nat} (h : LVS W s gs kds) (hL : gs.length = L) (hs : s.length ≤ 1000000) (hlt : ∀ p, p < L → 2 ^ p < s.length) : L ≤ 1000000 := by
  cases L with
  | zero => omega
  | succ L =>
    have h1 := hlt L (by omega)
    have h2 : L < 2 ^ L := Nat.lt_two_pow_self
    omega
theorem keeps_touch {B g : Nat} {W W' : World} (h : Touch W W' (fun k => k = g)) (hg : g < B) : KeepsFrom B W W' :=
  ⟨h.size, fun k o hB hk _ => (h.block k (Array.getElem?_eq_some_iff.1 hk).1 (by omega)).trans hk⟩
theorem Marks.far {B0 : Nat} {W : World} {ds : List Deferred} {B : Nat} (h : Marks B0 W ds) (hB : W.heap.size ≤ B) : ∀ d ∈ ds, ∀ E, d.target = .collected E → E ≠ B := fun d hd E e e2 => by
  obtain ⟨D, e3, hD, _⟩ := h.2 d hd
  rw [e] at e3
  injection e3 with e3
  have := (Array.getElem?_eq_some_iff.1 hD).1
  omega
theorem Touch.mono' {W W' : World} {S S' : Nat → Prop} (h : Touch W W' S) (hs : ∀ k, S k → S' k) : Touch W W' S' := h.mono fun k _ hk => hs k hk
end Go.Proofs.Ytngenehleelcmaa
