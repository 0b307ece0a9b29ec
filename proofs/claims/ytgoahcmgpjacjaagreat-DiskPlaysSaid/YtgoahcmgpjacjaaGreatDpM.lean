/-
  Layer 20, plain: directories in order; which changes can be done again; a map of names and of files' blocks as it reads.
-/
import Derived.Test.YtgoahcmgpjacjaaGreatDisDm
import Derived.Maps.OwnSet
import Derived.Sort.KeysCollected
import Derived.Sort.Walk0
namespace Go.Proofs.YtgoahcmgpjacjaaGreat
set_option linter.unusedSimpArgs false
set_option linter.unusedVariables false
open Go.ChangeShapes Go.WideShapes Go.ChangeAt Go.RowKit Go.Joins Go.Deep
def DSrt (l : List Ent) : Prop := l.Pairwise fun x y => Op.bytesLess x.1 y.1 = true
def DNm (l : List Ent) : Prop := ∀ e ∈ l, e.1 ≠ [] ∧ e.1.length ≤ 64
theorem dins_cons (x : Ent) (t : List Ent) (e : Ent) : dins (x :: t) e = if Op.bytesLess x.1 e.1 = true then x :: dins t e else e :: x :: t := by
  unfold dins
  rw [dplace]
  split
  · rw [List.take_succ_cons, List.drop_succ_cons, List.cons_append]
  · rw [List.take_zero, List.drop_zero, List.nil_append]
theorem dins_nil (e : Ent) : dins [] e = [e] := rfl
theorem DSrt.wout {l : List Ent} (h : DSrt l) (s : List UInt8) : DSrt (dwout l s) := List.Pairwise.sublist List.filter_sublist h
theorem DSrt.less {l : List Ent} (h : DSrt l) (s : List UInt8) : DSrt (dless l s) := by
  unfold dless
  split
  · exact h
  · exact h.wout s
theorem DSrt.ins {e : Ent} : ∀ {l : List Ent}, DSrt l → (∀ x ∈ l, x.1 ≠ e.1) → DSrt (dins l e)
  | [], _, _ => by rw [dins_nil]; exact List.pairwise_singleton _ _
  | x :: t, h, he => by
    have h1 := List.pairwise_cons.1 h
    have h2 := he x (List.mem_cons_self ..)
    rw [dins_cons]
    split
    · rename_i h3
      refine List.pairwise_cons.2 ⟨fun y hy => ?_, DSrt.ins h1.2 fun y hy => he y (List.mem_cons_of_mem _ hy)⟩
      rcases dins_mem.1 hy with rfl | hy
      · exact h3
      · exact h1.1 y hy
    · rename_i h3
      have h4 : Op.bytesLess e.1 x.1 = true := (slt_total x.1 e.1 h2).resolve_left h3
      refine List.pairwise_cons.2 ⟨fun y hy => ?_, h⟩
      rcases List.mem_cons.1 hy with rfl | hy
      · exact h4
      · exact slt_trans _ _ _ h4 (h1.1 y hy)
theorem DSrt.chgd {l : List Ent} (h : DSrt l) (c : Chg) : DSrt (dchgd l c) := by
  unfold dchgd
  split
  · exact h.less _
  · exact ((h.less _).wout _).ins fun x hx => (dwout_mem.1 hx).2
theorem DNm.chgd {l : List Ent} {c : Chg} (h : DNm l) (hc : c.2.1 ≠ [] → c.2.1.length ≤ 64) : DNm (dchgd l c) := fun e he => by
  rcases dchgd_mem he with h1 | ⟨rfl, h2⟩
  · exact h e h1
  · exact ⟨h2, hc h2⟩
theorem dfind_no {s : List UInt8} : ∀ {l : List Ent}, (∀ e ∈ l, e.1 ≠ s) → dfindL s l = -1
  | [], _ => rfl
  | e :: t, h => by
    unfold dfindL
    rw [if_neg (h e (List.mem_cons_self ..))]
    exact dfind_no fun x hx => h x (List.mem_cons_of_mem _ hx)
theorem dfind_wout (l : List Ent) (s : List UInt8) : dfindL s (dwout l s) = -1 := dfind_no fun e he => (dwout_mem.1 he).2
theorem dfind_ins {e : Ent} : ∀ {l : List Ent}, (∀ x ∈ l, x.1 ≠ e.1) → dfindL e.1 (dins l e) = e.2
  | [], _ => by rw [dins_nil]; unfold dfindL; rw [if_pos rfl]
  | x :: t, h => by
    rw [dins_cons]
    split
    · unfold dfindL
      rw [if_neg (h x (List.mem_cons_self ..))]
      exact dfind_ins fun y hy => h y (List.mem_cons_of_mem _ hy)
    · unfold dfindL
      rw [if_pos rfl]
theorem dfind_at (x : List UInt8) (l : List Ent) (c : Chg) (hn : DNm l) :
    dfindL x (dchgd l c) = if c.2.1 ≠ [] ∧ x = c.2.1 then c.2.2 else if c.1 ≠ [] ∧ x = c.1 then -1 else dfindL x l := by
  by_cases h1 : c.2.1 = []
  · rw [if_neg (fun h => h.1 h1)]
    unfold dchgd
    rw [if_pos h1]
    unfold dless
    by_cases h2 : c.1 = []
    · rw [if_pos h2, if_neg (fun h => h.1 h2)]
    · rw [if_neg h2]
      by_cases h3 : x = c.1
      · rw [if_pos ⟨h2, h3⟩, h3, dfind_wout]
      · rw [if_neg (fun h => h3 h.2), dfindL_wout h3]
  · unfold dchgd
    rw [if_neg h1]
    by_cases h3 : x = c.2.1
    · rw [if_pos ⟨h1, h3⟩, h3]
      exact dfind_ins fun y hy => (dwout_mem.1 hy).2
    · rw [if_neg (fun h => h3 h.2), dfindL_ins h3, dfindL_wout h3]
      unfold dless
      by_cases h2 : c.1 = []
      · rw [if_pos h2, if_neg (fun h => h.1 h2)]
      · rw [if_neg h2]
        by_cases h4 : x = c.1
        · rw [if_pos ⟨h2, h4⟩, h4, dfind_wout]
        · rw [if_neg (fun h => h4 h.2), dfindL_wout h4]
def DCk (l : List Ent) (c : Chg) : Prop :=
  (c.1 = [] ∧ c.2.1 ≠ [] ∧ c.2.1.length ≤ 64 ∧ 0 ≤ c.2.2) ∨ (c.1 ≠ [] ∧ c.2.1 = [] ∧ c.1.length ≤ 64) ∨ (c.1 ≠ [] ∧ c.2.1 ≠ [] ∧ c.1 ≠ c.2.1 ∧ c.1.length ≤ 64 ∧ c.2.1.length ≤ 64 ∧ 0 ≤ dfindL c.1 l ∧ c.2.2 = dfindL c.1 l)
theorem DCk.len {l : List Ent} {c : Chg} (h : DCk l c) : c.2.1 ≠ [] → c.2.1.length ≤ 64 := by
  rcases h with h | h | h
  · exact fun _ => h.2.2.1
  · exact fun h1 => absurd h.2.1 h1
  · exact fun _ => h.2.2.2.2.1
structure DGd (D : Dk) : Prop where
  srt : DSrt D.safe
  nm : DNm D.safe
  chg : ∀ k (h : k < D.chg.length), DCk ((D.chg.take k).foldl dchgd D.safe) D.chg[k]
theorem DGd.back {D : Dk} (h : DGd D) : ∀ k, k ≤ D.chg.length → DSrt ((D.chg.take k).foldl dchgd D.safe) ∧ DNm ((D.chg.take k).foldl dchgd D.safe)
  | 0, _ => by rw [List.take_zero]; exact ⟨h.srt, h.nm⟩
  | k + 1, hk => by
    have h1 := h.back k (by omega)
    rw [List.take_succ_eq_append_getElem (by omega), List.foldl_append]
    exact ⟨h1.1.chgd _, h1.2.chgd (h.chg k (by omega)).len⟩
theorem DGd.dback_ {D : Dk} (h : DGd D) (k : Int) : DSrt (dback D k) ∧ DNm (dback D k) := by
  unfold dback
  by_cases hk : k.toNat ≤ D.chg.length
  · exact h.back _ hk
  · rw [List.take_of_length_le (by omega)]
    have := h.back D.chg.length (Nat.le_refl _)
    rwa [List.take_length] at this
theorem DGd.dir_ {D : Dk} (h : DGd D) (hh : DHist D) : DSrt D.dir ∧ DNm D.dir := by
  rw [hh.dir]
  have := h.back D.chg.length (Nat.le_refl _)
  rwa [List.take_length] at this
theorem DGd.of {D E : Dk} (h : DGd D) (h1 : E.chg = D.chg) (h2 : E.safe = D.safe) : DGd E := by
  obtain ⟨a, b, c, d, e, f, g, i⟩ := E
  dsimp only at h1 h2
  subst h1; subst h2
  exact ⟨h.srt, h.nm, h.chg⟩
theorem DGd.change_ {D : Dk} (h : DGd D) (hd : D.dir = D.chg.foldl dchgd D.safe) {c : Chg} (hc : DCk D.dir c) : DGd (D.change c) := by
  refine ⟨h.srt, h.nm, fun k hk => ?_⟩
  change k < (D.chg ++ [c]).length at hk
  show DCk (((D.chg ++ [c]).take k).foldl dchgd D.safe) (D.chg ++ [c])[k]
  rw [List.length_append, List.length_singleton] at hk
  by_cases h1 : k < D.chg.length
  · rw [List.take_append_of_le_length (by omega), List.getElem_append_left h1]
    exact h.chg k h1
  · obtain rfl : k = D.chg.length := by omega
    rw [List.take_append_of_le_length (Nat.le_refl _), List.take_length, List.getElem_append_right (Nat.le_refl _), ← hd]
    simpa using hc
theorem dnew_gd (c : Int) : DGd (dnew c) := ⟨List.Pairwise.nil, fun e he => (by cases he), fun k hk => (by cases hk)⟩
theorem DGd.new_ {E : Dk} (h1 : DSrt E.safe ∧ DNm E.safe) (h2 : E.chg = []) : DGd E := ⟨h1.1, h1.2, fun k hk => by rw [h2] at hk; cases hk⟩
theorem nchk_len {s : List UInt8} (h : nchkF s = 0) : s ≠ [] ∧ s.length ≤ 64 := by
  unfold nchkF at h
  split at h
  · rename_i h1
    exact ⟨fun e => by rw [e] at h1; exact absurd h1.1 (by decide), h1.2.1⟩
  · exact absurd h (by decide)
theorem DGd.named {D : Dk} (h : DGd D) (hh : DHist D) {s : List UInt8} (hs : 0 ≤ D.find s) : s ≠ [] ∧ s.length ≤ 64 := (h.dir_ hh).2 _ (dfindL_mem hs)
theorem dcreate_ck {D : Dk} {s : List UInt8} (h2 : nchkF s = 0) {n : Int} (hn : 0 ≤ n) : DCk D.dir ([], (s, n)) := .inl ⟨rfl, (nchk_len h2).1, (nchk_len h2).2, hn⟩
theorem drem_ck {D : Dk} (h : DGd D) (hh : DHist D) {s : List UInt8} (hs : 0 ≤ D.find s) : DCk D.dir (s, ([], 0)) := .inr (.inl ⟨(h.named hh hs).1, rfl, (h.named hh hs).2⟩)
theorem dren_ck {D : Dk} (h : DGd D) (hh : DHist D) {a b : List UInt8} (hs : 0 ≤ D.find a) (hb : nchkF b = 0) (hab : a ≠ b) : DCk D.dir (a, (b, D.find a)) :=
  .inr (.inr ⟨(h.named hh hs).1, (nchk_len hb).1, hab, (h.named hh hs).2, (nchk_len hb).2, hs, rfl⟩)
theorem ddirs_gd {D E : Dk} (h : DGd D) (hh : DHist D) (h1 : E.safe = D.dir) (h2 : E.chg = []) : DGd E := DGd.new_ (by rw [h1]; exact h.dir_ hh) h2
theorem dboot_gd {D : Dk} (h : DGd D) (k : Int) (cuts : List Int) (marks : List (List UInt8)) : DGd (dbootF D k cuts marks) := DGd.new_ (h.dback_ k) rfl
def pv (b : Nat) : DataW Unit := .lit (.int .i64 (b : Int))
def nv : DataW Unit := .lit (.int .i64 (-1))
theorem pv_inj {a b : Nat} (h : pv a = pv b) : a = b := by
  unfold pv at h
  injection h with h
  injection h with _ h
  omega
theorem pv_nv {a : Nat} (h : pv a = nv) : False := by
  unfold pv nv at h
  injection h with h
  injection h with _ h
  omega
def ptE (v : Value) : Option (DataW Unit × List MemPlace) :=
  match v with
  | .pointer none => some (nv, [])
  | .pointer (some ⟨b, 0, none⟩) => some (pv b, [])
  | _ => none
def mkP (c : Option Nat) : Value := .pointer (c.map fun b => ⟨b, 0, none⟩)
theorem ptE_nil : ptE (.pointer none) = some (nv, []) := rfl
theorem ptE_mk (b : Nat) : ptE (.pointer (some ⟨b, 0, none⟩)) = some (pv b, []) := rfl
theorem ptE_inv {v : Value} {y : DataW Unit × List MemPlace} (h : ptE v = some y) : (v = .pointer none ∧ y = (nv, [])) ∨ ∃ b, v = .pointer (some ⟨b, 0, none⟩) ∧ y = (pv b, []) := by
  unfold ptE at h
  split at h
  · injection h with h
    exact .inl ⟨rfl, h.symm⟩
  · injection h with h
    exact .inr ⟨_, rfl, h.symm⟩
  · cases h
theorem ptE_shape {v : Value} {y : DataW Unit × List MemPlace} (h : ptE v = some y) : ∃ c, v = mkP c := by
  rcases ptE_inv h with ⟨rfl, _⟩ | ⟨b, rfl, _⟩
  · exact ⟨none, rfl⟩
  · exact ⟨some b, rfl⟩
theorem ptE_at {v : Value} {b : Nat} {ps : List MemPlace} (h : ptE v = some (pv b, ps)) : v = .pointer (some ⟨b, 0, none⟩) := by
  rcases ptE_inv h with ⟨rfl, h1⟩ | ⟨c, rfl, h1⟩
  · injection h1 with h1
    exact absurd h1 pv_nv
  · injection h1 with h1
    rw [pv_inj h1]
theorem ptE_no {v : Value} {ps : List MemPlace} (h : ptE v = some (nv, ps)) : v = .pointer none := by
  rcases ptE_inv h with ⟨rfl, h1⟩ | ⟨c, rfl, h1⟩
  · rfl
  · injection h1 with h1
    exact absurd h1.symm pv_nv
def fbk (fb : List Nat) (n : Int) : Nat := fb.getD n.toNat 0
def DIs (fb : List Nat) (M : DataW Unit) (l : List Ent) : Prop := ∀ s zd, M.atKey (.string s) zd = if 0 ≤ dfindL s l then pv (fbk fb (dfindL s l)) else zd
theorem DIs.has {fb : List Nat} {M : DataW Unit} {l : List Ent} (h : DIs fb M l) (s : List UInt8) : Maps.has M (.string s) = decide (0 ≤ dfindL s l) := by
  by_cases h1 : 0 ≤ dfindL s l
  · rw [decide_eq_true h1]
    exact Maps.has_true_of_atKey (y := pv (fbk fb (dfindL s l))) fun z => by rw [h s z, if_pos h1]
  · rw [decide_eq_false h1]
    exact Maps.has_false_of_atKey fun z => by rw [h s z, if_neg h1]
theorem fbk_app {fb : List Nat} {n : Int} (x : Nat) (h : 0 ≤ n ∧ n < (fb.length : Int)) : fbk (fb ++ [x]) n = fbk fb n := by
  unfold fbk
  rw [List.getD_eq_getElem?_getD, List.getD_eq_getElem?_getD, List.getElem?_append_left (by omega)]
theorem fbk_new (fb : List Nat) (x : Nat) : fbk (fb ++ [x]) (fb.length : Int) = x := by
  unfold fbk
  rw [List.getD_eq_getElem?_getD, Int.toNat_natCast, List.getElem?_append_right (Nat.le_refl _)]
  simp
theorem DIs.more {fb : List Nat} {M : DataW Unit} {l : List Ent} (h : DIs fb M l) (hl : dokL fb.length l) (x : Nat) : DIs (fb ++ [x]) M l := fun s zd => by
  rw [h s zd]
  by_cases h1 : 0 ≤ dfindL s l
  · rw [if_pos h1, if_pos h1, fbk_app x ⟨h1, (dfindL_ok hl).1⟩]
  · rw [if_neg h1, if_neg h1]
theorem DIs.put {fb : List Nat} {M : DataW Unit} {l l' : List Ent} (h : DIs fb M l) (hM : Maps.IsMap M) {s : List UInt8} {b : Nat} (h1 : 0 ≤ dfindL s l') (h2 : b = fbk fb (dfindL s l')) (h3 : ∀ x, x ≠ s → dfindL x l' = dfindL x l) :
    DIs fb (M.put (.string s) (pv b)) l' := fun x zd => by
  by_cases hx : x = s
  · subst hx
    rw [Maps.atKey_put_same (k := .string x) hM trivial, if_pos h1, h2]
  · rw [Maps.atKey_put_other (fun e => hx (by injection e)), h x zd, h3 x hx]
theorem DIs.del {fb : List Nat} {M : DataW Unit} {l l' : List Ent} (h : DIs fb M l) {s : List UInt8} (h1 : ¬ 0 ≤ dfindL s l') (h3 : ∀ x, x ≠ s → dfindL x l' = dfindL x l) :
    DIs fb (M.del (.string s)) l' := fun x zd => by
  by_cases hx : x = s
  · subst hx
    rw [Maps.atKey_del_same, if_neg h1]
  · rw [Maps.atKey_del_other (fun e => hx (by injection e)), h x zd, h3 x hx]
theorem dfind_iff {l : List Ent} (h1 : DOne l) (h0 : ∀ e ∈ l, 0 ≤ e.2) (x : List UInt8) : x ∈ l.map (·.1) ↔ 0 ≤ dfindL x l := by
  constructor
  · intro h
    obtain ⟨e, he, rfl⟩ := List.mem_map.1 h
    rw [h1.find e he]
    exact h0 e he
  · intro h
    exact List.mem_map.2 ⟨_, dfindL_mem h, rfl⟩
theorem DOne.names {l : List Ent} (h : DOne l) : (l.map (·.1)).Nodup := by
  rw [List.Nodup, List.pairwise_map]
  exact h.imp fun h => h.1
theorem DIs.perm {P : Program} {k : TypeId} {R : Value → Option (DataW Unit × List MemPlace)} {w : World} {b n : Nat} {fb : List Nat} {M : DataW Unit} {l : List Ent} (h : DIs fb M l) (hown : w.ownsMap P k R b n M) (K : Maps.Keyed P k) (hk : P.underlying k = some .string)
    (h1 : DOne l) (h0 : ∀ e ∈ l, 0 ≤ e.2) : (l.map (·.1)).Perm (strKeys M) := by
  obtain ⟨es, hD, hpw, _⟩ := hown.entries K
  obtain ⟨es', hD', hko⟩ := hown.keysOf
  obtain rfl : es = es' := by rw [hD] at hD'; simpa using hD'
  subst hD
  exact perm_strKeys hpw (fun p hp => by obtain ⟨v, hv⟩ := hko p hp; obtain ⟨x, _, hx, _⟩ := Maps.keyOf_str hk hv; exact ⟨x, hx⟩) h1.names (fun x => by rw [h.has x, decide_eq_true_eq, dfind_iff h1 h0])
theorem size_keys (M : DataW Unit) : (strKeys M).length = Maps.size M := by
  cases M <;> simp [strKeys, Maps.size]
theorem DIs.size {P : Program} {k : TypeId} {R : Value → Option (DataW Unit × List MemPlace)} {w : World} {b n : Nat} {fb : List Nat} {M : DataW Unit} {l : List Ent} (h : DIs fb M l) (hown : w.ownsMap P k R b n M) (K : Maps.Keyed P k) (hk : P.underlying k = some .string)
    (h1 : DOne l) (h0 : ∀ e ∈ l, 0 ≤ e.2) : Maps.size M = l.length := by
  have := (h.perm hown K hk h1 h0).length_eq
  rw [size_keys, List.length_map] at this
  exact this.symm
theorem DSrt.keys {l : List Ent} (h : DSrt l) : (l.map (·.1)).mergeSort leB = l.map (·.1) := by
  refine List.mergeSort_of_pairwise ?_
  rw [List.pairwise_map]
  refine h.imp fun {a b} hab => ?_
  rw [bytesLess_eq] at hab
  exact decide_eq_true (List.le_of_lt (of_decide_eq_true hab))
def dcntL (D : Dk) (left : Lit → Bool) : List Ent → Nat
  | [] => 0
  | e :: t => (if left (.string e.1) = true then 0 else (D.file e.2).2.length) + dcntL D left t
theorem dcnt_start {D : Dk} {left : Lit → Bool} : ∀ {l : List Ent}, (∀ e ∈ l, left (.string e.1) = true) → dcntL D left l = 0
  | [], _ => rfl
  | e :: t, h => by
    unfold dcntL
    rw [if_pos (h e (List.mem_cons_self ..)), dcnt_start fun x hx => h x (List.mem_cons_of_mem _ hx)]
theorem dcnt_end {D : Dk} {left : Lit → Bool} (h : ∀ kl, left kl = false) : ∀ (l : List Ent), dcntL D left l = dusedL D l
  | [] => rfl
  | e :: t => by
    unfold dcntL dusedL
    rw [h, if_neg (by decide), dcnt_end h t]
theorem dcnt_same {D : Dk} {f g : Lit → Bool} : ∀ {l : List Ent}, (∀ e ∈ l, f (.string e.1) = g (.string e.1)) → dcntL D f l = dcntL D g l
  | [], _ => rfl
  | e :: t, h => by
    unfold dcntL
    rw [h e (List.mem_cons_self ..), dcnt_same fun x hx => h x (List.mem_cons_of_mem _ hx)]
theorem dcnt_step {D : Dk} {left : Lit → Bool} {x : List UInt8} (hx : left (.string x) = true) : ∀ {l : List Ent}, DOne l → 0 ≤ dfindL x l → dcntL D (fun z => left z && !z.sameKey (.string x)) l = dcntL D left l + (D.file (dfindL x l)).2.length
  | [], _, h => by unfold dfindL at h; omega
  | e :: t, h1, h => by
    have h2 := List.pairwise_cons.1 h1
    unfold dcntL
    unfold dfindL at h ⊢
    by_cases he : e.1 = x
    · rw [if_pos he, he, hx]
      have hs : (Lit.string x).sameKey (.string x) = true := by simp [Lit.sameKey]
      rw [hs]
      have h3 : dcntL D (fun z => left z && !z.sameKey (.string x)) t = dcntL D left t := dcnt_same fun y hy => by
        have h4 := (h2.1 y hy).1
        rw [he] at h4
        have h5 : (Lit.string y.1).sameKey (.string x) = false := by simp [Lit.sameKey, Ne.symm h4]
        try dsimp only
        rw [h5]
        simp
      rw [h3]
      simp
      omega
    · rw [if_neg he] at h ⊢
      have h5 : (Lit.string e.1).sameKey (.string x) = false := by simp [Lit.sameKey, he]
      rw [dcnt_step hx h2.2 h, h5]
      simp
      omega
theorem dcnt_le (D : Dk) (left : Lit → Bool) (hb : DBnd D) : ∀ (l : List Ent), dcntL D left l ≤ l.length * 1000000
  | [] => Nat.zero_le _
  | e :: t => by
    have h1 := dcnt_le D left hb t
    have h2 := (hb.file e.2).2
    unfold dcntL
    rw [List.length_cons, Nat.add_mul]
    split <;> omega
end Go.Proofs.YtgoahcmgpjacjaaGreat
