/-
  Layer 4: what Pack of package bits does: the closure that puts a field, 'each' over the fields, Pack.
-/
import Derived.Test.YtakkljajoollgaaBitC
import Derived.Test.YtakkljajoollgaaBitT
namespace Go.Proofs.Ytakkljajoollgaa
set_option linter.unusedSimpArgs false
set_option linter.unusedVariables false
open Go.ChangeShapes Go.WideShapes Go.ChangeAt Go.RowKit Go.Joins Go.Deep

/-- The method value 'w.Put' in its variable. -/
def putV (g : Nat) : Value := .func (.func 16) #[.pointer (some ⟨g, 0, none⟩)] #[]
/-- The closure over that variable. -/
def packC (pb : Nat) : Value := .func (.func 26) #[] #[.pointer (some ⟨pb, 0, none⟩)]

set_option maxRecDepth 100000 in
set_option maxHeartbeats 1000000 in
theorem pack1_yes (B g pb : Nat) (n width : Int) (v : Value) (R : List Nat) (w : World) (hf : fits n width) (hH : WHold w B g v R) (hB : B ≤ w.heap.size) (hR : R.length ≤ 1099511627776) (hP : Blk w pb 46 #[putV g]) :
    Calls Try.prog 26 #[.agg #[.int .i64 n, .int .i64 width], .pointer (some ⟨pb, 0, none⟩)] w fun e w' => e = .returned (.int .i64 0) ∧ ∃ v', WHold w' B g v' (R ++ digI n width) ∧ Touch w w' (WS g v) ∧ Sep w v v' := by
  have hput := fun w hH hB => put_is B g n width v R w hf hH hB hR
  have c1 : w.cell? ⟨pb, 0, none⟩ = some (.func (.func 16) #[.pointer (some ⟨g, 0, none⟩)] #[]) := hP.cell 0
  have hpl := hP.lt
  have HH : Hid (WHold (w.alloc (.cells #[.int .i64 n, .int .i64 width] 41)) B g v R) := Lib.hid (hH.below ((Below.refl _ _).alloc (Nat.le_refl _) _) (Nat.le_refl _))
  have HB : Hid (B ≤ (w.alloc (.cells #[.int .i64 n, .int .i64 width] 41)).heap.size) := Lib.hid (by simp; omega)
  have Hput := Lib.hid hput
  clear hput hf hH hB hR hP
  go_enter Try.func26, Try.ntmps26
  go_wp2_with (go_at_call 16; refine (Hput.out _ HH.out HB.out).mono ?_; rintro e w1 ⟨rfl, v1, hH1, ht1, hs1⟩)
  go_ret
  refine ⟨rfl, v1, hH1, ?_, fun k hk => ?_⟩
  · exact ((Touch.refl w (WS g v)).alloc _).trans ht1
  · rcases hs1 k hk with e | e
    · exact Or.inl e
    · simp at e
      exact Or.inr (by omega)
theorem pack1_no (g pb : Nat) (n width : Int) (w : World) (hf : ¬ fits n width) (hP : Blk w pb 46 #[putV g]) :
    Calls Try.prog 26 #[.agg #[.int .i64 n, .int .i64 width], .pointer (some ⟨pb, 0, none⟩)] w fun e w' => e = .returned (.int .i64 2) ∧ Below w.heap.size w w' := by
  have hput := fun w => put_no g n width w hf
  have c1 : w.cell? ⟨pb, 0, none⟩ = some (.func (.func 16) #[.pointer (some ⟨g, 0, none⟩)] #[]) := hP.cell 0
  have hpl := hP.lt
  clear hf hP
  go_enter Try.func26, Try.ntmps26
  go_wp2_with (go_at_call 16; refine (hput _).mono ?_; rintro e w1 ⟨rfl, rfl⟩)
  go_ret
  exact ⟨rfl, by go_grown⟩

/-- What 'each' answers over the fields. -/
def EachPost (w w' : World) (B g : Nat) (v : Value) (e : Ending) (l : List (Int × Int)) : Prop :=
  Touch w w' (WS g v) ∧ match packF l with
    | some r => e = .returned (.int .i64 0) ∧ ∃ v', WHold w' B g v' r ∧ Sep w v v'
    | none => e = .returned (.int .i64 2)

set_option maxRecDepth 100000 in
set_option maxHeartbeats 2000000 in
theorem eachF_any (l : List (Int × Int)) (A : Option Addr) (n c B N0 g pb : Nat) (v : Value) (w : World) (hn : l.length = n) (hl : n ≤ 1000) (hr : Reads w N0 2 A n (pairs .i64 l)) (hN1 : N0 ≤ g) (hN2 : N0 ≤ B) (hB : B ≤ w.heap.size)
    (hH : WHold w B g v []) (hP : Blk w pb 46 #[putV g]) :
    Calls Try.prog 25 #[.slice A n c, packC pb] w fun e w' => EachPost w w' B g v e l := by
  have hni : (n : Int) ≤ 1000 := by omega
  have Hcell := Lib.hid fun h => fields_at hr h
  have Hn := Lib.hid hn
  have HB := Lib.hid hB
  have HP := Lib.hid hP
  have HH := Lib.hid hH
  have hpg : pb ≠ g := fun e => by
    have h1 := hH.1
    rw [← e] at h1
    unfold Blk at h1 hP
    rw [hP] at h1
    injection h1 with h1
    injection h1 with _ h2
    exact absurd h2 (by decide)
  have hpv : v.ownBlock ≠ some pb := owns_apart hH.2.1 hP (by decide)
  have Hpb : Hid (¬ WS g v pb) := Lib.hid fun h => by
    rcases h with h | h
    · exact hpg h
    · exact hpv h
  have Hvb : Hid (∀ b, b < N0 → ¬ WS g v b) := Lib.hid fun b hb h => by
    rcases h with h | h
    · omega
    · have := (hH.2.1.lt b h).1
      omega
  have hmf : ∀ (fn : Fn) (first cap : Array Value) (w : World), (Instr.makeFunc fn first cap).run Try.prog w = .ok (.func fn first cap) w := fun _ _ _ _ => rfl
  clear hn hr hl hB hP hH hpg hpv
  unfold packC
  go_enter Try.func25, Try.ntmps25
  go_wp2
  go_loopw [10] (fun i wr => ∃ (k : Nat) (acc : List Nat) (v' : Value), k ≤ n ∧ i = .int .i64 k ∧ Hid (acc.length ≤ 32 * k) ∧ Hid (packOn acc (l.drop k) = packF l) ∧ Hid (WHold wr B g v' acc) ∧ Hid (Touch w wr (WS g v)) ∧ Hid (Sep w v v')) (fun i _ => n - (intOf i).toNat)
  case atStart => exact ⟨0, [], v, by omega, rfl, Lib.hid (by simp), Lib.hid (packOn_nil _), HH.out, Lib.hid (Touch.refl _ _), Lib.hid fun k hk => Or.inl hk⟩
  case round =>
    obtain ⟨k, acc, v', hk, rfl, Hacc, Hp, HHr, Ht, Hs⟩ := hrel
    by_cases hlt : k < n
    · have hkl : k < l.length := by rw [Hn.out]; exact hlt
      obtain ⟨b, off, rfl, hb, hc⟩ := Hcell.out (by omega)
      obtain ⟨y1, y2⟩ := hc k hkl
      have hbw : b < w.heap.size := World.block_lt_of_cell? w _ y1
      have hbk := Ht.out.block b hbw (Hvb.out b hb)
      have x1 : wr.cell? ⟨b, off + k * 2, none⟩ = some (.int .i64 l[k].1) := (World.cell?_of_block (a := ⟨b, off + k * 2, none⟩) hbk).trans y1
      have x2 : wr.cell? ⟨b, off + k * 2 + 1, none⟩ = some (.int .i64 l[k].2) := (World.cell?_of_block (a := ⟨b, off + k * 2 + 1, none⟩) hbk).trans y2
      have hdrop : l.drop k = l[k] :: l.drop (k + 1) := List.drop_eq_getElem_cons hkl
      have hki : 0 ≤ (k : Int) ∧ (k : Int) < n := by omega
      have hszr := Ht.out.size
      have hblr : b < wr.heap.size := by omega
      have hp := Hp.out
      have HPr := Lib.hid (HP.out.touch Ht.out Hpb.out)
      rw [hdrop] at hp
      by_cases hf : fits l[k].1 l[k].2
      · rw [packOn_yes _ _ _ hf] at hp
        have hcl := fun W hH hB hP => pack1_yes B g pb l[k].1 l[k].2 v' acc W hf hH hB (by have := Hacc.out; omega) hP
        have hd32 : (digI l[k].1 l[k].2).length ≤ 32 := by unfold digI; rw [dig_length]; have := hf.2.1; omega
        have Hp2 := Lib.hid hp
        have Hd32 := Lib.hid hd32
        have Hcl := Lib.hid hcl
        clear hp hc hdrop y1 y2 hf hbk hcl hd32
        generalize l[k].1 = fn at *
        generalize l[k].2 = fw at *
        generalize digI fn fw = D at *
        clear hkl
        have HHr2 : Hid (WHold (wr.alloc (.cells #[.int .i64 fn, .int .i64 fw] 41)) B g v' acc) := Lib.hid (HHr.out.below ((Below.refl _ _).alloc (Nat.le_refl _) _) (Nat.le_refl _))
        have HB2 : Hid (B ≤ (wr.alloc (.cells #[.int .i64 fn, .int .i64 fw] 41)).heap.size) := Lib.hid (by have := HB.out; simp; omega)
        go_wp2_with (go_at_call 26; refine (Hcl.out _ HHr2.out HB2.out (HPr.out.alloc _)).mono ?_; rintro e w1 ⟨rfl, v1, hH1, ht1, hs1⟩; have HH1 := Lib.hid hH1; have Ht1 := Lib.hid ht1; have Hs1 := Lib.hid hs1; clear hH1 ht1 hs1)
        go_roundw
        case rel =>
          have ht2 : Touch wr w1 (WS g v') := ((Touch.refl wr (WS g v')).alloc _).trans Ht1.out
          have hs2 : Sep wr v' v1 := fun i hi => by
            rcases Hs1.out i hi with e | e
            · exact Or.inl e
            · simp at e
              exact Or.inr (by omega)
          exact ⟨k + 1, acc ++ D, v1, by omega, iv (by omega), Lib.hid (by rw [List.length_append]; have := Hacc.out; have := Hd32.out; omega), Hp2.out, HH1.out, Lib.hid (touch_ws Ht.out ht2 Hs.out), Lib.hid (Hs.out.trans hs2 hszr)⟩
        case measure => simp only [intOf]; omega
      · rw [packOn_no _ _ _ hf] at hp
        have hcl := fun W hP => pack1_no g pb l[k].1 l[k].2 W hf hP
        have fin : EachPost w w B g v (.returned (.int .i64 2)) l := ⟨Touch.refl _ _, by rw [← hp]⟩
        have Fin := Lib.hid fin.2
        have Hcl := Lib.hid hcl
        clear hp hc hdrop y1 y2 hf hbk hcl fin
        generalize l[k].1 = fn at *
        generalize l[k].2 = fw at *
        clear hkl
        go_wp2_with (go_at_call 26; refine (Hcl.out _ (HPr.out.alloc _)).mono ?_; rintro e w1 ⟨rfl, hb1⟩)
        go_ret
        refine ⟨Ht.out.trans (((Touch.refl wr (WS g v)).alloc _).trans (touch_below hb1 (Nat.le_refl _))), ?_⟩
        have hnone : packF l = none := by
          cases hpk : packF l with
          | none => rfl
          | some r =>
            have := Fin.out
            rw [hpk] at this
            exact absurd this.1 (by simp)
        rw [hnone]
        rfl
    · obtain rfl : k = n := by omega
      have hp := Hp.out
      rw [List.drop_of_length_le (by rw [Hn.out]; omega), packOn_end] at hp
      have Hp2 := Lib.hid hp
      clear hp
      go_wp2
      go_ret
      refine ⟨Ht.out, ?_⟩
      rw [← Hp2.out]
      exact ⟨rfl, v', HHr.out, Hs.out⟩
end Go.Proofs.Ytakkljajoollgaa
