/-
  What the law of the last of these texts stands on, part 18.
-/
import Derived.Test.YtpocpckhcciecaaRows
import Derived.Test.YtpocpckhcciecaaMg01
import Derived.Test.YtpocpckhcciecaaMg12
import Derived.Test.YtpocpckhcciecaaMg17
import Derived.WalkKit
import Derived.WalkSpells
import Derived.WalkLawsBesides
import Derived.ProofKit
import Derived.OpenShut
import Derived.Handy
import Derived.SizedLaws
import Derived.JoinedOf
import Derived.KernelRfl
import Derived.Lib.Hide
import Derived.Lib.SmallJoins
import Derived.Deep.Slices
import Derived.Deep.Fields
import Derived.Deep.SlicePairs
import Derived.Deep.Draws
import Derived.Deep.AppendLies
import Derived.Deep.QuietTactic
import Derived.BigQuiet
import Derived.Deep.RegionHeld3
import Derived.StillTailTactics
import Derived.Laws.OwnMore
import Derived.Laws.Rows
import Derived.Below
import Derived.Carry
import Derived.WalkMore
import Derived.Laws.BytesString
import Derived.Laws.BitsLemmas
import Derived.Laws.Concat
import Derived.Deep.Upon
namespace Go.Proofs.Ytpocpckhcciecaa
set_option linter.unusedSimpArgs false
set_option linter.unusedVariables false
open Go.ChangeShapes Go.WideShapes Go.ChangeAt Go.RowKit Go.Joins Go.Deep
theorem bbyte_info : (Try.prog.info? 5).map (fun i => (i.zero, i.size, i.bytes)) = some (some (.int .u8 0), 1, 1) := by kernel_rfl
theorem owns_some {w : World} {base size n : Nat} {e : TypeId} {v : Value} {xs : List Value} (h : w.ownsRow base e size v n xs) (hn : 0 < n) : ∃ g cap, v = .slice (some ⟨g, 0, none⟩) n cap ∧ base ≤ g ∧ n ≤ cap ∧ g < w.heap.size := by
  rcases h.2 with ⟨rfl, h0⟩ | ⟨g, cap, cur, rfl, hb, hheap, hcap, _⟩
  · omega
  · refine ⟨g, cap, rfl, hb, hcap, ?_⟩
    rcases Nat.lt_or_ge g w.heap.size with hlt | hge
    · exact hlt
    · rw [Array.getElem?_eq_none hge] at hheap; cases hheap
/-- The or of a byte whose lower bits are clear and a number of these bits. -/
theorem or_u8 (x y f : Nat) (hx : x % 2 ^ f = 0) (hy : y < 2 ^ f) (hxl : x < 256) (hf : f ≤ 8) : bits .or .u8 (x : Int) (y : Int) = ((x + y : Nat) : Int) := by
  have h8 : (2 : Nat) ^ 8 = 256 := by decide
  have hp : 0 < 2 ^ f := Nat.pow_pos (by omega)
  have hs : x + y < 256 := by
    have h1 : x = x / 2 ^ f * 2 ^ f := by have := Nat.div_add_mod x (2 ^ f); rw [hx, Nat.mul_comm] at this; omega
    have h2 : 256 = 2 ^ (8 - f) * 2 ^ f := by rw [← Nat.pow_add, show 8 - f + f = 8 from by omega]
    have h3 : x / 2 ^ f < 2 ^ (8 - f) := by
      rw [Nat.div_lt_iff_lt_mul hp, ← h2]
      exact hxl
    have h4 : (x / 2 ^ f + 1) * 2 ^ f ≤ 2 ^ (8 - f) * 2 ^ f := Nat.mul_le_mul_right _ h3
    rw [Nat.add_mul, ← h2, Nat.one_mul] at h4
    omega
  have h := bits_join .u8 8 (by decide) wraps_u8 f (x : Int) (y : Int) (by omega) (by exact_mod_cast hx) (by omega) (by omega) (by exact_mod_cast hy) (by omega)
  rw [h]
  omega
/-- Which blocks a writer's calls may turn. -/
def WS (g : Nat) (v : Value) : Nat → Prop := fun k => k = g ∨ v.ownBlock = some k
/-- What the loop of Put holds on to: so many digits are still to be put. -/
structure PInv (w wr : World) (B g : Nat) (v : Value) (R : List Nat) (W N L : Nat) (v' : Value) : Prop where
  hold : WHold wr B g v' (R ++ dig (W - L) (N / 2 ^ L))
  touch : Touch w wr (WS g v)
  sep : Sep w v v'
  at_ : L = W ∨ L = 0 ∨ fr (R ++ dig (W - L) (N / 2 ^ L)) = 0
theorem fr_app (Q P : List Nat) (h : P.length ≤ fr Q) : fr (Q ++ P) = fr Q - P.length := by
  unfold fr at *
  rw [List.length_append]
  omega
theorem fr_new (Q P : List Nat) (h : fr Q = 0) (h8 : P.length ≤ 8) (h0 : 0 < P.length) : fr (Q ++ P) = 8 - P.length := by
  unfold fr at *
  rw [List.length_append]
  omega
theorem dig_on (R : List Nat) (W N L p : Nat) (hL : L ≤ W) (hp : p ≤ L) : R ++ dig (W - (L - p)) (N / 2 ^ (L - p)) = (R ++ dig (W - L) (N / 2 ^ L)) ++ dig p (N / 2 ^ (L - p)) := by
  rw [List.append_assoc, show W - (L - p) = (W - L) + p from by omega, dig_add, Nat.div_div_eq_div_mul, ← Nat.pow_add, show L - p + p = L from by omega]
theorem bc_last (T : List UInt8) (b c : UInt8) : (bc (T ++ [b])).toList.set T.length (.int .u8 (c.toNat : Int)) = (bc (T ++ [c])).toList := by
  simp [bc, List.set_append]
theorem yval (N s p F : Nat) (hN : N < 4294967296) (hF : F ≤ 8) (hp : p ≤ F) (h : F = 8 ∨ N / 2 ^ s < 2 ^ p) : wrap64 ((N : Int) / 2 ^ s * 2 ^ (F - p)) % 256 = ((num (dig p (N / 2 ^ s)) * 2 ^ (F - p) : Nat) : Int) := by
  have e : (N : Int) / 2 ^ s * 2 ^ (F - p) = ((N / 2 ^ s * 2 ^ (F - p) : Nat) : Int) := by norm_cast
  have hle : N / 2 ^ s ≤ N := Nat.div_le_self _ _
  rw [e, num_dig]
  generalize N / 2 ^ s = M at *
  have h8 : 2 ^ (F - p) ≤ 2 ^ 8 := Nat.pow_le_pow_right (by omega) (by omega)
  have hb : M * 2 ^ (F - p) ≤ 4294967295 * 2 ^ 8 := Nat.mul_le_mul (by omega) h8
  rw [show (2 : Nat) ^ 8 = 256 from by decide] at hb
  have hw : wrap64 ((M * 2 ^ (F - p) : Nat) : Int) = ((M * 2 ^ (F - p) : Nat) : Int) := by unfold wrap64; omega
  rw [hw]
  have hkey : M * 2 ^ (F - p) % 256 = M % 2 ^ p * 2 ^ (F - p) := by
    rcases h with rfl | h
    · rw [show 256 = 2 ^ p * 2 ^ (8 - p) from by rw [← Nat.pow_add, show p + (8 - p) = 8 from by omega], Nat.mul_mod_mul_right]
    · rw [Nat.mod_eq_of_lt h, Nat.mod_eq_of_lt]
      have h1 : M * 2 ^ (F - p) < 2 ^ p * 2 ^ (F - p) := Nat.mul_lt_mul_of_pos_right h (Nat.pow_pos (by omega))
      rw [← Nat.pow_add, show p + (F - p) = F from by omega] at h1
      have h2 : 2 ^ F ≤ 2 ^ 8 := Nat.pow_le_pow_right (by omega) hF
      rw [show (2 : Nat) ^ 8 = 256 from by decide] at h2
      omega
  rw [← hkey]
  generalize M * 2 ^ (F - p) = K
  omega
theorem pstep {w X : World} {B g h cap W N L p F : Nat} {v : Value} {R Q : List Nat} {T : List UInt8} {b : UInt8}
    (hX : Blk X g 46 #[.slice (some ⟨h, 0, none⟩) (T.length + 1) cap, .int .i64 F]) (hown : X.ownsRow B 5 1 (.slice (some ⟨h, 0, none⟩) (T.length + 1) cap) (T.length + 1) (bc (T ++ [b])).toList)
    (ht : Touch w X (WS g v)) (hsep : Sep w v (.slice (some ⟨h, 0, none⟩) (T.length + 1) cap)) (hQ : R ++ dig (W - L) (N / 2 ^ L) = Q) (hbin : Bin Q) (hL : L ≤ W) (hp : p ≤ L) (hpF : p ≤ F) (hF8 : F ≤ 8)
    (htext : text (Q ++ dig p (N / 2 ^ (L - p))) = T ++ [UInt8.ofNat (b.toNat + num (dig p (N / 2 ^ (L - p))) * 2 ^ (F - p))]) (hfr : fr (Q ++ dig p (N / 2 ^ (L - p))) = F - p) (hb : b.toNat % 2 ^ F = 0)
    (hat : L - p = 0 ∨ F - p = 0) (f y : Int) (hf : f = ((F - p : Nat) : Int)) (hy : y = ((num (dig p (N / 2 ^ (L - p))) * 2 ^ (F - p) : Nat) : Int)) :
    PInv w ((X.setCell ⟨g, 1, none⟩ (.int .i64 f)).setCell ⟨h, T.length, none⟩ (.int .u8 (bits .or .u8 (b.toNat : Int) y))).drew B g v R W N (L - p) (.slice (some ⟨h, 0, none⟩) (T.length + 1) cap) := by
  have hne : h ≠ g := fun e => owns_apart hown hX (by decide) (by rw [e]; rfl)
  have hd := dig_on R W N L p hL hp
  rw [hQ] at hd
  have hPl : num (dig p (N / 2 ^ (L - p))) < 2 ^ p := by
    have := num_lt (dig_bin p (N / 2 ^ (L - p)))
    rwa [dig_length] at this
  have hlt : num (dig p (N / 2 ^ (L - p))) * 2 ^ (F - p) < 2 ^ F := by
    have h1 : num (dig p (N / 2 ^ (L - p))) * 2 ^ (F - p) < 2 ^ p * 2 ^ (F - p) := Nat.mul_lt_mul_of_pos_right hPl (Nat.pow_pos (by omega))
    rwa [← Nat.pow_add, show p + (F - p) = F from by omega] at h1
  subst hf
  subst hy
  rw [or_u8 b.toNat _ F hb hlt (u8_lt b) hF8]
  have hs : b.toNat + num (dig p (N / 2 ^ (L - p))) * 2 ^ (F - p) < 256 := by
    have hp' : 0 < 2 ^ F := Nat.pow_pos (by omega)
    have h1 : b.toNat = b.toNat / 2 ^ F * 2 ^ F := by have := Nat.div_add_mod b.toNat (2 ^ F); rw [hb, Nat.mul_comm] at this; omega
    have h2 : 256 = 2 ^ (8 - F) * 2 ^ F := by rw [← Nat.pow_add, show 8 - F + F = 8 from by omega]
    have h3 : b.toNat / 2 ^ F < 2 ^ (8 - F) := by
      rw [Nat.div_lt_iff_lt_mul hp', ← h2]
      exact u8_lt b
    have h4 : (b.toNat / 2 ^ F + 1) * 2 ^ F ≤ 2 ^ (8 - F) * 2 ^ F := Nat.mul_le_mul_right _ h3
    rw [Nat.add_mul, ← h2, Nat.one_mul] at h4
    omega
  have hbn : ((b.toNat + num (dig p (N / 2 ^ (L - p))) * 2 ^ (F - p) : Nat) : Int) = ((UInt8.ofNat (b.toNat + num (dig p (N / 2 ^ (L - p))) * 2 ^ (F - p))).toNat : Int) := by rw [u8_ofNat _ hs]
  rw [hbn]
  have hB1 : Blk (X.setCell ⟨g, 1, none⟩ (.int .i64 ((F - p : Nat) : Int))) g 46 #[.slice (some ⟨h, 0, none⟩) (T.length + 1) cap, .int .i64 ((F - p : Nat) : Int)] := hX.set_ 1 _
  have hO1 : (X.setCell ⟨g, 1, none⟩ (.int .i64 ((F - p : Nat) : Int))).ownsRow B 5 1 (.slice (some ⟨h, 0, none⟩) (T.length + 1) cap) (T.length + 1) (bc (T ++ [b])).toList :=
    owns_touch hown ((Touch.refl X (fun k => k = g)).set (Or.inl rfl) _) (fun k hk e => by injection hk with hk; simp only at hk; omega)
  have hO2 := (hO1.stored T.length (.int .u8 ((UInt8.ofNat (b.toNat + num (dig p (N / 2 ^ (L - p))) * 2 ^ (F - p))).toNat : Int))).1
  rw [bc_last] at hO2
  refine ⟨⟨?_, ?_, ?_⟩, ?_, hsep, ?_⟩
  · rw [hd, hfr]
    exact (hB1.far (p := ⟨h, T.length, none⟩) (fun e => hne e.symm) _).drew
  · rw [hd, htext, List.length_append]
    exact hO2
  · rw [hd]
    exact hbin.app (dig_bin _ _)
  · have h1 := (ht.set (p := ⟨g, 1, none⟩) (Or.inl (Or.inl rfl)) (.int .i64 ((F - p : Nat) : Int)))
    have h2 := h1.set (p := ⟨h, T.length, none⟩) (by
      rcases hsep h rfl with e | e
      · exact Or.inl (Or.inr e)
      · exact Or.inr e) (.int .u8 ((UInt8.ofNat (b.toNat + num (dig p (N / 2 ^ (L - p))) * 2 ^ (F - p))).toNat : Int))
    exact h2.drewN 1
  · rw [hd, hfr]
    rcases hat with e | e
    · exact Or.inr (Or.inl e)
    · exact Or.inr (Or.inr e)
set_option maxRecDepth 100000 in
set_option maxHeartbeats 4000000 in
theorem put_yes (B g W N : Nat) (v : Value) (R : List Nat) (w : World) (hW : W ≤ 32) (hN : N < 2 ^ W) (hH : WHold w B g v R) (hB : B ≤ w.heap.size) (hR : R.length ≤ 1099511627776) :
    Calls Try.prog 44 #[.pointer (some ⟨g, 0, none⟩), .int .i64 N, .int .i64 W] w fun e w' => e = .returned (.int .i64 0) ∧ ∃ v', WHold w' B g v' (R ++ dig W N) ∧ Touch w w' (WS g v) ∧ Sep w v v' := by
  obtain ⟨i0, hi, hz0, hz1, hz2⟩ := info_parts bbyte_info
  have hfit : fits N W := ⟨by omega, by omega, by omega, by exact_mod_cast hN⟩
  have HI0 : Hid (PInv w w B g v R W N W v) := Lib.hid ⟨by rw [Nat.sub_self]; simpa [dig] using hH, Touch.refl _ _, fun k hk => Or.inl hk, Or.inl rfl⟩
  have HN := Lib.hid hN
  have HR := Lib.hid hR
  have HB := Lib.hid hB
  have Hfit := Lib.hid hfit
  clear hN hH hR hB hfit
  go_enter Try.func44, Try.ntmps44
  go_wp2_with (go_at_call 65; refine (bfits_yes N W _ Hfit.out).mono ?_; rintro e w1 ⟨rfl, rfl⟩)
  go_loopw [7] (fun i wr => ∃ (L : Nat) (v' : Value), L ≤ W ∧ i = .int .i64 L ∧ Hid (PInv w wr B g v R W N L v')) (fun i _ => (intOf i).toNat)
  case atStart => exact ⟨W, v, Nat.le_refl _, rfl, HI0.out⟩
  case round =>
    obtain ⟨L, v', hL, rfl, HI⟩ := hrel
    by_cases hlt : 0 < L
    · have hLi : (0 : Int) < L := by omega
      have hL32 : (L : Int) ≤ 32 := by omega
      obtain ⟨c1, c2, z1, z2⟩ := HI.out.hold.1.two
      have hgl := HI.out.hold.1.lt
      generalize hQ : R ++ dig (W - L) (N / 2 ^ L) = Q at *
      have hown := HI.out.hold.2.1
      have hbin := HI.out.hold.2.2
      rw [hQ] at hown hbin
      have Hown := Lib.hid hown
      have Hbin := Lib.hid hbin
      have Hlen : Hid ((text Q).length ≤ 1099511627780) := Lib.hid (by
        have := HR.out
        rw [text_length, ← hQ, List.length_append, dig_length]
        omega)
      have HQ := Lib.hid hQ
      clear hown hbin hQ
      have HN32 : Hid (N < 4294967296) := Lib.hid (by
        have h1 := HN.out
        have h2 : 2 ^ W ≤ 2 ^ 32 := Nat.pow_le_pow_right (by omega) hW
        rw [show (2 : Nat) ^ 32 = 4294967296 from by decide] at h2
        omega)
      by_cases hf : fr Q = 0
      · have c2' : wr.cell? ⟨g, 1, none⟩ = some (.int .i64 0) := by rw [c2, hf]; rfl
        have Hf := Lib.hid hf
        clear hf c2
        go_wp2_with (at_builtin; refine wpList_append_sep _ rfl _ _ 44 rfl B 5 i0 (.int .u8 0) 1 1 Try.underlying44 hi hz0 hz1 hz2 rfl (by decide) _ _ _ rfl (Hown.out.alloc _) _ 1 1 _ _ rfl (reads_new wr 5 #[.int .u8 0] 1 1 rfl) ?c1 ?c2 ?c3 ?c4 ?_)
        case c1 =>
          exact rfl
        case c2 => have := Hlen.out; unfold maxLen; omega
        case c3 => have := Hlen.out; omega
        case c4 =>
          have h3 := HB.out
          have h4 := HI.out.touch.size
          simp only [World.size_alloc]
          omega
        intro v2 w2 hown2 hgrow hsep
        obtain ⟨h, cap, rfl, hBh, hcap, hhl⟩ := owns_some hown2 (by omega)
        have hbw := (HI.out.hold.1.alloc (.cells #[.int .u8 0] 5)).grow' hgrow (fun e => owns_apart Hown.out HI.out.hold.1 (by decide) e)
        have d1 : ¬ h = g := fun e => owns_apart hown2 hbw (by decide) (by rw [e]; rfl)
        have d2 : ¬ g = h := fun e => d1 e.symm
        have hX : Blk ((w2.setCell ⟨g, 0, none⟩ (.slice (some ⟨h, 0, none⟩) ((text Q).length + 1) cap)).setCell ⟨g, 1, none⟩ (.int .i64 8)) g 46 #[.slice (some ⟨h, 0, none⟩) ((text Q).length + 1) cap, .int .i64 ((8 : Nat) : Int)] := (hbw.set_ 0 _).set_ 1 _
        have hownX : ((w2.setCell ⟨g, 0, none⟩ (.slice (some ⟨h, 0, none⟩) ((text Q).length + 1) cap)).setCell ⟨g, 1, none⟩ (.int .i64 8)).ownsRow B 5 1 (.slice (some ⟨h, 0, none⟩) ((text Q).length + 1) cap) ((text Q).length + 1) (bc (text Q ++ [0])).toList := by
          have h1 := owns_touch hown2 (((Touch.refl w2 (fun k => k = g)).set (p := ⟨g, 0, none⟩) (Or.inl rfl) (.slice (some ⟨h, 0, none⟩) ((text Q).length + 1) cap)).set (p := ⟨g, 1, none⟩) (Or.inl rfl) (.int .i64 8)) (fun k hk e => by injection hk with hk; simp only at hk; omega)
          simpa [bc] using h1
        have htX : Touch w ((w2.setCell ⟨g, 0, none⟩ (.slice (some ⟨h, 0, none⟩) ((text Q).length + 1) cap)).setCell ⟨g, 1, none⟩ (.int .i64 8)) (WS g v) := by
          have h1 := (HI.out.touch.alloc (.cells #[.int .u8 0] 5)).next (touch_grow hgrow) (fun k hk e => by
            rcases HI.out.sep k e.symm with e | e
            · exact Or.inr e
            · omega)
          exact (h1.set (p := ⟨g, 0, none⟩) (Or.inl (Or.inl rfl)) _).set (p := ⟨g, 1, none⟩) (Or.inl (Or.inl rfl)) _
        have hsX : Sep w v (.slice (some ⟨h, 0, none⟩) ((text Q).length + 1) cap) := fun k hk => by
          rcases hsep k hk with e | e
          · exact HI.out.sep k e
          · have h1 := HI.out.touch.size
            simp only [World.size_alloc] at e
            exact Or.inr (by omega)
        have c3 : w2.cell? ⟨h, (text Q).length, none⟩ = some (.int .u8 0) := by
          rw [hown2.cellAt _ (by omega), List.getElem?_append_right (by simp [bc])]
          simp [bc]
        have z3 : w2.frozen? ⟨h, (text Q).length, none⟩ = false := hown2.frozenAt _
        have z4 : w2.frozen? ⟨g, 0, none⟩ = false := hbw.frozen _
        have z5 : w2.frozen? ⟨g, 1, none⟩ = false := hbw.frozen _
        have hgl2 := hbw.lt
        have HX := Lib.hid hX
        have hXt := hX.two
        have HXt := Lib.hid hXt
        have HXc := Lib.hid (show _ ∧ _ from ⟨hownX.cellAt (text Q).length (by omega), hownX.frozenAt (text Q).length⟩)
        clear hXt
        have HownX := Lib.hid hownX
        have Hnew := Lib.hid (fun (p : Nat) (h0 : 0 < p) (h8 : p ≤ 8) (hpL : p ≤ L) (hat : L - p = 0 ∨ 8 - p = 0) (f y : Int) (hf : f = ((8 - p : Nat) : Int)) (hy : y = ((num (dig p (N / 2 ^ (L - p))) * 2 ^ (8 - p) : Nat) : Int)) =>
          pstep (w := w) (v := v) (b := 0) hX hownX htX hsX HQ.out Hbin.out hL hpL h8 (by omega)
            (by
              have := text_new Q (dig p (N / 2 ^ (L - p))) Hf.out (by rw [dig_length]; omega) (by rw [dig_length]; omega)
              rw [dig_length] at this
              rw [this, show (0 : UInt8).toNat = 0 from rfl, Nat.zero_add])
            (by rw [fr_new Q _ Hf.out (by rw [dig_length]; omega) (by rw [dig_length]; omega), dig_length]) (by decide) hat f y hf hy)
        have htm : ((text Q).length : Int) ≤ 1099511627780 := by have := Hlen.out; omega
        have hbq := hbw.two
        obtain ⟨q1, q2, _, _⟩ := hbq
        clear hX hownX htX hsX hsep hgrow hown2 hbw c1 c2' z1 z2 hgl
        generalize hTT : text Q = T at *
        have HTT := Lib.hid hTT
        clear hTT
        by_cases hFL : 8 < L
        · have hL8 : (8 : Int) < L := by omega
          go_wp2
          generalize (w2.setCell ⟨g, 0, none⟩ (.slice (some ⟨h, 0, none⟩) (T.length + 1) cap)).setCell ⟨g, 1, none⟩ (.int .i64 8) = X at *
          obtain ⟨y1, y2, y3, y4⟩ := HXt.out
          obtain ⟨y5, y6⟩ := HXc.out
          replace y2 : X.cell? ⟨g, 1, none⟩ = some (.int .i64 8) := y2
          rw [show ((bc (T ++ [0])).toList[T.length]?) = some (.int .u8 0) from by simp [bc]] at y5
          have hwt : IntKind.i64.wrap (T.length : Int) = T.length := by rw [IntKind.wrap_i64]; omega
          have ht0 : 0 ≤ (T.length : Int) ∧ (T.length : Int) < T.length + 1 := by omega
          refine wp_region_still_tail 23 (by kernel_rfl) (by kernel_rfl) ?_
          simp only [List.take_succ_cons, List.take_zero, List.drop_succ_cons, List.drop_zero]
          change wpStill _ _ (World.drew _) (fun a' => wpList _ _ _ _ a' (World.drew _)) _ _
          repeat still_step
          refine wpStill_nil ?_
          go_wp2
          go_roundw
          case rel => exact ⟨L - 8, _, by omega, iv (by omega), Hnew.out 8 (by omega) (by omega) (by omega) (Or.inr rfl) _ _ rfl (by
            have := yval N (L - 8) 8 8 HN32.out (by omega) (by omega) (Or.inl rfl)
            simpa using this)⟩
          case measure => (simp [intOf]; omega)
        · have hL8 : ¬ (8 : Int) < L := by omega
          go_wp2
          generalize (w2.setCell ⟨g, 0, none⟩ (.slice (some ⟨h, 0, none⟩) (T.length + 1) cap)).setCell ⟨g, 1, none⟩ (.int .i64 8) = X at *
          obtain ⟨y1, y2, y3, y4⟩ := HXt.out
          obtain ⟨y5, y6⟩ := HXc.out
          replace y2 : X.cell? ⟨g, 1, none⟩ = some (.int .i64 8) := y2
          rw [show ((bc (T ++ [0])).toList[T.length]?) = some (.int .u8 0) from by simp [bc]] at y5
          have hwt : IntKind.i64.wrap (T.length : Int) = T.length := by rw [IntKind.wrap_i64]; omega
          have ht0 : 0 ≤ (T.length : Int) ∧ (T.length : Int) < T.length + 1 := by omega
          refine wp_region_still_tail 23 (by kernel_rfl) (by kernel_rfl) ?_
          simp only [List.take_succ_cons, List.take_zero, List.drop_succ_cons, List.drop_zero]
          change wpStill _ _ (World.drew _) (fun a' => wpList _ _ _ _ a' (World.drew _)) _ _
          repeat still_step
          refine wpStill_nil ?_
          go_wp2
          go_roundw
          case rel => exact ⟨L - L, _, by omega, iv (by omega), Hnew.out L (by omega) (by omega) (by omega) (Or.inl (Nat.sub_self L)) _ _ (by omega) (by
            have := yval N (L - L) L 8 HN32.out (by omega) (by omega) (Or.inl rfl)
            simpa using this)⟩
          case measure => (simp [intOf]; omega)
      · have hF1 : ¬ (fr Q : Int) = 0 := by omega
        have hF8 : (fr Q : Int) < 8 := by have := fr_lt Q; omega
        obtain ⟨h, cap, hv', hBh, hcap, hhl⟩ := owns_some Hown.out (by
          obtain ⟨T, b, e, _⟩ := text_more Q [] (fr Q) rfl (by omega) Hbin.out (by simp)
          rw [e]
          simp)
        subst hv'
        have hLW : L = W := by
          rcases HI.out.at_ with e | e | e
          · exact e
          · omega
          · rw [HQ.out] at e
            exact absurd e hf
        have Hf := Lib.hid hf
        clear hf
        have d1 : ¬ h = g := fun e => owns_apart Hown.out HI.out.hold.1 (by decide) (by rw [e]; rfl)
        have d2 : ¬ g = h := fun e => d1 e.symm
        obtain ⟨p, hp⟩ : ∃ p, p = min L (fr Q) := ⟨_, rfl⟩
        obtain ⟨T, b, hT, htx, hbm⟩ := text_more Q (dig p (N / 2 ^ (L - p))) (fr Q) rfl (by have := Hf.out; omega) Hbin.out (by rw [dig_length]; omega)
        have hfrQ := fr_app Q (dig p (N / 2 ^ (L - p))) (by rw [dig_length]; omega)
        rw [dig_length] at htx hfrQ
        have hTl : (text Q).length = T.length + 1 := by rw [hT]; simp
        have c3 : wr.cell? ⟨h, T.length, none⟩ = some (.int .u8 (b.toNat : Int)) := by
          rw [Hown.out.cellAt _ (by omega), hT]
          simp [bc]
        have z3 : wr.frozen? ⟨h, T.length, none⟩ = false := Hown.out.frozenAt _
        have hown3 := Hown.out
        rw [hTl, hT] at hown3
        have hX := HI.out.hold.1
        rw [HQ.out, hTl] at hX
        rw [hTl] at c1
        have hsX := HI.out.sep
        rw [hTl] at hsX
        have hTm : (T.length : Int) ≤ 1099511627780 := by have := Hlen.out; omega
        have hsmall : N / 2 ^ (L - p) < 2 ^ p := by
          rw [Nat.div_lt_iff_lt_mul (Nat.pow_pos (by omega)), ← Nat.pow_add, show p + (L - p) = L from by omega, hLW]
          exact HN.out
        have Hy := Lib.hid (yval N (L - p) p (fr Q) HN32.out (by have := fr_lt Q; omega) (by omega) (Or.inr hsmall))
        have Hstep := Lib.hid (fun (f y : Int) (hf : f = ((fr Q - p : Nat) : Int)) (hy : y = ((num (dig p (N / 2 ^ (L - p))) * 2 ^ (fr Q - p) : Nat) : Int)) =>
          pstep (w := w) (v := v) hX hown3 HI.out.touch hsX HQ.out Hbin.out hL (by omega) (by omega) (by have := fr_lt Q; omega) htx hfrQ hbm (by omega) f y hf hy)
        clear hT hTl hown3 hX hsX hsmall htx hfrQ hbm
        generalize hFF : fr Q = F at *
        have HFF := Lib.hid hFF
        generalize (b.toNat : Int) = bv at *
        clear hFF
        have Hp := Lib.hid hp
        clear hp
        have HLW := Lib.hid hLW
        clear hLW
        by_cases hFL : F < L
        · obtain rfl : p = F := by have := Hp.out; omega
          go_wp2
          have hwt : IntKind.i64.wrap (T.length : Int) = T.length := by rw [IntKind.wrap_i64]; omega
          have ht0 : 0 ≤ (T.length : Int) ∧ (T.length : Int) < T.length + 1 := by omega
          refine wp_region_still_tail 23 (by kernel_rfl) (by kernel_rfl) ?_
          simp only [List.take_succ_cons, List.take_zero, List.drop_succ_cons, List.drop_zero]
          change wpStill _ _ (World.drew _) (fun a' => wpList _ _ _ _ a' (World.drew _)) _ _
          repeat still_step
          refine wpStill_nil ?_
          go_wp2
          go_roundw
          case rel => exact ⟨L - p, _, by omega, iv (by omega), Hstep.out _ _ (by omega) (by
            have := Hy.out
            simpa using this)⟩
          case measure => (simp [intOf]; have := Hf.out; omega)
        · obtain rfl : p = L := by have := Hp.out; omega
          go_wp2
          have hwt : IntKind.i64.wrap (T.length : Int) = T.length := by rw [IntKind.wrap_i64]; omega
          have ht0 : 0 ≤ (T.length : Int) ∧ (T.length : Int) < T.length + 1 := by omega
          refine wp_region_still_tail 23 (by kernel_rfl) (by kernel_rfl) ?_
          simp only [List.take_succ_cons, List.take_zero, List.drop_succ_cons, List.drop_zero]
          change wpStill _ _ (World.drew _) (fun a' => wpList _ _ _ _ a' (World.drew _)) _ _
          repeat still_step
          refine wpStill_nil ?_
          go_wp2
          go_roundw
          case rel => exact ⟨p - p, _, by omega, iv (by omega), Hstep.out _ _ (by omega) (by
            have := Hy.out
            simpa using this)⟩
          case measure => (simp [intOf]; omega)
    · obtain rfl : L = 0 := by omega
      have hend := HI.out
      go_wp2
      go_ret
      refine ⟨rfl, v', ?_, hend.touch, hend.sep⟩
      have h1 := hend.hold
      simpa using h1
end Go.Proofs.Ytpocpckhcciecaa
namespace Go.Proofs.Ytpocpckhcciecaa
set_option linter.unusedSimpArgs false
set_option linter.unusedVariables false
open Go.ChangeShapes Go.WideShapes Go.ChangeAt Go.RowKit Go.Joins Go.Deep
theorem Sep.trans {w w1 : World} {v v1 v2 : Value} (h : Sep w v v1) (k : Sep w1 v1 v2) (hs : w.heap.size ≤ w1.heap.size) : Sep w v v2 := fun i hi => by
  rcases k i hi with e | e
  · exact h i e
  · exact Or.inr (by omega)
theorem touch_ws {w w1 w2 : World} {g : Nat} {v v1 : Value} (h : Touch w w1 (WS g v)) (k : Touch w1 w2 (WS g v1)) (hs : Sep w v v1) : Touch w w2 (WS g v) :=
  h.next k fun i hi e => by
    rcases e with e | e
    · exact Or.inl e
    · rcases hs i e with e | e
      · exact Or.inr e
      · omega
theorem bput_is (B g : Nat) (n width : Int) (v : Value) (R : List Nat) (w : World) (hf : fits n width) (hH : WHold w B g v R) (hB : B ≤ w.heap.size) (hR : R.length ≤ 1099511627776) :
    Calls Try.prog 44 #[.pointer (some ⟨g, 0, none⟩), .int .i64 n, .int .i64 width] w fun e w' => e = .returned (.int .i64 0) ∧ ∃ v', WHold w' B g v' (R ++ digI n width) ∧ Touch w w' (WS g v) ∧ Sep w v v' := by
  obtain ⟨h1, h2, h3, h4⟩ := hf
  obtain ⟨W, rfl⟩ := Int.eq_ofNat_of_zero_le h1
  obtain ⟨N, rfl⟩ := Int.eq_ofNat_of_zero_le h3
  exact put_yes B g W N v R w (by omega) (by simp only [Int.toNat_natCast] at h4; exact_mod_cast h4) hH hB hR
end Go.Proofs.Ytpocpckhcciecaa
