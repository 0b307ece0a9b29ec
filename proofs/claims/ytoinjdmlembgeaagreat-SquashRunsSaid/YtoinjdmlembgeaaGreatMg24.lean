/-
 What the law of the last of these texts stands on, part 24.
-/
import Derived.Test.YtoinjdmlembgeaaGreatMg21
namespace Go.Proofs.YtoinjdmlembgeaaGreat
set_option linter.unusedSimpArgs false
set_option linter.unusedVariables false
open Go.ChangeShapes Go.WideShapes Go.ChangeAt Go.RowKit Go.Joins Go.Deep
def hd : Nat → Nat → List UInt8
 | 0, _ => []
 | f + 1, n => UInt8.ofNat (128 + n % 128) :: hd f (n / 128)
theorem yfa : ∀ f n, (hd f n).length = f
 | 0, _ => rfl
 | f + 1, n => by simp [hd, yfa f]
theorem hd_snoc : ∀ f n, hd (f + 1) n = hd f n ++ [UInt8.ofNat (128 + n / 128 ^ f % 128)]
 | 0, n => by simp [hd]
 | f + 1, n => by
  have := hd_snoc f (n / 128)
  rw [hd, this, hd, Nat.div_div_eq_div_mul, Nat.pow_succ, Nat.mul_comm 128]
  rfl
theorem dg_hd : ∀ f n, n < 128 ^ (f + 1) → ∃ j, j ≤ f ∧ dg (f + 1) n = hd j n ++ [UInt8.ofNat (n / 128 ^ j)] ∧ n / 128 ^ j < 128
 | f, n, h => by
  by_cases h1 : n < 128
  ·exact ⟨0, by omega, by simp [dg, h1, hd], by simpa using h1⟩
  ·cases f with
   | zero => simp at h; omega
   | succ f =>
    have hdiv : n / 128 < 128 ^ (f + 1) := by rw [Nat.div_lt_iff_lt_mul (by omega)]; rw [Nat.pow_succ] at h; exact h
    obtain ⟨j, hj, e, hq⟩ := dg_hd f (n / 128) hdiv
    have e2 : n / 128 / 128 ^ j = n / 128 ^ (j + 1) := by rw [Nat.div_div_eq_div_mul, Nat.pow_succ, Nat.mul_comm 128]
    rw [e2] at e hq
    refine ⟨j + 1, by omega, ?_, hq⟩
    rw [dg, if_neg h1, e]
    rfl
theorem byte_info : (Tryz.prog.info? 5).map (fun i => (i.zero, i.size, i.bytes)) = some (some (.int .u8 0), 1, 1) := by kernel_rfl
set_option maxRecDepth 100000 in
set_option maxHeartbeats 1000000 in
theorem lay_any (n N : Nat) (pre mid post : List UInt8) (g : Nat) (w : World) (hn : n < 9223372036854775808) (hm : mid.length = (dg 9 n).length) (hN : pre.length + mid.length + post.length = N) (hB : Blk w g 5 (bc (pre ++ (mid ++ post)))) (hmax : N ≤ 4611686018427387904) :
  Calls Tryz.prog 71 #[.slice (some ⟨g, 0, none⟩) N N, .int .i64 pre.length, .int .i64 n] w fun e w' => e = .returned (.int .i64 ((pre.length + (dg 9 n).length : Nat) : Int)) ∧ Blk w' g 5 (bc (pre ++ (dg 9 n ++ post))) ∧ Below g w w' := by
 obtain ⟨i0, hi, hz0, hz1, hz2⟩ := info_parts byte_info
 obtain ⟨j, hj, hdg, hq⟩ := dg_hd 8 n (by rw [← pow9] at hn; exact hn)
 have hL : (dg 9 n).length = j + 1 := by rw [hdg]; simp [yfa]
 have hsz : sizeF (n : Int) = (j : Int) + 1 := by unfold sizeF; rw [yec (by omega), Int.toNat_natCast, hL]; rfl
 have hsl : ∀ W : World, (Instr.slice 36 (.slice (some ⟨g, 0, none⟩) N N) (some (.int .i64 (pre.length : Int))) (some (.int .i64 ((pre.length : Int) + ((j : Int) + 1)))) (some (.int .i64 ((pre.length : Int) + ((j : Int) + 1))))).run Tryz.prog W = .ok (.slice (some ⟨g, pre.length, none⟩) (j + 1) (j + 1)) W := fun W => by
  have := yhl (P := Tryz.prog) Tryz.underlying36 hi hz1 g 0 N N pre.length (pre.length + (j + 1)) (by omega) (by omega) W
  rw [Int.natCast_add, Int.natCast_add, show pre.length + (j + 1) - pre.length = j + 1 from by omega, Nat.zero_add] at this
  exact this
 have e9 : (dg 9 n) = hd j n ++ [UInt8.ofNat (n / 128 ^ j)] := hdg
 rw [hL] at hm ⊢
 rw [e9]
 have hn' : (n : Int) < 9223372036854775808 := by omega
 have hmaxp : pre.length + (j + 1) ≤ 4611686018427387904 := by omega
 have Hq := Lib.hid hq
 have Hm := Lib.hid hm
 have HB := Lib.hid hB
 clear hdg hq hL e9 hn hm hB hz0 hz1 hz2 hi
 generalize hP : pre.length = P0 at *
 have HP := Lib.hid hP
 clear hP
 go_enter Tryz.func71, Tryz.ntmps71
 go_wp2_with (refine (size_any (n : Int) _ hn').mono ?_; rintro e w1 ⟨rfl, rfl⟩; rw [hsz])
 go_loopw [2, 21] (fun s i wr => ∃ k x : Nat, k ≤ j + 1 ∧ i = .int .i64 k ∧ s = .int .i64 x ∧ (x : Int) < 9223372036854775808 ∧ Hid (x = n / 128 ^ k) ∧ Hid (Blk wr g 5 (bc (pre ++ (hd k n ++ (mid.drop k ++ post))))) ∧ Hid (Below g w wr)) (fun _ i _ => 20 - (intOf i).toNat)
 case atStart => exact ⟨0, n, by omega, rfl, rfl, hn', by show n = n / 1; omega, HB.out, Below.refl _ _⟩
 case round =>
  obtain ⟨k, x, hk, rfl, rfl, hx, Hx, HBk, Hb⟩ := hrel
  by_cases hlt : k < j + 1
  ·obtain ⟨b, hb⟩ : ∃ b, mid.drop k = b :: mid.drop (k + 1) := ⟨mid[k]'(by have := Hm.out; omega), List.drop_eq_getElem_cons (by have := Hm.out; omega)⟩
   have hlen : (pre ++ hd k n).length = P0 + k := by rw [List.length_append, HP.out, yfa]
   have hg : wr.cell? ⟨g, P0 + k, none⟩ = some (.int .u8 (b.toNat : Int)) := ycO HBk.out (by
    rw [← List.append_assoc, List.getElem?_append_right (by omega), hlen, hb]
    simp)
   have hf : wr.frozen? ⟨g, P0 + k, none⟩ = false := HBk.out.frozen _
   have hglt := HBk.out.lt
   have Hlen := Lib.hid hlen
   have Hbb := Lib.hid hb
   clear hlen hb hsl hsz
   generalize hbv : (b.toNat : Int) = bv at hg
   clear hbv
   have hx0 : (0 : Int) ≤ x := by omega
   have hkk : (k : Int) < (j : Int) + 1 := by omega
   go_wp2
   go_roundw
   case rel =>
    have hx' : x = n / 128 ^ k := Hx.out
    have hb := Hb.out
    have hval : ((UInt8.ofNat (128 + x % 128)).toNat : Int) = (x : Int) % 128 + 128 := by rw [ya0 _ (by omega)]; omega
    have hnew := HBk.out.set_ (P0 + k) (.int .u8 ((UInt8.ofNat (128 + x % 128)).toNat : Int))
    rw [Hbb.out, ← List.append_assoc, List.cons_append, ← Hlen.out, bc_set, hval, Hlen.out] at hnew
    refine ⟨k + 1, x / 128, by omega, iv (by omega), iv (by omega), by omega, ?_, ?_, by show Below g w _; go_grown⟩
    ·show x / 128 = n / 128 ^ (k + 1)
     rw [hx', Nat.div_div_eq_div_mul, Nat.pow_succ]
    ·show Blk _ g _ _
     rw [hd_snoc, ← hx']
     simpa using hnew
   case measure => simp [intOf]; omega
  ·obtain rfl : k = j + 1 := by omega
   have hdrop : mid.drop (j + 1) = [] := List.drop_eq_nil_of_le (by have := Hm.out; omega)
   have hblk : Blk wr g 5 (bc ((pre ++ hd j n) ++ UInt8.ofNat (128 + n / 128 ^ j % 128) :: post)) := by
    have := HBk.out
    rw [hdrop, hd_snoc] at this
    simpa using this
   have hlen : (pre ++ hd j n).length = P0 + j := by rw [List.length_append, HP.out, yfa]
   have hq := Hq.out
   generalize hqq : n / 128 ^ j = q at *
   have hg : wr.cell? ⟨g, P0 + j, none⟩ = some (.int .u8 ((q : Int) + 128)) := by
    rw [ycO hblk (b := UInt8.ofNat (128 + q % 128)) (by rw [List.getElem?_append_right (by omega), hlen]; simp), ya0 _ (by omega)]
    congr 2
    omega
   have hf : wr.frozen? ⟨g, P0 + j, none⟩ = false := hblk.frozen _
   have hglt := hblk.lt
   have hnew := hblk.set_ (P0 + j) (.int .u8 ((UInt8.ofNat q).toNat : Int))
   rw [← hlen, bc_set, ya0 _ (by omega), hlen] at hnew
   have Hnew := Lib.hid hnew
   clear hnew hblk hdrop hlen hsl hsz Hx HBk HB
   have hj0 : (0 : Int) ≤ j := by omega
   have hq0 : (0 : Int) ≤ q := by omega
   have hq128 : (q : Int) < 128 := by omega
   have Hqq := Lib.hid hqq
   have Hq2 := Hq.out
   clear hq hqq Hq2
   go_wp2
   go_ret
   have hb := Hb.out
   refine ⟨congrArg Ending.returned (iv (by omega)), ?_, by go_grown⟩
   rw [Hqq.out]
   simpa using Hnew.out
theorem run_make_bytes (n : Nat) (h : n ≤ 281474976710656) (w : World) :
  (Instr.makeSlice 36 (.int .i64 (n : Int)) (.int .i64 (n : Int))).run Tryz.prog w = .ok (.slice (some ⟨w.heap.size, 0, none⟩) n n) (w.alloc (.cells (bc (List.replicate n 0)) 5)) := by
 rw [← bc_zero]
 exact run_make_row' (P := Tryz.prog) 36 5 (.int .u8 0) 1 Tryz.underlying36 byte_info rfl .i64 .i64 n (by omega) (by omega) w
theorem run_str (w : World) (g n c : Nat) (t : TypeId) (l : List UInt8) (hn : l.length = n) (h : Blk w g t (bc l)) :
  (convert 36 9 (.slice (some ⟨g, 0, none⟩) n c)).run Tryz.prog w = .ok (.string ⟨l.toArray⟩) w :=
 ycN Tryz.underlying36 Tryz.underlying5 Tryz.underlying9 w g 0 c l n hn fun j b hj => by rw [Nat.zero_add]; exact ycO h hj
def yhM (l : List UInt8) (e : Int) : Value := .tuple #[.string ⟨l.toArray⟩, .int .i64 e]
set_option maxRecDepth 100000 in
theorem put_any (n : Int) (w : World) (h : n < 9223372036854775808) : Calls Tryz.prog 32 #[.int .i64 n] w fun e w' => e = .returned (yhM (putB n) (putE n)) ∧ Below w.heap.size w w' := by
 by_cases h0 : n < 0
 ·have e1 : putB n = [] := by simp [putB, h0]
  have e2 : putE n = 2 := by simp [putE, h0]
  rw [e1, e2]
  clear e1 e2
  go_enter Tryz.func32, Tryz.ntmps32
  go_wp2
  go_ret2
  exact ⟨rfl, by go_grown⟩
 ·obtain ⟨m, rfl⟩ := Int.eq_ofNat_of_zero_le (by omega : 0 ≤ n)
  have e1 : putB (m : Int) = dg 9 m := by rw [yec (by omega), Int.toNat_natCast]
  have e2 : putE (m : Int) = 0 := by unfold putE; rw [if_neg h0]
  have hsz : sizeF (m : Int) = ((dg 9 m).length : Int) := by unfold sizeF; rw [e1]
  have hle := dg_le 9 m
  rw [e1, e2]
  clear e1 e2
  have hmk := fun W : World => run_make_bytes (dg 9 m).length (by omega) W
  have hlay := fun W : World => fun hB => lay_any m (dg 9 m).length [] (List.replicate (dg 9 m).length 0) [] w.heap.size W (by omega) (by simp) (by simp) hB (by omega)
  have hstr := fun (W : World) => run_str W w.heap.size (dg 9 m).length (dg 9 m).length 5 (dg 9 m) rfl
  simp only [List.nil_append, List.append_nil, List.length_nil, Nat.zero_add] at hlay
  generalize dg 9 m = D at *
  generalize hDL : D.length = L at *
  have Hlay := Lib.hid hlay
  have Hstr := Lib.hid hstr
  clear hlay hstr
  go_enter Tryz.func32, Tryz.ntmps32
  go_wp2_with (first
   | (go_at_call 70; refine (size_any (m : Int) _ h).mono ?_; rintro e w1 ⟨rfl, rfl⟩; rw [hsz])
   | (go_at_call 71; refine (Hlay.out _ (Blk.new _ _ _)).mono ?_; rintro e w2 ⟨rfl, hB2, hb2⟩; have hcv := Hstr.out w2 hB2))
  go_ret2
  exact ⟨rfl, Below.trans (by go_grown) hb2⟩
theorem tmkfunc (fn : Fn) (first cap : Array Value) (w : World) : (Instr.makeFunc fn first cap).run Tryz.prog w = .ok (.func fn first cap) w := rfl
set_option maxRecDepth 100000 in
set_option maxHeartbeats 4000000 in
theorem p_tput_yes (B N0 g : Nat) (v : Value) (R : List Nat) (l : List Int) (A : Option Addr) (n c : Nat) (w : World) (hr : Reads w N0 1 A n (ints l)) (hg : N0 ≤ g ∧ N0 ≤ B) (h0 : yaw l = 0) (hH : WHold w B g v R) (hB : B ≤ w.heap.size) (hR : R.length ≤ 1000000000) (hc : n ≤ c) :
  Calls Tryz.prog 29 #[.pointer (some ⟨g, 0, none⟩), .slice A n c] w fun e w' => e = .returned (.int .i64 0) ∧ ∃ v', WHold w' B g v' (R ++ yav l) ∧ Touch w w' (WS g v) ∧ Sep w v v' := by
 obtain ⟨hl, hgd⟩ := ydt h0
 have en : l.length = n := by have := hr.1; rw [yab] at this; omega
 have hN0 : N0 ≤ w.heap.size := by have := hH.1.lt; omega
 have Hck := Lib.hid fun (W : World) (hW : Below w.heap.size w W) => yea l A n c W (by omega) ((hr.below (hW.mono hN0)).more (Nat.le_trans hN0 hW.size))
 rw [yf4, h0] at Hck
 have Heach := Lib.hid fun (W : World) (hW : Below w.heap.size w W) hP => teach_any B N0 g w.heap.size v R l A n c W (hr.below (hW.mono hN0)) hg hl (yaI hgd) hP (hH.below hW (Nat.le_refl _)) (Nat.le_trans hB hW.size) hR hc
 have Hb1 := Lib.hid fun o => (Below.refl w.heap.size w).alloc (Nat.le_refl _) o
 have Hnew := Lib.hid (Blk.new w 65 #[.pointer (some ⟨g, 0, none⟩)])
 have hmf := tmkfunc
 clear hr hg h0 hH hB hR hc hl hgd en hN0
 generalize R ++ yav l = R2 at *
 go_enter Tryz.func29, Tryz.ntmps29
 go_wp2_with (first
  | (go_at_call 64; refine (Hck.out _ (Hb1.out _)).mono ?_; rintro e w2 ⟨rfl, hb2⟩; have Hb2 := Lib.hid ((Hb1.out _).trans (hb2.mono (by simp))); have HP2 := Lib.hid (Hnew.out.below hb2 (by simp)); clear hb2)
  | (go_at_call 65; refine (Heach.out _ Hb2.out HP2.out).mono ?_; rintro e w3 ⟨⟨v3, rfl⟩, hp3⟩; have Hp3 := Lib.hid hp3; clear hp3))
 go_ret
 obtain ⟨v', g1, g2, g3⟩ := Hp3.out
 refine ⟨rfl, v', g1, (yak Hb2.out (Nat.le_refl _)).trans g2, fun k hk => ?_⟩
 rcases g3 k hk with e | e
 ·exact Or.inl e
 ·exact Or.inr (Nat.le_trans Hb2.out.size e)
theorem twriter_new (w : World) : WHold (w.alloc (.cells #[.slice none 0 0, .int .i64 0] 63)) w.heap.size w.heap.size (.slice none 0 0) [] := by
 refine ⟨by simpa [fr] using Blk.new w 63 #[.slice none 0 0, .int .i64 0], ?_, yfr⟩
 simpa [yck, bc] using World.ownsRow_nil (w.alloc (.cells #[.slice none 0 0, .int .i64 0] 63)) w.heap.size 5 1
theorem twriter_back {w W w' : World} {o : Obj} {v : Value} (hW : W = w.alloc o) (h : Touch W w' (WS w.heap.size v)) (hv : ∀ k, v.ownBlock = some k → w.heap.size ≤ k) : Below w.heap.size w w' := by
 subst hW
 refine ((Below.refl w.heap.size w).alloc (Nat.le_refl _) o).trans (h.below (fun k _ e => ?_) (by simp))
 rcases e with e | e
 ·omega
 ·exact hv k e
set_option maxRecDepth 100000 in
set_option maxHeartbeats 2000000 in
theorem tcheck1_any (lb nb M ol cv : Nat) (Av : Option Addr) (out : List Int) (x cnt last : Int) (W : World) (hol : out.length = ol) (hle : ol ≤ M) (hM : M ≤ 257) (hlast : (out = [] ∧ last = -1) ∨ out.getLast? = some last) (hx : 0 ≤ x)
  (c1 : W.cell? ⟨lb, 0, none⟩ = some (.slice Av ol cv)) (c2 : W.cell? ⟨nb, 0, none⟩ = some (.int .i64 (M : Int))) (hr : Reads W W.heap.size 1 Av ol (ints out)) :
  Calls Tryz.prog 123 #[.int .i64 x, .int .i64 cnt, .pointer (some ⟨lb, 0, none⟩), .pointer (some ⟨nb, 0, none⟩)] W fun e w' => e = .returned (.int .i64 (if x = last then 5 else if (M : Int) - ol < cnt then 40 else 0)) ∧ w' = W := by
 have hMi : (0 : Int) ≤ (ol : Int) ∧ (ol : Int) ≤ (M : Int) ∧ (M : Int) ≤ 257 := by omega
 rcases Nat.eq_zero_or_pos ol with h0 | h0
 ·subst h0
  have ho : out = [] := List.length_eq_zero_iff.1 hol
  have hl : last = -1 := by
   rcases hlast with h | h
   ·exact h.2
   ·rw [ho] at h; cases h
  rw [if_neg (by omega)]
  clear hlast hl hol ho hr hle hM
  by_cases hc : (M : Int) - ((0 : Nat) : Int) < cnt
  ·rw [if_pos hc]
   have hc2 : (M : Int) < cnt := by omega
   clear hc
   go_enter Tryz.func123, Tryz.ntmps123
   go_wp2
   go_ret
   exact ⟨rfl, rfl⟩
  ·rw [if_neg hc]
   have hc2 : ¬ (M : Int) < cnt := by omega
   clear hc
   go_enter Tryz.func123, Tryz.ntmps123
   go_wp2
   go_ret
   exact ⟨rfl, rfl⟩
 ·obtain ⟨p, hp⟩ : ∃ p, p + 1 = ol := ⟨ol - 1, by omega⟩
  have hpl : p < out.length := by omega
  have hlp : out[p] = last := by
   rcases hlast with h | h
   ·rw [h.1] at hpl; simp at hpl
   ·rw [List.getLast?_eq_getElem?, hol, show ol - 1 = p from by omega, List.getElem?_eq_getElem hpl] at h
    injection h
  obtain ⟨b, off, rfl, hb, hcell⟩ := hr.2 h0
  have x1 : W.cell? ⟨b, off + p, none⟩ = some (.int .i64 last) := by
   rw [← hlp]
   exact hcell p _ (yai out p hpl)
  have hpos : (0 : Int) < (ol : Int) := by omega
  have hsub : (ol : Int) - 1 = (p : Int) := by omega
  have hw1 : IntKind.i64.wrap ((ol : Int) - 1) = (p : Int) := by rw [IntKind.wrap_i64]; omega
  have hw2 : IntKind.i64.wrap (p : Int) = (p : Int) := by rw [IntKind.wrap_i64]; omega
  have hpi : (0 : Int) ≤ (p : Int) ∧ (p : Int) < (ol : Int) := by omega
  clear hlast hlp hpl hp hr hcell hol hle hM h0
  by_cases hxl : x = last
  ·rw [if_pos hxl]
   have hb1 : (last == x) = true := by simpa using hxl.symm
   clear hxl
   go_enter Tryz.func123, Tryz.ntmps123
   go_wp2
   go_ret
   exact ⟨rfl, rfl⟩
  ·rw [if_neg hxl]
   have hb1 : (last == x) = false := by simpa using fun h => hxl h.symm
   clear hxl
   by_cases hc : (M : Int) - (ol : Int) < cnt
   ·rw [if_pos hc]
    go_enter Tryz.func123, Tryz.ntmps123
    go_wp2
    go_ret
    exact ⟨rfl, rfl⟩
   ·rw [if_neg hc]
    go_enter Tryz.func123, Tryz.ntmps123
    go_wp2
    go_ret
    exact ⟨rfl, rfl⟩
structure TRd (w wr : World) (s : List UInt8) (g M to ol : Nat) (out : List Int) (Av : Option Addr) (cv : Nat) : Prop where
 rd : RHold wr g s to
 nbx : Blk wr w.heap.size 3 #[.int .i64 (M : Int)]
 lbx : Blk wr (w.heap.size + 1) 28 #[.slice Av ol cv]
 row : wr.ownsRow (w.heap.size + 2) 3 1 (.slice Av ol cv) ol (ints out)
 tch : Touch w wr (fun k => k = g)
 glt : g < w.heap.size
section
variable {w wr w2 : World} {s : List UInt8} {g M to ol : Nat} {out : List Int} {Av : Option Addr} {cv : Nat}
theorem TRd.below (T : TRd w wr s g M to ol out Av cv) (hb : Below wr.heap.size wr w2) : TRd w w2 s g M to ol out Av cv :=
 ⟨Blk.below T.rd hb (Blk.lt T.rd), T.nbx.below hb T.nbx.lt, T.lbx.below hb T.lbx.lt, yah T.row hb (Nat.le_refl _), T.tch.trans (yak hb (Nat.le_refl _)), T.glt⟩
theorem TRd.go (T : TRd w wr s g M to ol out Av cv) {to2 : Nat} (h : RHold w2 g s to2) (ht : Touch wr w2 (fun k => k = g)) : TRd w w2 s g M to2 ol out Av cv :=
 ⟨h, T.nbx.touch ht (by have := T.glt; omega), T.lbx.touch ht (by have := T.glt; omega), yaz T.row ht (fun k hk e => by have := (T.row.lt k hk).1; have := T.glt; omega), T.tch.trans ht, T.glt⟩
theorem TRd.drewN (T : TRd w wr s g M to ol out Av cv) (k : Nat) : TRd w (wr.drewN k) s g M to ol out Av cv := T.below (yaj (Below.refl _ _) k)
theorem TRd.reads (T : TRd w wr s g M to ol out Av cv) : Reads wr wr.heap.size 1 Av ol (ints out) ∧ ol ≤ cv := by
 obtain ⟨A, c, e, h1, h2⟩ := yae T.row
 injection e with e1 _ e2
 subst e1 e2
 exact ⟨h2, h1⟩
theorem TRd.app (T : TRd w wr s g M to ol out Av cv) {A2 : Option Addr} {N c2 : Nat} {ys : List Int} (ho : w2.ownsRow (w.heap.size + 2) 3 1 (.slice A2 N c2) N (ints out ++ ints ys)) (hg : wr.grownBy w2 (Value.slice Av ol cv).ownBlock) :
  w2.cell? ⟨w.heap.size + 1, 0, none⟩ = some (.slice Av ol cv) ∧ w2.frozen? ⟨w.heap.size + 1, 0, none⟩ = false ∧ TRd w (w2.setCell ⟨w.heap.size + 1, 0, none⟩ (.slice A2 N c2)) s g M to N (out ++ ys) A2 c2 := by
 have hown : ∀ k, (Value.slice Av ol cv).ownBlock = some k → w.heap.size + 2 ≤ k := fun k hk => (T.row.lt k hk).1
 have hne : ∀ k, k < w.heap.size + 2 → (Value.slice Av ol cv).ownBlock ≠ some k := fun k hk e => by have := hown k e; omega
 have h1 := T.lbx.grow' hg (hne _ (by omega))
 have h2 := T.nbx.grow' hg (hne _ (by omega))
 have h3 := Blk.grow' T.rd hg (hne _ (by have := T.glt; omega))
 have ht := yaq hg
 refine ⟨h1.cell 0, h1.frozen 0, ?_, h2.far (by simp) _, ?_, ?_, ?_, T.glt⟩
 ·exact Blk.far h3 (by have := T.glt; show g ≠ w.heap.size + 1; omega) _
 ·exact h1.set_ 0 _
 ·have e : ints (out ++ ys) = ints out ++ ints ys := by simp [ints]
  rw [e]
  exact yaz ho ((Touch.refl w2 (fun k => k = w.heap.size + 1)).set (p := ⟨w.heap.size + 1, 0, none⟩) (Or.inl rfl) _) (fun k hk e => by have := (ho.lt k hk).1; omega)
 ·refine (T.tch.next ht (fun k hk e => ?_)).set (p := ⟨w.heap.size + 1, 0, none⟩) (Or.inr (by show w.heap.size ≤ w.heap.size + 1; omega)) _
  have := hown k e.symm
  omega
end
theorem blk_ints {w : World} {g n : Nat} {t : TypeId} {l : List Int} (h : Blk w g t (ints l).toArray) (hn : l.length = n) : Reads w w.heap.size 1 (some ⟨g, 0, none⟩) n (ints l) :=
 ⟨by rw [yab]; omega, fun _ => ⟨g, 0, rfl, h.lt, fun j u hu => by rw [Nat.zero_add, h.cell]; simpa using hu⟩⟩
def trdL (Z : List Int × Nat × Int) : List Int := if Z.2.2 ≠ 0 then [] else Z.1
def trdE (Z : List Int × Nat × Int) : Int := if Z.2.2 ≠ 0 then Z.2.2 else yaw Z.1
theorem trd_bad {Z : List Int × Nat × Int} {to : Nat} {e : Int} (h : ([], to, e) = Z) (he : e ≠ 0) : trdL Z = [] ∧ trdE Z = e := by
 subst h
 exact ⟨if_pos he, if_pos he⟩
theorem trd_good {Z : List Int × Nat × Int} {to : Nat} {out : List Int} (h : (out, to, 0) = Z) : trdL Z = out ∧ trdE Z = yaw out ∧ Z.2.1 = to := by
 subst h
 exact ⟨if_neg (by simp), if_neg (by simp), rfl⟩
def yeb (w w' : World) (s : List UInt8) (g : Nat) (e : Ending) (Z : List Int × Nat × Int) : Prop :=
 ∃ A c q, e = .returned (.tuple #[.slice A (trdL Z).length c, .int .i64 (trdE Z)]) ∧ (trdL Z).length ≤ c ∧ Reads w' w'.heap.size 1 A (trdL Z).length (ints (trdL Z)) ∧ RHold w' g s q ∧ Touch w w' (fun k => k = g) ∧ (Z.2.2 = 0 → q = Z.2.1) ∧ ∀ a : Addr, A = some a → w.heap.size ≤ a.block
theorem trd_end {w wr : World} {s : List UInt8} {g M to ol : Nat} {out : List Int} {Av : Option Addr} {cv : Nat} {Z : List Int × Nat × Int} {to2 : Nat} {e : Int} (T : TRd w wr s g M to ol out Av cv) (h : ([], to2, e) = Z) (he : e ≠ 0) :
  yeb w wr s g (.returned (.tuple #[.slice none 0 0, .int .i64 e])) Z := by
 obtain ⟨h1, h2⟩ := trd_bad h he
 have h3 : Z.2.2 = e := by rw [← h]
 unfold yeb
 rw [h1, h2]
 exact ⟨none, 0, to, rfl, Nat.le_refl _, Reads.none_, T.rd, T.tch, fun h => absurd (h3.symm.trans h) he, fun a h => by cases h⟩
set_option maxRecDepth 100000 in
set_option maxHeartbeats 8000000 in
theorem p_tread_any (s : List UInt8) (p g M : Nat) (w : World) (hM : M ≤ 257) (hs : s.length ≤ 100000000000) (hp : p ≤ 8 * s.length) (hR : RHold w g s p) (Z : List Int × Nat × Int) (hZ : ycy (yag s) M (M + 1) p (-1) [] = Z) :
  Calls Tryz.prog 87 #[.pointer (some ⟨g, 0, none⟩), .int .i64 (M : Int)] w fun e w' => yeb w w' s g e Z := by
 obtain ⟨i0, hi, hz0, hz1, hz9⟩ := info_parts tint_info2
 have hmf := tmkfunc
 have hMi : (0 : Int) ≤ (M : Int) ∧ (M : Int) ≤ 257 := by omega
 have hbin : Bin (yag s) := ycX s
 have hrl : (yag s).length = 8 * s.length := yay s
 have hgl := Blk.lt hR
 have T0 : TRd w ((w.alloc (.cells #[.int .i64 (M : Int)] 3)).alloc (.cells #[.slice none 0 0] 28)) s g M p 0 [] none 0 := by
  have e1 : (w.alloc (.cells #[.int .i64 (M : Int)] 3)).heap.size = w.heap.size + 1 := World.size_alloc _ _
  refine ⟨(Blk.alloc (Blk.alloc hR _) _), (Blk.new w _ _).alloc _, ?_, World.ownsRow_nil _ _ _ _, ((Touch.refl w _).alloc _).alloc _, hgl⟩
  rw [← e1]
  exact Blk.new _ _ _
 have HT0 := Lib.hid T0
 have HZ0 := Lib.hid hZ
 have Hbf := Lib.hid fun to x e h => bget_facts hbin to x e h
 have Huf := Lib.hid fun (to : Nat) c e k h => ungam_facts (R := (yag s).drop to) (fun d hd => hbin d (List.mem_of_mem_drop hd)) c e k h
 have Hrl := Lib.hid hrl
 have Hs := Lib.hid hs
 have HL0 : Hid (([] : List Int).length = 0 ∧ M < 0 + (M + 1)) := Lib.hid ⟨rfl, by omega⟩
 clear T0 hZ hbin hrl hs hR
 go_enter Tryz.func87, Tryz.ntmps87
 go_wp2
 go_loopw [8, 9, 10, 11] (fun xa xb xc xd wr => ∃ (fu to ol : Nat) (last : Int) (out : List Int) (Av : Option Addr) (cv : Nat), to ≤ 8 * s.length ∧ ol ≤ M ∧ Hid (out.length = ol ∧ M < ol + fu) ∧ Hid ((out = [] ∧ last = -1) ∨ out.getLast? = some last) ∧ Hid (ycy (yag s) M fu to last out = Z) ∧ Hid (TRd w wr s g M to ol out Av cv)) (fun xa xb xc xd wr => M - (match wr.cell? ⟨w.heap.size + 1, 0, none⟩ with | some (.slice _ m _) => m | _ => 0))
 case atStart => exact ⟨M + 1, p, 0, -1, [], none, 0, hp, by omega, HL0, Lib.hid (Or.inl ⟨rfl, rfl⟩), HZ0, HT0⟩
 case round =>
  obtain ⟨fu, to, ol, last, out, Av, cv, hto, hol, HL, Hlast, HZ, HT⟩ := hrel
  clear HT0 HZ0 HL0 hp
  have x1 : wr.cell? ⟨w.heap.size + 1, 0, none⟩ = some (.slice Av ol cv) := HT.out.lbx.cell 0
  have x2 : wr.cell? ⟨w.heap.size, 0, none⟩ = some (.int .i64 (M : Int)) := HT.out.nbx.cell 0
  rw [x1]
  by_cases hlt : ol < M
  ·have hoi : (ol : Int) < (M : Int) := by omega
   obtain ⟨f, hf⟩ : ∃ f, fu = f + 1 := ⟨fu - 1, by have := HL.out.2; omega⟩
   have hz := HZ.out
   rw [hf, yc3, if_neg (by have := HL.out.1; omega)] at hz
   have Hfu : Hid (M < ol + (f + 1)) := Lib.hid (by have := HL.out.2; omega)
   clear hf
   obtain ⟨x, e, hxe⟩ : ∃ x e, ybv (yag s) to 4 = (x, e) := ⟨_, _, rfl⟩
   have hbf := Hbf.out to x e hxe
   rw [hxe] at hz
   dsimp only at hz
   rcases hbf with ⟨rfl, h4, hx0, hx1⟩ | ⟨rfl, rfl⟩
   ·rw [if_neg (by decide)] at hz
    rw [Hrl.out] at h4
    have hxv : ((num (((yag s).drop to).take 4) : Nat) : Int) = x := by
     have := congrArg Prod.fst hxe
     unfold ybv at this
     rw [if_neg (by omega), if_neg (by rw [Hrl.out]; omega), Int.toNat_natCast] at this
     exact this
    have hget : Calls Tryz.prog 89 #[.pointer (some ⟨g, 0, none⟩), .int .i64 4] wr fun e w' => e = .returned (.tuple #[.int .i64 ((num (((yag s).drop to).take 4) : Nat) : Int), .int .i64 0]) ∧ RHold w' g s (to + 4) ∧ Touch wr w' (fun k => k = g) := get_yes s to 4 g wr (by have := Hs.out; omega) h4 (by decide) HT.out.rd
    rw [hxv] at hget
    have Hget := Lib.hid hget
    obtain ⟨c, k, fe, hke⟩ : ∃ c k fe, ybt ((yag s).drop (to + 4)) = (c, k, fe) := ⟨_, _, _, rfl⟩
    have huf := Huf.out (to + 4) c fe k hke
    rw [hke] at hz
    dsimp only at hz
    clear hget hxv hxe
    by_cases hfe : fe = 0
    ·subst hfe
     rcases huf with ⟨_, hk1, hk2, hsl⟩ | h
     ·rw [List.length_drop, Hrl.out] at hsl
      rw [if_neg (by decide)] at hz
      obtain ⟨d, rfl⟩ := Int.eq_ofNat_of_zero_le (by omega : 0 ≤ c)
      have hto2 : to + 4 + k ≤ 8 * s.length := by omega
      have Hgam := Lib.hid fun W hR => rgamma_yes s (to + 4) g d W (by have := Hs.out; omega) h4 hR k hke
      have hchk := fun W c1 c2 hr => tcheck1_any (w.heap.size + 1) w.heap.size M ol cv Av out x (d : Int) last W HL.out.1 hol hM Hlast.out hx0 c1 c2 hr
      rw [HL.out.1] at hz
      clear hke hsl
      by_cases hxl : x = last
      ·rw [if_pos hxl] at hz
       rw [if_pos hxl] at hchk
       have Hchk := Lib.hid hchk
       have Hend := Lib.hid fun (W : World) (h : TRd w W s g M (to + 4 + k) ol out Av cv) => trd_end h hz (by decide)
       clear hz hchk hxl
       go_wp2_with (first
        | (go_at_call 89; refine Hget.out.mono ?_; rintro e w2 ⟨rfl, hR2, ht2⟩; have HT2 := Lib.hid (HT.out.go hR2 ht2); clear hR2 ht2)
        | (go_at_call 124; refine (Hgam.out _ HT2.out.rd).mono ?_; rintro e w3 ⟨rfl, hR3, ht3⟩; have HT3 := Lib.hid (HT2.out.go hR3 ht3); clear hR3 ht3)
        | (go_at_call 123; refine (Hchk.out _ (HT3.out.lbx.cell 0) (HT3.out.nbx.cell 0) HT3.out.reads.1).mono ?_; rintro e w4 ⟨rfl, rfl⟩))
       go_ret2
       exact Hend.out _ HT3.out
      ·rw [if_neg hxl] at hz
       rw [if_neg hxl] at hchk
       by_cases hkb : (M : Int) - ol < (d : Int)
       ·rw [if_pos hkb] at hz
        rw [if_pos hkb] at hchk
        have Hchk := Lib.hid hchk
        have Hend := Lib.hid fun (W : World) (h : TRd w W s g M (to + 4 + k) ol out Av cv) => trd_end h hz (by decide)
        clear hz hchk hxl hkb
        go_wp2_with (first
         | (go_at_call 89; refine Hget.out.mono ?_; rintro e w2 ⟨rfl, hR2, ht2⟩; have HT2 := Lib.hid (HT.out.go hR2 ht2); clear hR2 ht2)
         | (go_at_call 124; refine (Hgam.out _ HT2.out.rd).mono ?_; rintro e w3 ⟨rfl, hR3, ht3⟩; have HT3 := Lib.hid (HT2.out.go hR3 ht3); clear hR3 ht3)
         | (go_at_call 123; refine (Hchk.out _ (HT3.out.lbx.cell 0) (HT3.out.nbx.cell 0) HT3.out.reads.1).mono ?_; rintro e w4 ⟨rfl, rfl⟩))
        go_ret2
        exact Hend.out _ HT3.out
       ·rw [if_neg hkb] at hz
        rw [if_neg hkb] at hchk
        rw [Int.toNat_natCast] at hz
        have Hchk := Lib.hid hchk
        have Hz := Lib.hid hz
        have hdm : ol + d ≤ M ∧ 1 ≤ d ∧ d ≤ 257 := by omega
        clear hz hchk hxl hkb hk1 hk2
        go_wp2_with (first
         | (go_at_call 89; refine Hget.out.mono ?_; rintro e w2 ⟨rfl, hR2, ht2⟩; have HT2 := Lib.hid (HT.out.go hR2 ht2); clear hR2 ht2)
         | (go_at_call 124; refine (Hgam.out _ HT2.out.rd).mono ?_; rintro e w3 ⟨rfl, hR3, ht3⟩; have HT3 := Lib.hid (HT2.out.go hR3 ht3); clear hR3 ht3)
         | (go_at_call 123; refine (Hchk.out _ (HT3.out.lbx.cell 0) (HT3.out.nbx.cell 0) HT3.out.reads.1).mono ?_; rintro e w4 ⟨rfl, rfl⟩))
        have hsz : w.heap.size ≤ w4.heap.size := HT3.out.tch.size
        have hlbs : w.heap.size + 1 < w4.heap.size := HT3.out.lbx.lt
        have y1 : w4.cell? ⟨w.heap.size + 1, 0, none⟩ = some (.slice Av ol cv) := HT3.out.lbx.cell 0
        have Hrep := Lib.hid (trepeat_any x (some ⟨w4.heap.size, 0, none⟩) 1 d (w4.drew.alloc (.cells #[.int .i64 x] 3)) (by omega) (by omega) (by
         have := ya1 w4.drew 3 #[.int .i64 x] 1 1 rfl
         exact this.more (by simp)))
        have Hpre : Hid (Below w4.heap.size w4 (w4.drew.alloc (.cells #[.int .i64 x] 3))) := Lib.hid ((Below.refl w4.heap.size w4).drew.alloc (Nat.le_refl _) _)
        have Hone : Hid (∀ u ∈ ints (List.replicate d x), u.oneCell' = true) := Lib.hid (yhs _)
        clear x1 x2
        go_region_law (first
         | (go_simp; go_at_call 125; refine Hrep.out.mono ?_; rintro e w6 ⟨g4, rfl, hg4, hB4, hb4⟩; have Hb4 := Lib.hid (Hpre.out.trans (hb4.mono Hpre.out.size)); have HT4 := Lib.hid (HT3.out.below Hb4.out); have HB4 := Lib.hid hB4; have y4 : w6.cell? ⟨w.heap.size + 1, 0, none⟩ = some (.slice Av ol cv) := HT4.out.lbx.cell 0; clear hB4 hb4 hg4)
         | (refine yac (by rfl) (.tmp 40) (.tmp 44) 28 (by rfl) (w.heap.size + 2) 3 i0 _ 1 8 Tryz.underlying28 hi hz0 hz1 hz9 rfl (by decide) (.slice Av ol cv) ol (ints out) (by rfl) HT4.out.row (some ⟨g4, 0, none⟩) d d _ (ints (List.replicate d x)) (by rfl) (blk_ints HB4.out (by simp)) Hone.out (by unfold maxLen; omega) (by omega) (HT4.out.lbx.lt) (ol + d) rfl ?_; intro A5 c5 w7 ho5 hg5 hs5; obtain ⟨z1, z2, hT5⟩ := HT4.out.app ho5 hg5; have HT5 := Lib.hid hT5; clear hT5 ho5 hg5 hs5))
        all_goals (
         go_wp2
         have HT8 := Lib.hid HT5.out
         have x8 := HT8.out.lbx.cell 0
         clear Hlast
         go_roundw
         case rel => exact ⟨f, to + 4 + k, ol + d, x, out ++ List.replicate d x, A5, c5, hto2, hdm.1, Lib.hid ⟨by rw [List.length_append, List.length_replicate, HL.out.1], by have := Hfu.out; omega⟩, Lib.hid (Or.inr (by rw [show d = d - 1 + 1 from by omega, List.replicate_succ', ← List.append_assoc, List.getLast?_append]; simp)), Lib.hid Hz.out, HT8⟩
         case measure =>
          rw [x8]
          show M - (ol + d) < M - ol
          omega)
     ·exact absurd h (by decide)
    ·rw [if_pos hfe] at hz
     have Hgam := Lib.hid fun W hR => rgamma_no s (to + 4) g fe W (by have := Hs.out; omega) h4 hR (by rw [hke]) hfe
     have Hend := Lib.hid fun (W : World) (h : TRd w W s g M (to + 4) ol out Av cv) => trd_end h hz hfe
     have hb1 : (fe == 0) = false := by simpa using hfe
     have hb2 : (fe != 0) = true := by simpa using hfe
     clear hz hke huf
     go_wp2_with (first
      | (go_at_call 89; refine Hget.out.mono ?_; rintro e w2 ⟨rfl, hR2, ht2⟩; have HT2 := Lib.hid (HT.out.go hR2 ht2); clear hR2 ht2)
      | (go_at_call 124; refine (Hgam.out _ HT2.out.rd).mono ?_; rintro e w3 ⟨rfl, kd, rfl⟩))
     go_ret2
     exact Hend.out _ (HT2.out.drewN kd)
   ·rw [if_pos (by decide)] at hz
    have Hget := Lib.hid (get_no s to g 4 4 wr (by have := Hs.out; omega) hto HT.out.rd (by rw [hxe]) (by decide))
    have Hend := Lib.hid fun k => trd_end (HT.out.drewN k) hz (by decide)
    clear hz hxe
    go_wp2_with (go_at_call 89; refine Hget.out.mono ?_; rintro e w2 ⟨rfl, kd, rfl⟩)
    go_ret2
    exact Hend.out _
  ·have hoi : ¬ (ol : Int) < (M : Int) := by omega
   obtain ⟨f, hf⟩ : ∃ f, fu = f + 1 ∨ fu = 0 := ⟨fu - 1, by omega⟩
   have hz : (out, to, (0 : Int)) = Z := by
    have h := HZ.out
    rcases hf with hf | hf
    ·rw [hf, yc3, if_pos (by have := HL.out.1; omega)] at h
     exact h
    ·rw [hf] at h
     exact h
   obtain ⟨g1, g2, g3⟩ := trd_good hz
   have G1 := Lib.hid g1
   have G2 := Lib.hid g2
   have G3 := Lib.hid g3
   have Hck := Lib.hid fun (W : World) (T : TRd w W s g M to ol out Av cv) => yea out Av ol cv W (by omega) T.reads.1
   rw [yf4] at Hck
   have hfin : Hid (∀ W, TRd w W s g M to ol out Av cv → yeb w W s g (.returned (.tuple #[.slice Av ol cv, .int .i64 (yaw out)])) Z) := Lib.hid fun W T => by
    unfold yeb
    rw [G1.out, G2.out, HL.out.1]
    exact ⟨Av, cv, to, rfl, T.reads.2, T.reads.1, T.rd, T.tch, fun _ => G3.out.symm, fun a h => by have := (T.row.lt a.block (by rw [h]; rfl)).1; omega⟩
   have H0 : Hid (wr.drew.cell? ⟨w.heap.size + 1, 0, none⟩ = some (.slice Av ol cv) ∧ TRd w wr.drew s g M to ol out Av cv) := Lib.hid ⟨x1, HT.out.drewN 1⟩
   clear hf hz g1 g2 g3
   generalize yaw out = E at *
   go_wp2
   go_region_held3 (fun w' => w'.cell? ⟨w.heap.size + 1, 0, none⟩ = some (.slice Av ol cv) ∧ TRd w w' s g M to ol out Av cv)
    (first | exact ⟨((show _ ∧ TRd w _ s g M to ol out Av cv by assumption).2.below hb1).lbx.cell 0, (show _ ∧ TRd w _ s g M to ol out Av cv by assumption).2.below hb1⟩ | exact H0.out)
    (first | (go_at_call 64; refine (Hck.out _ (show _ ∧ TRd w _ s g M to ol out Av cv by assumption).2).mono ?_; rintro e w' ⟨rfl, hb1⟩))
   go_wp2
   go_ret2
   exact hfin.out _ (show _ ∧ TRd w _ s g M to ol out Av cv by assumption).2
end Go.Proofs.YtoinjdmlembgeaaGreat
