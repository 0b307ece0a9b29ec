/-
  Layer 13: stepper and its closure.
-/
import Derived.Test.YtjdpogaaookoeaaBwtB
import Derived.Test.YtjdpogaaookoeaaBwtT
namespace Go.Proofs.Ytjdpogaaookoeaa
set_option linter.unusedSimpArgs false
set_option linter.unusedVariables false
open Go.ChangeShapes Go.WideShapes Go.ChangeAt Go.RowKit Go.Joins Go.Deep

/-- What the closure holds behind the last bytes of the first i: the steps that it will have told. -/
def bsp (l : List UInt8) (i : Nat) : List Int := (List.range 256).map fun b => ((bbelow l b + bsame l b i : Nat) : Int)
theorem bsp_len (l : List UInt8) (i : Nat) : (bsp l i).length = 256 := by simp [bsp]
theorem bsp_zero (l : List UInt8) : bbw l 256 = bsp l 0 := by
  unfold bbw bsp
  refine List.map_congr_left fun b hb => ?_
  rw [if_pos (List.mem_range.1 hb)]
  unfold bsame
  rw [List.take_zero]
  rfl
theorem bsp_at (l : List UInt8) (i b : Nat) (h : b < 256) : (ints (bsp l i))[b]? = some (.int .i64 ((bbelow l b + bsame l b i : Nat) : Int)) := by
  rw [ints_get _ b (by rw [bsp_len]; exact h)]
  simp [bsp]
theorem bsp_set (l : List UInt8) (i : Nat) (hi : i < l.length) : (bsp l i).set l[i].toNat ((bbelow l l[i].toNat + bsame l l[i].toNat i + 1 : Nat) : Int) = bsp l (i + 1) := by
  apply List.ext_getElem
  · rw [List.length_set, bsp_len, bsp_len]
  · intro b h1 h2
    have hs : bsame l b (i + 1) = bsame l b i + if l[i].toNat = b then 1 else 0 := by
      unfold bsame
      rw [List.take_succ_eq_append_getElem hi, List.countP_append, List.countP_singleton]
      simp only [decide_eq_true_iff]
    simp only [bsp, List.getElem_set, List.getElem_map, List.getElem_range]
    rw [hs]
    by_cases e : l[i].toNat = b
    · rw [if_pos e, if_pos e, e, Nat.add_assoc]
    · rw [if_neg e, if_neg e, Nat.add_zero]

set_option maxRecDepth 100000 in
theorem p_stepper_any (l : List UInt8) (w : World) (hs : l.length ≤ 1000000) : Calls Try.prog 22 #[.string ⟨l.toArray⟩] w fun e w' => ∃ g, e = .returned (.func (.func 27) #[] #[.pointer (some ⟨g, 0, none⟩)]) ∧ w.heap.size ≤ g ∧ Blk w' g 40 (ints (bsp l 0)).toArray ∧ Below w.heap.size w w' := by
  have hz := zero_ints256.1
  have Hp := Lib.hid (p_below_any l w hs)
  rw [bsp_zero l] at Hp
  have hlen : (ints (bsp l 0)).toArray.size = 256 := by simp [ints, bsp_len]
  have hzl : (ints (List.replicate 256 0)).toArray.size = 256 := by simp [ints]
  have Hone := Lib.hid (ints_one13 (bsp l 0))
  have hinfo := zero_ints256.2
  have Hi : Hid ((Try.prog.info? 40).map (·.size) = some (ints (bsp l 0)).toArray.size) := Lib.hid (by rw [hlen]; exact hinfo)
  have Hsz : Hid ((ints (List.replicate 256 0)).toArray.size = (ints (bsp l 0)).toArray.size) := Lib.hid (by rw [hlen]; exact hzl)
  clear hinfo hlen hzl
  generalize (ints (List.replicate 256 0)).toArray = Z at *
  generalize (ints (bsp l 0)).toArray = D at *
  have hmf : ∀ (fn : Fn) (first cap : Array Value) (w : World), (Instr.makeFunc fn first cap).run Try.prog w = .ok (.func fn first cap) w := fun _ _ _ _ => rfl
  go_enter Try.func22, Try.ntmps22
  go_wp2_with (first
    | (go_at_call 26; refine Hp.out.mono ?_; rintro e w1 ⟨rfl, hb1⟩; have Hb1 := Lib.hid hb1; clear hb1)
    | (refine wpList_store_row13 rfl 40 _ _ rfl _ _ Z D rfl rfl (heap_alloc_new _ _) Hi.out Hsz.out Hone.out ?_; rw [World.setRow_alloc_new]))
  go_ret
  exact ⟨w1.heap.size, rfl, Hb1.out.size, Blk.new _ _ _, Hb1.out.alloc Hb1.out.size _⟩

set_option maxRecDepth 100000 in
theorem p_step_any (l : List UInt8) (i : Nat) (hi : i < l.length) (b : UInt8) (hb : l[i] = b) (g : Nat) (w : World) (hs : l.length ≤ 1000000) (hB : Blk w g 40 (ints (bsp l i)).toArray) :
    Calls Try.prog 27 #[.int .u8 (b.toNat : Int), .pointer (some ⟨g, 0, none⟩)] w fun e w' => e = .returned (.int .i64 ((bbelow l b.toNat + bsame l b.toNat i + 1 : Nat) : Int)) ∧ Blk w' g 40 (ints (bsp l (i + 1))).toArray ∧ ∃ v, w' = w.setCell ⟨g, b.toNat, none⟩ v := by
  have hset := bsp_set l i hi
  rw [hb] at hset
  have hlt := b.toNat_lt
  have x1 := hB.cell b.toNat
  rw [List.getElem?_toArray, bsp_at l i b.toNat (by omega)] at x1
  have x2 := hB.frozen b.toNat
  have hgl := hB.lt
  have hc : bbelow l b.toNat + bsame l b.toNat i ≤ 2000000 := by
    have h1 := bbelow_le l b.toNat
    have h2 := bsame_le l b.toNat i
    omega
  have HB := Lib.hid (hB.set_ b.toNat (.int .i64 ((bbelow l b.toNat + bsame l b.toNat i + 1 : Nat) : Int)))
  rw [gints_set, hset] at HB
  obtain ⟨c, hcc⟩ : ∃ c, bbelow l b.toNat + bsame l b.toNat i = c := ⟨_, rfl⟩
  rw [hcc] at x1 hc HB ⊢
  obtain ⟨x, hx⟩ : ∃ x, b.toNat = x := ⟨_, rfl⟩
  rw [hx] at x1 x2 HB hlt ⊢
  have hci : (0 : Int) ≤ (c : Int) ∧ (c : Int) ≤ 2000000 ∧ (0 : Int) ≤ (x : Int) ∧ (x : Int) < 256 := by omega
  clear hset hcc hx hb hB hc hlt
  go_enter Try.func27, Try.ntmps27
  go_wp2
  go_ret
  exact ⟨rfl, HB.out, _, rfl⟩
end Go.Proofs.Ytjdpogaaookoeaa
