/-
 What the law of the last of these texts stands on, part 31.
-/
import Derived.Test.YtanjhbkbpalnaaaGreatMa25
set_option maxRecDepth 100000
set_option maxHeartbeats 8000000
open Go.Proofs.Tryz
namespace Go.Proofs.YtanjhbkbpalnaaaGreat
set_option linter.unusedSimpArgs false
set_option linter.unusedVariables false
open Go.ChangeShapes Go.WideShapes Go.ChangeAt Go.RowKit Go.Joins Go.Deep
theorem c_put_yes (ls : List Nat) (B Bw g gw : Nat) (v : Value) (R : List Nat) (s : Int) (w : World) (h : CCode w B g ls) (hl : ls.length ≤ 1000000) (hE : (yaC (wat ls 16 0) s).2 = 0) (hf : ∀ f ∈ wat ls 16 0, fits f.1 f.2) (hH : WHold w Bw gw v R) (hB : Bw ≤ w.heap.size) (hR : R.length ≤ 1099511627776) :
  Calls prog 64 #[.pointer (some ⟨g, 0, none⟩), .pointer (some ⟨gw, 0, none⟩), .int .i64 s] w fun e w' => e = .returned (.int .i64 0) ∧ ∃ v', WHold w' Bw gw v' (R ++ (yaC (wat ls 16 0) s).1) ∧ Touch w w' (WS gw v) ∧ Sep w v v' := by
 have hmf : ∀ (fn : Fn) (first cap : Array Value) (w : World), (Instr.makeFunc fn first cap).run prog w = .ok (.func fn first cap) w := fun _ _ _ _ => rfl
 have hy := c_hand_yes ls B Bw g gw v R s w h hl ((pword_ref (wat ls 16 0) s).1.trans hE) hf hH hB hR
 unfold cputV at hy
 have Hy := qaa hy
 clear h hE hf hH hB hR hy
 generalize R ++ (yaC (wat ls 16 0) s).1 = R2 at *
 go_enter func64, ntmps64
 go_wp2_with (go_at_call 109; refine Hy.out.mono ?_; rintro e w1 ⟨rfl, hp⟩; have Hp := qaa hp; clear hp)
 go_ret
 exact ⟨rfl, Hp.out⟩
theorem done_any (l : List UInt8) (p g : Nat) (w : World) (hl : l.length ≤ 1099511627776) (hp : p ≤ 8 * l.length) (hB : RHold w g l p) :
  Calls prog 90 #[.pointer (some ⟨g, 0, none⟩)] w fun e w' => e = .returned (.bool (yfH (yag l) p)) ∧ ∃ k, w.drewN k = w' := by
 by_cases h8 : 8 * l.length - p < 8
 ·by_cases hz : lz ((yag l).drop p) = 8 * l.length - p
  ·have e : yfH (yag l) p = true := by unfold yfH; rw [yax]; simp [h8, hz]
   rw [e]
   exact done_yes l p g w hl hp hB h8 hz
  ·have e : yfH (yag l) p = false := by unfold yfH; rw [yax]; simp [hz]
   rw [e]
   have hnou := fun v hB => ycG l p g v hl hp hB
   have hleft := fun v hB => ybT l p g v (by omega) hp hB
   have h8i : ((8 * l.length - p : Nat) : Int) < 8 := by omega
   have HB := qaa hB
   clear hB hp hl h8 e
   generalize 8 * l.length - p = M at *
   generalize lz ((yag l).drop p) = z at *
   have hb1 : ((z : Int) == (M : Int)) = false := by simp; omega
   have hb2 : ¬ (z : Int) = (M : Int) := by omega
   go_enter func90, ntmps90
   go_wp2_with (first
    | (go_at_call 129; refine (ycp g _).mono ?_; rintro e w1 ⟨rfl, rfl⟩)
    | (go_at_call 131; refine (hnou _ (HB.out.drewN _)).mono ?_; rintro e w1 ⟨rfl, k0, rfl⟩)
    | (go_at_call 130; (first | (refine (hleft _ HB.out).mono ?_) | (refine (hleft _ (HB.out.drewN _)).mono ?_)); rintro e w1 ⟨rfl, k1, rfl⟩))
   go_ret
   exact ⟨by simp [hb2], _, rfl⟩
 ·have e : yfH (yag l) p = false := by unfold yfH; rw [yax]; simp; omega
  rw [e]
  have hleft := fun v hB => ybT l p g v (by omega) hp hB
  have h8i : ¬ ((8 * l.length - p : Nat) : Int) < 8 := by omega
  have HB := qaa hB
  clear hB hp hl h8 e
  generalize 8 * l.length - p = M at *
  go_enter func90, ntmps90
  go_wp2_with (first
   | (go_at_call 129; refine (ycp g _).mono ?_; rintro e w1 ⟨rfl, rfl⟩)
   | (go_at_call 130; (first | (refine (hleft _ HB.out).mono ?_) | (refine (hleft _ (HB.out.drewN _)).mono ?_)); rintro e w1 ⟨rfl, k1, rfl⟩))
  go_ret
  exact ⟨rfl, _, rfl⟩
end Go.Proofs.YtanjhbkbpalnaaaGreat
