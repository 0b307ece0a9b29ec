/-
  Layer 4: what Pack of package bits does, for every row of fields.
-/
import Derived.Test.YtakkljajoollgaaBitE
import Derived.Laws.EntriesVeiled
namespace Go.Proofs.Ytakkljajoollgaa
set_option linter.unusedSimpArgs false
set_option linter.unusedVariables false
open Go.ChangeShapes Go.WideShapes Go.ChangeAt Go.RowKit Go.Joins Go.Deep

set_option maxRecDepth 100000 in
set_option maxHeartbeats 2000000 in
theorem pack_any (l : List (Int × Int)) (A : Option Addr) (n c : Nat) (w : World) (hn : l.length = n) (hl : n ≤ 1000) (hr : Reads w w.heap.size 2 A n (pairs .i64 l)) :
    Calls Try.prog 8 #[.slice A n c] w fun e w' => e = .returned (packV l) ∧ Below w.heap.size w w' := by
  have hmf : ∀ (fn : Fn) (first cap : Array Value) (w : World), (Instr.makeFunc fn first cap).run Try.prog w = .ok (.func fn first cap) w := fun _ _ _ _ => rfl
  have hH0 : WHold (w.alloc (.cells #[.slice none 0 0, .int .i64 0] 39)) w.heap.size w.heap.size (.slice none 0 0) [] := by
    refine ⟨by simpa [fr] using Blk.new w 39 #[.slice none 0 0, .int .i64 0], ?_, bin_nil⟩
    simpa [text_nil, bc] using World.ownsRow_nil (w.alloc (.cells #[.slice none 0 0, .int .i64 0] 39)) w.heap.size 5 1
  have heach := fun (W : World) hB hr hH hP => eachF_any l A n c w.heap.size w.heap.size w.heap.size (w.heap.size + 1) (.slice none 0 0) W hn hl hr (Nat.le_refl _) (Nat.le_refl _) hB hH hP
  have Hr := Lib.hid hr
  have HH0 := Lib.hid hH0
  have Heach := Lib.hid heach
  have Hl : Hid (∀ r, packF l = some r → r.length ≤ 1099511627776) := Lib.hid fun r h => by have := (pack_len l r h).1; omega
  have hb2 := Blk.new (w.alloc (.cells #[.slice none 0 0, .int .i64 0] 39)) 46 #[putV w.heap.size]
  rw [show (w.alloc (.cells #[.slice none 0 0, .int .i64 0] 39)).heap.size = w.heap.size + 1 from by simp] at hb2
  have HP1 := Lib.hid hb2
  have HH1 : Hid (WHold ((w.alloc (.cells #[.slice none 0 0, .int .i64 0] 39)).alloc (.cells #[putV w.heap.size] 46)) w.heap.size w.heap.size (.slice none 0 0) []) := Lib.hid (hH0.below ((Below.refl _ _).alloc (Nat.le_refl _) _) (Nat.le_refl _))
  have hbel : Below w.heap.size w ((w.alloc (.cells #[.slice none 0 0, .int .i64 0] 39)).alloc (.cells #[putV w.heap.size] 46)) := by go_grown
  have HR1 : Hid (Reads ((w.alloc (.cells #[.slice none 0 0, .int .i64 0] 39)).alloc (.cells #[putV w.heap.size] 46)) w.heap.size 2 A n (pairs .i64 l)) := Lib.hid (hr.below hbel)
  have Hbel := Lib.hid hbel
  have HB1 : Hid (w.heap.size ≤ (((w.alloc (.cells #[.slice none 0 0, .int .i64 0] 39)).alloc (.cells #[putV w.heap.size] 46))).heap.size) := Lib.hid hbel.size
  clear hr hH0 heach hn hl hb2 hbel
  have hcall := Heach.out _ HB1.out HR1.out HH1.out HP1.out
  have Hszl := Lib.hid Hbel.out.size
  clear Heach HR1 HH1 HP1 HB1 Hr HH0
  have htb : ∀ {w1 : World}, Touch ((w.alloc (.cells #[.slice none 0 0, .int .i64 0] 39)).alloc (.cells #[putV w.heap.size] 46)) w1 (WS w.heap.size (.slice none 0 0)) → Below w.heap.size w w1 := fun ht =>
    Hbel.out.trans (ht.below (fun k _ h => by
      rcases h with h | h
      · omega
      · cases h) Hszl.out)
  have Htb : Hid (∀ {w1 : World}, Touch ((w.alloc (.cells #[.slice none 0 0, .int .i64 0] 39)).alloc (.cells #[putV w.heap.size] 46)) w1 (WS w.heap.size (.slice none 0 0)) → Below w.heap.size w w1) := Lib.hid htb
  clear htb
  unfold EachPost at hcall
  unfold packV
  cases hp : packF l with
  | some r =>
    rw [hp] at hcall
    have hr := Hl.out r hp
    clear hp Hl
    have Hcall := Lib.hid hcall
    have Hr := Lib.hid hr
    clear hcall hr
    go_enter Try.func8, Try.ntmps8
    go_wp2_with (first
      | (go_at_call 25; refine Hcall.out.mono ?_; rintro e w1 ⟨ht1, rfl, v1, hH1, hs1⟩; have HH1 := Lib.hid hH1; have Ht1 := Lib.hid ht1; clear hH1 ht1 hs1)
      | (go_at_call 18; refine (wtext_any _ _ _ _ _ HH1.out).mono ?_; rintro e w2 ⟨rfl, rfl⟩))
    go_ret2
    exact ⟨rfl, Htb.out Ht1.out⟩
  | none =>
    rw [hp] at hcall
    clear hp Hl
    have Hcall := Lib.hid hcall
    clear hcall
    go_enter Try.func8, Try.ntmps8
    go_wp2_with (first
      | (go_at_call 25; refine Hcall.out.mono ?_; rintro e w1 ⟨ht1, rfl⟩; have Ht1 := Lib.hid ht1; clear ht1))
    go_ret2
    exact ⟨rfl, Htb.out Ht1.out⟩
end Go.Proofs.Ytakkljajoollgaa
