/-
  Layer 20: the probe that each statement of the layer asks beside itself returns true (ahead of the code's landing).
-/
import Derived.Test.YtgoahcmgpjacjaaGreatDisAt
import Derived.Test.YtgoahcmgpjacjaaGreatGa
namespace Go.Proofs.YtgoahcmgpjacjaaGreat
set_option linter.unusedSimpArgs false
set_option linter.unusedVariables false
open Go.ChangeShapes Go.WideShapes Go.ChangeAt Go.RowKit Go.Joins Go.Deep
def ka0 : Dk := dnew 100
def ka1 : Dk := (dcreateF ka0 [97]).1
def ka2 : Dk := (dappF ka1 [97] [97, 98]).1
def ka3 : Dk := (dsyncF ka2 [97]).1
def ka4 : Dk := (ddirF ka3).1
def ka5 : Dk := (dappF ka4 [97] [99, 100]).1
def ka6 : Dk := (dcreateF ka5 [97]).1
def ka7 : Dk := (dappF ka6 [98] []).1
def ka8 : Dk := (dappF ka7 [97] (List.replicate 97 (0 : UInt8))).1
def ka9 : Dk := dbootF ka8 0 [1] []
theorem kr1 : (dcreateF ka0 [97]).2 = 0 := by decide +kernel
theorem kr2 : (dappF ka1 [97] [97, 98]).2 = 0 := by decide +kernel
theorem kr3 : (dsyncF ka2 [97]).2 = 0 := by decide +kernel
theorem kr4 : (ddirF ka3).2 = 0 := by decide +kernel
theorem kr5 : (dappF ka4 [97] [99, 100]).2 = 0 := by decide +kernel
theorem kr6 : (dcreateF ka5 [97]).2 = 202 := by decide +kernel
theorem kr7 : (dappF ka6 [98] []).2 = 201 := by decide +kernel
theorem kr8 : (dappF ka7 [97] (List.replicate 97 (0 : UInt8))).2 = 203 := by decide +kernel
theorem kops : ka8.ops = 5 := by decide +kernel
theorem kused : (ka8.used : Int) = 4 := by decide +kernel
theorem kdead : ka8.dead = false := by decide +kernel
theorem kread : dreadF ka9 [97] = ([97, 98, 99], 0) := by decide +kernel
theorem klist : (dlistF ka9).length = 1 := by decide +kernel
theorem kon : ka9.dead = false := by decide +kernel
theorem sm0 : DSm 0 ka0 := dsm_new 100 (by decide)
theorem sm1 : DSm 1 ka1 := dsm_create sm0 [97]
theorem sm2 : DSm 2 ka2 := dsm_app sm1 _ _
theorem sm3 : DSm 3 ka3 := dsm_sync sm2 _
theorem sm4 : DSm 4 ka4 := dsm_dirs sm3
theorem sm5 : DSm 5 ka5 := dsm_app sm4 _ _
theorem sm6 : DSm 6 ka6 := dsm_create sm5 _
theorem sm7 : DSm 7 ka7 := dsm_app sm6 _ _
theorem sm8 : DSm 8 ka8 := dsm_app sm7 _ _
theorem sm9 : DSm 9 ka9 := dsm_boot sm8 0 [1] []
set_option maxRecDepth 100000 in
set_option maxHeartbeats 8000000 in
theorem awake20_any (w : World) : Calls Tryz.prog 5 #[] w fun e w' => e = .returned (.bool true) ∧ Below w.heap.size w w' := by
  have P0 := Lib.hid fun W => p_dnew_yes 100 W (by decide)
  have PN := Lib.hid fun W => p_dnew_no (-1) W (by decide)
  have P1 : Hid (∀ (W : World) (S : Nat → Prop) (g : Nat), DR W S g ka0 → Calls Tryz.prog 11 #[.pointer (some ⟨g, 0, none⟩), .string ⟨#[97]⟩] W fun e w' => e = .returned (.int .i64 0) ∧ DOp W w' S g ka1) := Lib.hid fun W S g h => by
    have := p_dcreate_any W h (sm0.more (by omega)) [97] (by decide)
    rw [kr1] at this
    exact this
  have P2 : Hid (∀ (W : World) (S : Nat → Prop) (g : Nat), DR W S g ka1 → Calls Tryz.prog 12 #[.pointer (some ⟨g, 0, none⟩), .string ⟨#[97]⟩, .string ⟨#[97, 98]⟩] W fun e w' => e = .returned (.int .i64 0) ∧ DOp W w' S g ka2) := Lib.hid fun W S g h => by
    have := p_dapp_any W h (sm1.more (by omega)) [97] [97, 98] (by decide) (by decide)
    rw [kr2] at this
    exact this
  have P3 : Hid (∀ (W : World) (S : Nat → Prop) (g : Nat), DR W S g ka2 → Calls Tryz.prog 13 #[.pointer (some ⟨g, 0, none⟩), .string ⟨#[97]⟩] W fun e w' => e = .returned (.int .i64 0) ∧ DOp W w' S g ka3) := Lib.hid fun W S g h => by
    have := p_dsync_any W h (sm2.more (by omega)) [97] (by decide)
    rw [kr3] at this
    exact this
  have P4 : Hid (∀ (W : World) (S : Nat → Prop) (g : Nat), DR W S g ka3 → Calls Tryz.prog 14 #[.pointer (some ⟨g, 0, none⟩)] W fun e w' => e = .returned (.int .i64 0) ∧ DOp W w' S g ka4) := Lib.hid fun W S g h => by
    have := p_ddirs_any W h (sm3.more (by omega))
    rw [kr4] at this
    exact this
  have P5 : Hid (∀ (W : World) (S : Nat → Prop) (g : Nat), DR W S g ka4 → Calls Tryz.prog 12 #[.pointer (some ⟨g, 0, none⟩), .string ⟨#[97]⟩, .string ⟨#[99, 100]⟩] W fun e w' => e = .returned (.int .i64 0) ∧ DOp W w' S g ka5) := Lib.hid fun W S g h => by
    have := p_dapp_any W h (sm4.more (by omega)) [97] [99, 100] (by decide) (by decide)
    rw [kr5] at this
    exact this
  have P6 : Hid (∀ (W : World) (S : Nat → Prop) (g : Nat), DR W S g ka5 → Calls Tryz.prog 11 #[.pointer (some ⟨g, 0, none⟩), .string ⟨#[97]⟩] W fun e w' => e = .returned (.int .i64 202) ∧ DOp W w' S g ka6) := Lib.hid fun W S g h => by
    have := p_dcreate_any W h (sm5.more (by omega)) [97] (by decide)
    rw [kr6] at this
    exact this
  have P7 : Hid (∀ (W : World) (S : Nat → Prop) (g : Nat), DR W S g ka6 → Calls Tryz.prog 12 #[.pointer (some ⟨g, 0, none⟩), .string ⟨#[98]⟩, .string ⟨#[]⟩] W fun e w' => e = .returned (.int .i64 201) ∧ DOp W w' S g ka7) := Lib.hid fun W S g h => by
    have := p_dapp_any W h (sm6.more (by omega)) [98] [] (by decide) (by decide)
    rw [kr7] at this
    exact this
  have P8 : Hid (∀ (W : World) (S : Nat → Prop) (g : Nat), DR W S g ka7 → Calls Tryz.prog 12 #[.pointer (some ⟨g, 0, none⟩), .string ⟨#[97]⟩, .string ⟨(List.replicate 97 (0 : UInt8)).toArray⟩] W fun e w' => e = .returned (.int .i64 203) ∧ DOp W w' S g ka8) := Lib.hid fun W S g h => by
    have := p_dapp_any W h (sm7.more (by omega)) [97] (List.replicate 97 (0 : UInt8)) (by rw [List.length_replicate]; omega) (by decide)
    rw [kr8] at this
    exact this
  have P9 : Hid (∀ (W : World) (S : Nat → Prop) (g : Nat), DR W S g ka8 → Calls Tryz.prog 15 #[.pointer (some ⟨g, 0, none⟩)] W fun e w' => e = .returned (.int .i64 5) ∧ Below W.heap.size W w') := Lib.hid fun W S g h => by
    have := p_dops_any W h (sm8.more (by omega))
    rw [kops] at this
    exact this
  have P10 : Hid (∀ (W : World) (S : Nat → Prop) (g : Nat), DR W S g ka8 → Calls Tryz.prog 16 #[.pointer (some ⟨g, 0, none⟩)] W fun e w' => e = .returned (.int .i64 4) ∧ Below W.heap.size W w') := Lib.hid fun W S g h => by
    have := p_dused_any W h (sm8.more (by omega))
    rw [kdead, if_neg (by decide), kused] at this
    exact this
  have P11 : Hid (∀ (W : World) (S : Nat → Prop) (g b : Nat), DR W S g ka8 → Blk W b 3 #[.int .i64 1] → ¬ S b → Calls Tryz.prog 17 #[.pointer (some ⟨g, 0, none⟩), .agg #[.int .i64 0, .slice (some ⟨b, 0, none⟩) 1 1, .slice none 0 0]] W fun e w' => e = .returned (.int .i64 0) ∧ DOp W w' S g ka9) := Lib.hid fun W S g b h hb hn => by
    refine p_dboot_any W h (sm8.more (by omega)) ⟨0, 0, [], [], 0, [1], [], some ⟨b, 0, none⟩, 1, none, 0⟩ ⟨⟨rfl, fun _ => ⟨b, 0, rfl, hb.lt, fun j u hu => ?_⟩⟩, Reads.none_, Nat.le_refl _, Nat.le_refl _, by show 1 ≤ maxLen; unfold maxLen; omega, Nat.zero_le _, ⟨by show (-9223372036854775808 : Int) ≤ 0; decide, by show (0 : Int) < _; decide⟩, ⟨by show (-9223372036854775808 : Int) ≤ 0; decide, by show (0 : Int) < _; decide⟩⟩ ⟨fun _ => ⟨b, 0, rfl, hn⟩, fun h => absurd h (Nat.lt_irrefl _)⟩ (fun m hm => by cases hm)
    rw [Nat.zero_add, hb.cell j]
    match j, hu with
    | 0, hu => exact hu
    | j + 1, hu => cases hu
  have P12 : Hid (∀ (W : World) (S : Nat → Prop) (g : Nat), DR W S g ka9 → Calls Tryz.prog 18 #[.pointer (some ⟨g, 0, none⟩), .string ⟨#[97]⟩] W fun e w' => e = .returned (.tuple #[.string ⟨#[97, 98, 99]⟩, .int .i64 0]) ∧ Below W.heap.size W w') := Lib.hid fun W S g h => by
    have := p_dread_any W h (sm9.more (by omega)) [97] (by decide)
    rw [kread] at this
    exact this
  have P13 : Hid (∀ (W : World) (S : Nat → Prop) (g : Nat), DR W S g ka9 → Calls Tryz.prog 19 #[.pointer (some ⟨g, 0, none⟩)] W fun e w' => ∃ A c, e = .returned (.slice A 1 c) ∧ Below W.heap.size W w') := Lib.hid fun W S g h => by
    refine (p_dlist_any W h (sm9.more (by omega))).mono fun e w' he => ?_
    obtain ⟨A, c, h1, _, _, _, h5⟩ := he
    rw [klist] at h1
    exact ⟨A, c, h1, h5⟩
  have P14 : Hid (∀ (W : World) (S : Nat → Prop) (g : Nat), DR W S g ka9 → Calls Tryz.prog 20 #[.pointer (some ⟨g, 0, none⟩)] W fun e w' => e = .returned (.bool true) ∧ Below W.heap.size W w') := Lib.hid fun W S g h => by
    have := p_don_any W h (sm9.more (by omega))
    rw [kon] at this
    exact this
  obtain ⟨zs, hzs⟩ : ∃ zs : List UInt8, List.replicate 97 0 = zs := ⟨_, rfl⟩
  have hmk := fun W => mk_bytes 97 97 rfl (by omega) W
  rw [hzs] at P8 hmk
  have hcv := fun W : World => str_blk (W.alloc (.cells (bc zs) 5)) W.heap.size 97 97 5 zs (by rw [← hzs, List.length_replicate]) (Blk.new W _ _)
  clear hzs
  go_enter Tryz.func5, Tryz.ntmps5
  go_wp2_with (first
    | (go_at_call 6; (with_reducible refine (P0.out _).mono ?_); rintro e w0 ⟨g, S0, rfl, hd, hs, hb⟩; have HA := Lib.hid (DAt.mk hd sm0 hs hb : DAt w w0 S0 g ka0 0); clear hd hs hb P0)
    | (go_at_call 11; (with_reducible refine (P1.out _ _ _ HA.out.dr).mono ?_); rintro e w1 ⟨rfl, ho⟩; obtain ⟨S1, hA, -, -⟩ := HA.out.op ho sm1; clear HA ho P1; have HA := Lib.hid hA; clear hA)
    | (go_at_call 12; (with_reducible refine (P2.out _ _ _ HA.out.dr).mono ?_); rintro e w2 ⟨rfl, ho⟩; obtain ⟨S2, hA, -, -⟩ := HA.out.op ho sm2; clear HA ho P2; have HA := Lib.hid hA; clear hA)
    | (go_at_call 13; (with_reducible refine (P3.out _ _ _ HA.out.dr).mono ?_); rintro e w3 ⟨rfl, ho⟩; obtain ⟨S3, hA, -, -⟩ := HA.out.op ho sm3; clear HA ho P3; have HA := Lib.hid hA; clear hA)
    | (go_at_call 14; (with_reducible refine (P4.out _ _ _ HA.out.dr).mono ?_); rintro e w4 ⟨rfl, ho⟩; obtain ⟨S4, hA, -, -⟩ := HA.out.op ho sm4; clear HA ho P4; have HA := Lib.hid hA; clear hA)
    | (go_at_call 12; (with_reducible refine (P5.out _ _ _ HA.out.dr).mono ?_); rintro e w5 ⟨rfl, ho⟩; obtain ⟨S5, hA, -, -⟩ := HA.out.op ho sm5; clear HA ho P5; have HA := Lib.hid hA; clear hA)
    | (go_at_call 11; (with_reducible refine (P6.out _ _ _ HA.out.dr).mono ?_); rintro e w6 ⟨rfl, ho⟩; obtain ⟨S6, hA, -, -⟩ := HA.out.op ho sm6; clear HA ho P6; have HA := Lib.hid hA; clear hA)
    | (go_at_call 12; (with_reducible refine (P7.out _ _ _ HA.out.dr).mono ?_); rintro e w7 ⟨rfl, ho⟩; obtain ⟨S7, hA, -, -⟩ := HA.out.op ho sm7; clear HA ho P7; have HA := Lib.hid hA; clear hA)
    | (go_at_call 12; (with_reducible refine (P8.out _ _ _ (HA.out.on ((Below.refl _ _).alloc (Nat.le_refl _) _)).dr).mono ?_); rintro e w8 ⟨rfl, ho⟩; obtain ⟨S8, hA, -, -⟩ := (HA.out.on ((Below.refl _ _).alloc (Nat.le_refl _) _)).op ho sm8; clear HA ho P8 hmk hcv; have HA := Lib.hid hA; clear hA)
    | (go_at_call 15; (with_reducible refine (P9.out _ _ _ HA.out.dr).mono ?_); rintro e w9 ⟨rfl, hb⟩; replace HA := Lib.hid (HA.out.on hb); clear hb P9)
    | (go_at_call 16; (with_reducible refine (P10.out _ _ _ HA.out.dr).mono ?_); rintro e w10 ⟨rfl, hb⟩; replace HA := Lib.hid (HA.out.on hb); clear hb P10)
    | (go_at_call 18; (with_reducible refine (P12.out _ _ _ HA.out.dr).mono ?_); rintro e w12 ⟨rfl, hb⟩; replace HA := Lib.hid (HA.out.on hb); clear hb P12)
    | (go_at_call 20; (with_reducible refine (P14.out _ _ _ HA.out.dr).mono ?_); rintro e w14 ⟨rfl, hb⟩; replace HA := Lib.hid (HA.out.on hb); clear hb P14)
    | (go_at_call 19; (with_reducible refine (P13.out _ _ _ HA.out.dr).mono ?_); rintro e w13 ⟨A13, c13, rfl, hb⟩; replace HA := Lib.hid (HA.out.on hb); clear hb P13)
    | (go_at_call 17; (with_reducible refine (P11.out _ _ _ _ (HA.out.on ((Below.refl _ _).alloc (Nat.le_refl _) _)).dr (Blk.new _ _ _) (fun hs => absurd (HA.out.dr.lt _ hs) (Nat.lt_irrefl _))).mono ?_); rintro e w11 ⟨rfl, ho⟩; obtain ⟨S11, hA, -, -⟩ := (HA.out.on ((Below.refl _ _).alloc (Nat.le_refl _) _)).op ho sm9; clear HA ho P11; have HA := Lib.hid hA; clear hA)
    | (go_at_call 6; (with_reducible refine (PN.out _).mono ?_); rintro e w15 ⟨rfl, hb⟩; replace HA := Lib.hid (HA.out.on hb); clear hb PN)
    | fail)
  go_ret
  exact ⟨rfl, HA.out.below⟩
end Go.Proofs.YtgoahcmgpjacjaaGreat
